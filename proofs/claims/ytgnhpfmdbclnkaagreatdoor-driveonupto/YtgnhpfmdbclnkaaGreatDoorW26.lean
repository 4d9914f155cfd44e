/- Whether one has no register (slices.Contains at []api.Place), and slots for those that have none (build.builder.giveSlots). -/
import Derived.Test.YtgnhpfmdbclnkaaGreatDoorW25
import Derived.Test.YtgnhpfmdbclnkaaGreatDoorW01
import Derived.Test.YtgnhpfmdbclnkaaGreatDoorW16
import Derived.Test.YtgnhpfmdbclnkaaGreatDoorW24

namespace Go.Proofs.YtgnhpfmdbclnkaaGreatDoor
set_option linter.unusedVariables false
namespace form
open Go.RowKit
set_option maxRecDepth 100000
attribute [local go_sem ↓] Go.wp_at_zero Go.wp_at_succ
def IdxP (G : List LPlace) (w : World) (e : Ending) (w' : World) : Prop := ∃ r : Int, e = .returned (.int .i64 r) ∧ (0 ≤ r ↔ hasZ G = true) ∧ Below w.heap.size w w'
theorem hasZ_at {G : List LPlace} {k : Nat} (h : k < G.length) (e : G.getD k .zero = .zero) : hasZ G = true := by
  unfold hasZ
  rw [List.any_eq_true]
  exact ⟨G.getD k .zero, by simp [List.getD, h], by rw [e]; exact same_refl _⟩
theorem hasZ_more {G : List LPlace} {k : Nat} (h : k < G.length) (h0 : hasZ (G.take k) = false) (e : ¬ G.getD k .zero = .zero) : hasZ (G.take (k + 1)) = false := by
  rw [take_oneP h]
  unfold hasZ at h0 ⊢
  rw [List.any_append, h0, Bool.false_or, List.any_cons, List.any_nil, Bool.or_false]
  rcases Bool.eq_false_or_eq_true (samePl (G.getD k .zero) .zero) with c | c
  · exact absurd (same_is c) e
  · exact c
set_option maxHeartbeats 1600000 in
theorem indexO (gv cap : Nat) (G : List LPlace) (w : World) (hG : GivAt w gv G) (h12 : G.length ≤ 12) :
    Calls Tryz.prog 117 #[.slice (some ⟨gv, 0, none⟩) G.length cap, .agg #[.int .i64 0, .int .i64 0]] w fun e w' => IdxP G w e w' := by
  have HG : Hid (∀ wx, Below w.heap.size w wx → GivAt wx gv G) := fun wx hb => hG.later hb
  have HW0 : Hid (∀ o : Obj, Below w.heap.size w (w.alloc o)) := fun o => (Below.refl _ _).alloc (Nat.le_refl _) _
  have y1 : (G.length : Int) ≤ 12 := by omega
  clear hG
  go_enter Tryz.func117, Tryz.ntmps117
  go_wp2
  go_loopg [5, 8] (G.length + 1) (fun gg v5 v8 wr => ∃ (k : Nat), v8 = .int .i64 k ∧ k ≤ G.length ∧ gg = G.length + 1 - k ∧ Below w.heap.size w wr ∧ (wr.cell? ⟨w.heap.size, 0, none⟩ = some (.int .i64 0) ∧ wr.cell? ⟨w.heap.size, 1, none⟩ = some (.int .i64 0)) ∧ hasZ (G.take k) = false)
  case atStart => exact ⟨0, rfl, by omega, by omega, HW0.out _, ⟨by simp [go_sem], by simp [go_sem]⟩, by simp [hasZ]⟩
  case round =>
    obtain ⟨k, rfl, hk, hgk, hb, ⟨c0, c1'⟩, hz⟩ := hrel
    have HGK : Hid (gk = G.length + 1 - k) := hgk
    have HB : Hid (Below w.heap.size w wr) := hb
    have HZ : Hid (hasZ (G.take k) = false) := hz
    clear hgk hb hz
    by_cases hlt : k < G.length
    case neg =>
      have y2 : ¬ (k : Int) < (G.length : Int) := by omega
      obtain rfl : k = G.length := by omega
      go_wp2
      go_ret
      have hf := HZ.out
      rw [List.take_length] at hf
      exact ⟨-1, rfl, by rw [hf]; simp, HB.out⟩
    have y2 : (k : Int) < (G.length : Int) := by omega
    have y3 : (0 : Int) ≤ (k : Int) := by omega
    obtain ⟨e0, e1⟩ := HG.out wr HB.out k hlt
    obtain ⟨p, hp⟩ : ∃ p, p = G.getD k .zero := ⟨_, rfl⟩
    rw [← hp] at e0 e1
    have HP : Hid (p = G.getD k .zero) := hp
    clear hp
    obtain ⟨pk, pn⟩ := p
    dsimp only at e0 e1
    by_cases hpz : pk = 0 ∧ pn = 0
    · obtain ⟨rfl, rfl⟩ := hpz
      have hy := hasZ_at hlt HP.out.symm
      have HY : Hid (hasZ G = true) := hy
      clear hy
      go_wp2
      go_quiet (fail)
      go_wp2
      go_ret
      exact ⟨k, rfl, by rw [HY.out]; simp, below_drewN HB.out _⟩
    · have HN : Hid (hasZ (G.take (k + 1)) = false) := hasZ_more hlt HZ.out (fun e => hpz (by have := HP.out.trans e; unfold LPlace.zero at this; simpa using this))
      by_cases hpk : pk = 0
      · have hf : ((0 : Int) == pn) = false := by
          rw [beq_eq_false_iff_ne]
          exact fun e => hpz ⟨hpk, e.symm⟩
        clear hpz
        subst hpk
        go_wp2
        go_quiet (fail)
        go_wp2
        have hgk := HGK.out
        go_roundg (gk - 1)
        case measure => omega
        case rel => exact ⟨k + 1, by go_num, by omega, by omega, below_drewN HB.out _, ⟨c0, c1'⟩, HN.out⟩
      · have hf : ((0 : Int) == pk) = false := by
          rw [beq_eq_false_iff_ne]
          exact fun e => hpk e.symm
        clear hpz hpk
        go_wp2
        go_quiet (fail)
        go_wp2
        have hgk := HGK.out
        go_roundg (gk - 1)
        case measure => omega
        case rel => exact ⟨k + 1, by go_num, by omega, by omega, below_drewN HB.out _, ⟨c0, c1'⟩, HN.out⟩
set_option maxHeartbeats 1600000 in
theorem containsZ (gv cap : Nat) (G : List LPlace) (w : World) (hG : GivAt w gv G) (h12 : G.length ≤ 12) :
    Calls Tryz.prog 74 #[.slice (some ⟨gv, 0, none⟩) G.length cap, .agg #[.int .i64 0, .int .i64 0]] w fun e w' => e = .returned (.bool (hasZ G)) ∧ Below w.heap.size w w' := by
  have HI : Hid (∀ wx, Below w.heap.size w wx → Calls Tryz.prog 117 #[.slice (some ⟨gv, 0, none⟩) G.length cap, .agg #[.int .i64 0, .int .i64 0]] wx fun e w' => IdxP G wx e w') := fun wx hb => indexO gv cap G wx (hG.later hb) h12
  have HW0 : Hid (∀ o : Obj, Below w.heap.size w (w.alloc o)) := fun o => (Below.refl _ _).alloc (Nat.le_refl _) _
  clear hG
  go_enter Tryz.func74, Tryz.ntmps74
  go_wp2_with (go_at_call 117; refine (HI.out _ (HW0.out _)).mono ?_; rintro e w1 ⟨r, rfl, hr, hb1⟩; have HR : Hid (0 ≤ r ↔ hasZ G = true) := hr; have HB1 : Hid (Below w.heap.size w w1) := step_below hb1 (HW0.out _); clear hr hb1)
  go_ret
  refine ⟨ret_bool ?_, HB1.out⟩
  have := HR.out
  rcases Bool.eq_false_or_eq_true (hasZ G) with c | c
  · rw [c] at this ⊢; simp at this; simpa using this
  · rw [c] at this ⊢; simp at this; simpa using this
structure GvS (bb b0 o0 c0 b1 o1 c1 gv cap : Nat) (B : List Bool) (C : List LIns) (G : List LPlace) (f0 f1 : Int) (w : World) (k : Nat) (wr : World) : Prop where
  bd : Row wr bb 107 (bdC b0 o0 B.length c0 b1 o1 C.length c1 gv cap (noneN (G.take k)) f0 f1)
  row : Row wr gv 115 ((giveU G k).flatMap rgCs)
  but : But bb gv w wr
section
variable {bb b0 o0 c0 b1 o1 c1 gv cap : Nat} {B : List Bool} {C : List LIns} {G : List LPlace} {f0 f1 : Int} {w wr w1 : World} {k : Nat}
theorem GvS.below (h : GvS bb b0 o0 c0 b1 o1 c1 gv cap B C G f0 f1 w k wr) (hb : Below wr.heap.size wr w1) : GvS bb b0 o0 c0 b1 o1 c1 gv cap B C G f0 f1 w k w1 := ⟨h.bd.below hb, h.row.below hb, h.but.trans (But.of_below hb)⟩
theorem GvS.no (h : GvS bb b0 o0 c0 b1 o1 c1 gv cap B C G f0 f1 w k wr) (hk : k < G.length) (h0 : ¬ (G.getD k .zero).kind = 0) : GvS bb b0 o0 c0 b1 o1 c1 gv cap B C G f0 f1 w (k + 1) wr := by
  obtain ⟨e1, e2⟩ := giveU_no hk h0
  exact ⟨by rw [e2]; exact h.bd, by rw [e1]; exact h.row, h.but⟩
theorem GvS.yes (h : GvS bb b0 o0 c0 b1 o1 c1 gv cap B C G f0 f1 w k wr) (hne : bb ≠ gv) (hk : k < G.length) (h0 : (G.getD k .zero).kind = 0) :
    GvS bb b0 o0 c0 b1 o1 c1 gv cap B C G f0 f1 w (k + 1) (((wr.setCell ⟨gv, k * 2, none⟩ (.int .i64 3)).setCell ⟨gv, k * 2 + 1, none⟩ (.int .i64 (noneN (G.take k)))).setCell ⟨bb, 3, none⟩ (.int .i64 ((noneN (G.take k) : Nat) + 1))) := by
  obtain ⟨e1, e2⟩ := giveU_yes hk h0
  refine ⟨?_, ?_, ((h.but.setY _ _).setY _ _).setX _ _⟩
  · rw [e2]
    have := ((h.bd.other (a := ⟨gv, k * 2, none⟩) hne (.int .i64 3)).other (a := ⟨gv, k * 2 + 1, none⟩) hne (.int .i64 (noneN (G.take k)))).set 3 (.int .i64 ((noneN (G.take k) : Nat) + 1))
    exact this
  · rw [e1]
    have := ((h.row.set (k * 2) (.int .i64 3)).set (k * 2 + 1) (.int .i64 (noneN (G.take k))))
    have e := flat_set (giveU G k) k ⟨3, (noneN (G.take k) : Int)⟩
    dsimp only at e
    rw [e] at this
    exact this.other (a := ⟨bb, 3, none⟩) (fun e => hne e.symm) _
end
set_option maxHeartbeats 3200000 in
theorem giveSlotsO (bb b0 o0 c0 b1 o1 c1 gv cap : Nat) (B : List Bool) (C : List LIns) (G : List LPlace) (f0 f1 : Int) (w : World) (hl : G.length = B.length) (h12 : B.length ≤ 12) (hne : bb ≠ gv)
    (hbd : Row w bb 107 (bdC b0 o0 B.length c0 b1 o1 C.length c1 gv cap 0 f0 f1)) (hrow : Row w gv 115 (G.flatMap rgCs)) :
    Calls Tryz.prog 36 #[.pointer (some ⟨bb, 0, none⟩)] w fun e w' => e = .returned (.tuple #[]) ∧ GvS bb b0 o0 c0 b1 o1 c1 gv cap B C G f0 f1 w B.length w' := by
  have h2 : w.cell? ⟨bb, 2, none⟩ = some (.slice (some ⟨gv, 0, none⟩) B.length cap) := hbd.cell 2
  have HS : Hid (GvS bb b0 o0 c0 b1 o1 c1 gv cap B C G f0 f1 w 0 w) := ⟨by simpa [noneN] using hbd, by rw [giveU_zero]; exact hrow, But.refl _⟩
  have y1 : (B.length : Int) ≤ 12 := by omega
  clear hbd hrow
  go_enter Tryz.func36, Tryz.ntmps36
  go_wp2
  clear h2
  go_loopg [2, 3, 9] (B.length + 1) (fun gg v2 v3 v9 wr => ∃ (k : Nat), v9 = .int .i64 k ∧ k ≤ B.length ∧ gg = B.length + 1 - k ∧ GvS bb b0 o0 c0 b1 o1 c1 gv cap B C G f0 f1 w k wr)
  case atStart => exact ⟨0, rfl, by omega, by omega, HS.out⟩
  case round =>
    clear HS
    obtain ⟨k, rfl, hk, hgk, hs⟩ := hrel
    have HGK : Hid (gk = B.length + 1 - k) := hgk
    have HS : Hid (GvS bb b0 o0 c0 b1 o1 c1 gv cap B C G f0 f1 w k wr) := hs
    clear hgk hs
    by_cases hlt : k < B.length
    case neg =>
      have y2 : ¬ (k : Int) < (B.length : Int) := by omega
      go_wp2
      go_end0
      refine ⟨rfl, ?_⟩
      have := HS.out
      rwa [show k = B.length by omega] at this
    have y2 : (k : Int) < (B.length : Int) := by omega
    have y3 : (0 : Int) ≤ (k : Int) := by omega
    have hltg : k < G.length := by omega
    have HLT : Hid (k < G.length) := hltg
    clear hltg
    have q2 : wr.cell? ⟨bb, 2, none⟩ = some (.slice (some ⟨gv, 0, none⟩) B.length cap) := HS.out.bd.cell 2
    have q3 : wr.cell? ⟨bb, 3, none⟩ = some (.int .i64 (noneN (G.take k))) := HS.out.bd.cell 3
    have hgt := row_giv HS.out.row k (by rw [giveU_len]; omega)
    rw [giveU_get (by omega)] at hgt
    obtain ⟨e0, e1⟩ := hgt
    have hbb := World.block_lt_of_cell? _ _ q2
    have hgv := World.block_lt_of_cell? _ _ e0
    have z0 := fun j => HS.out.bd.frozen j
    have z1 := fun j => HS.out.row.frozen j
    obtain ⟨m, hm⟩ : ∃ m, m = noneN (G.take k) := ⟨_, rfl⟩
    have HM : Hid (m = noneN (G.take k)) := hm
    have hm12 : m ≤ 12 := by rw [hm]; have := noneN_le (G.take k); simp at this; omega
    have y4 : (m : Int) ≤ 12 := by omega
    have y5 : (0 : Int) ≤ (m : Int) := by omega
    rw [← hm] at q3
    clear hm hm12
    by_cases hz : (G.getD k .zero).kind = 0
    · have HZ : Hid ((G.getD k .zero).kind = 0) := hz
      rw [hz] at e0
      clear hz
      obtain ⟨pn, hpn⟩ : ∃ pn, pn = (G.getD k .zero).n := ⟨_, rfl⟩
      rw [← hpn] at e1
      clear hpn
      go_upto_region 4 with fail
      obtain ⟨w5, hw5⟩ : ∃ w5, w5 = wr.alloc (.cells #[.int .i64 0, .int .i64 pn] 115) := ⟨_, rfl⟩
      have hb5 : Below wr.heap.size wr w5 := by rw [hw5]; exact (Below.refl _ _).alloc (Nat.le_refl _) _
      rw [← hw5]
      clear hw5
      have HS5 : Hid (GvS bb b0 o0 c0 b1 o1 c1 gv cap B C G f0 f1 w k w5) := HS.out.below hb5
      have q2 := step_cell hb5 q2
      have q3 := step_cell hb5 q3
      have e0 := step_cell hb5 e0
      have e1 := step_cell hb5 e1
      have z0 : ∀ j, w5.frozen? ⟨bb, j, none⟩ = false := fun j => HS5.out.bd.frozen j
      have z1 : ∀ j, w5.frozen? ⟨gv, j, none⟩ = false := fun j => HS5.out.row.frozen j
      have hbb5 := World.block_lt_of_cell? _ _ q2
      have hgv5 := World.block_lt_of_cell? _ _ e0
      clear hb5
      go_region_held3 (fun w' => w'.cell? ⟨bb, 2, none⟩ = some (.slice (some ⟨gv, 0, none⟩) B.length cap) ∧ w'.cell? ⟨bb, 3, none⟩ = some (.int .i64 (m : Int)))
        ((go_split_ands; refine ⟨?_, ?_⟩ <;> first | assumption | exact cell_other (cell_other (by assumption) (by dsimp only; omega)) (by dsimp only; omega) | (go_keep; done)))
        (fail)
      go_wp2
      have hgk := HGK.out
      go_roundg (gk - 1)
      case measure => omega
      case rel =>
        have := HS5.out.yes hne HLT.out HZ.out
        rw [← HM.out] at this
        exact ⟨k + 1, by go_num, by omega, by omega, this.below (Below.refl _ _).drew⟩
    · obtain ⟨p, hp⟩ : ∃ p, p = G.getD k .zero := ⟨_, rfl⟩
      have HP : Hid (p = G.getD k .zero) := hp
      rw [← hp] at e0 e1 hz
      clear hp
      obtain ⟨pk, pn⟩ := p
      dsimp only at e0 e1 hz
      go_wp2
      have hgk := HGK.out
      go_roundg (gk - 1)
      case measure => omega
      case rel => exact ⟨k + 1, by go_num, by omega, by omega, (HS.out.below ((Below.refl _ _).alloc (Nat.le_refl _) _)).no HLT.out (by rw [← HP.out]; exact hz)⟩
end form
/- Where the A and the B of an instruction go, and what must be moved for that (build.builder.take). -/
namespace form
open Go.RowKit
set_option maxRecDepth 100000
attribute [local go_sem ↓] Go.wp_at_zero Go.wp_at_succ
structure TbS (w1 : World) (pa pb : Bool) (a b : Int) (x y : Nat) (wq : World) : Prop where
  bel : Below w1.heap.size w1 wq
  lo : w1.heap.size ≤ x ∧ w1.heap.size ≤ y
  x0 : wq.cell? ⟨x, 0, none⟩ = some (.bool pa)
  x1 : wq.cell? ⟨x, 1, none⟩ = some (.bool pb)
  y0 : wq.cell? ⟨y, 0, none⟩ = some (.int .i64 a)
  y1 : wq.cell? ⟨y, 1, none⟩ = some (.int .i64 b)
def TbR (w1 : World) (pa pb : Bool) (a b : Int) (s9 s10 : Value) (wq : World) : Prop := ∃ x y, s9 = .pointer (some ⟨x, 0, none⟩) ∧ s10 = .pointer (some ⟨y, 0, none⟩) ∧ TbS w1 pa pb a b x y wq
theorem tb12 (w1 : World) (pa pb : Bool) (a b : Int) : TbR w1 pa pb a b (.pointer (some ⟨w1.heap.size, 0, none⟩)) (.pointer (some ⟨w1.heap.size + 1, 0, none⟩)) ((w1.alloc (.cells #[.bool pa, .bool pb] 211)).alloc (.cells #[.int .i64 a, .int .i64 b] 105)).drew :=
  ⟨_, _, rfl, rfl, ((((Below.refl _ _).alloc (Nat.le_refl _) _).alloc (by simp) _).drew), ⟨Nat.le_refl _, Nat.le_succ _⟩, by simp [go_sem], by simp [go_sem], by simp [go_sem], by simp [go_sem]⟩
theorem tb21 (w1 : World) (pa pb : Bool) (a b : Int) : TbR w1 pa pb a b (.pointer (some ⟨w1.heap.size + 1, 0, none⟩)) (.pointer (some ⟨w1.heap.size, 0, none⟩)) ((w1.alloc (.cells #[.int .i64 a, .int .i64 b] 105)).alloc (.cells #[.bool pa, .bool pb] 211)).drew :=
  ⟨_, _, rfl, rfl, ((((Below.refl _ _).alloc (Nat.le_refl _) _).alloc (by simp) _).drew), ⟨Nat.le_succ _, Nat.le_refl _⟩, by simp [go_sem], by simp [go_sem], by simp [go_sem], by simp [go_sem]⟩
structure TkS (w : World) (base x : Nat) (pa pb : Bool) (p q : LPlace) (l : List LMove) (v : Value) (wr : World) : Prop where
  bel : Below w.heap.size w wr
  sz : base ≤ wr.heap.size
  lt : w.heap.size + 1 < base ∧ w.heap.size + 1 < x ∧ x < base
  x0 : wr.cell? ⟨x, 0, none⟩ = some (.bool pa)
  x1 : wr.cell? ⟨x, 1, none⟩ = some (.bool pb)
  row : Row wr (w.heap.size + 1) 188 [.int .i64 p.kind, .int .i64 p.n, .int .i64 q.kind, .int .i64 q.n]
  mv : MvB base l v wr
section
variable {w : World} {base x : Nat} {pa pb : Bool} {p q : LPlace} {l : List LMove} {v : Value} {wr w1 : World}
theorem TkS.below (h : TkS w base x pa pb p q l v wr) (hb : Below wr.heap.size wr w1) : TkS w base x pa pb p q l v w1 :=
  ⟨step_below hb h.bel, Nat.le_trans h.sz hb.size, h.lt, step_cell hb h.x0, step_cell hb h.x1, h.row.below hb, h.mv.below hb⟩
theorem MvB.other {base : Nat} {l : List LMove} {v : Value} {w : World} (h : MvB base l v w) {a : Addr} (ha : a.block < base) (u : Value) : MvB base l v (w.setCell a u) := by
  refine World.ownsRow.kept h (row := some a.block) ⟨rfl, rfl, rfl, by simp, fun k hk hne => heap_setCell_other w a k u (fun e => hne (by rw [e]))⟩ ?_
  cases hv : v.ownBlock with
  | none => exact Or.inl rfl
  | some k => exact Or.inr (fun e => by have := (World.ownsRow.lt h k hv).1; simp at e; omega)
theorem MvB.lower {base base' : Nat} {l : List LMove} {v : Value} {w : World} (h : MvB base l v w) (hb : base' ≤ base) : MvB base' l v w := by
  obtain ⟨h1, h2⟩ := h
  refine ⟨h1, ?_⟩
  rcases h2 with h2 | ⟨g, cap, cur, e, hg, r⟩
  · exact Or.inl h2
  · exact Or.inr ⟨g, cap, cur, e, Nat.le_trans hb hg, r⟩
theorem TkS.putA (h : TkS w base x pa pb p q l v wr) (r : LPlace) : TkS w base x pa pb r q l v ((wr.setCell ⟨w.heap.size + 1, 0, none⟩ (.int .i64 r.kind)).setCell ⟨w.heap.size + 1, 1, none⟩ (.int .i64 r.n)) := by
  obtain ⟨h1, h2, h3⟩ := h.lt
  exact ⟨(h.bel.setCell (by dsimp only; omega) _).setCell (by dsimp only; omega) _, by simpa [World.setCell] using h.sz, h.lt, cell_other (cell_other h.x0 (by dsimp only; omega)) (by dsimp only; omega), cell_other (cell_other h.x1 (by dsimp only; omega)) (by dsimp only; omega), (h.row.set 0 _).set 1 _, (h.mv.other (by dsimp only; omega) _).other (by dsimp only; omega) _⟩
theorem TkS.putB (h : TkS w base x pa pb p q l v wr) (r : LPlace) : TkS w base x pa pb p r l v ((wr.setCell ⟨w.heap.size + 1, 2, none⟩ (.int .i64 r.kind)).setCell ⟨w.heap.size + 1, 3, none⟩ (.int .i64 r.n)) := by
  obtain ⟨h1, h2, h3⟩ := h.lt
  exact ⟨(h.bel.setCell (by dsimp only; omega) _).setCell (by dsimp only; omega) _, by simpa [World.setCell] using h.sz, h.lt, cell_other (cell_other h.x0 (by dsimp only; omega)) (by dsimp only; omega), cell_other (cell_other h.x1 (by dsimp only; omega)) (by dsimp only; omega), (h.row.set 2 _).set 3 _, (h.mv.other (by dsimp only; omega) _).other (by dsimp only; omega) _⟩
theorem TkS.bring (h : TkS w base x pa pb p q l v wr) {l2 : List LMove} {v2 : Value} (hm : MvB base l2 v2 w1) (hb : Below base wr w1) : TkS w base x pa pb p q l2 v2 w1 := by
  obtain ⟨h1, h2, h3⟩ := h.lt
  refine ⟨h.bel.trans (hb.mono (by omega)), Nat.le_trans h.sz hb.size, h.lt, ?_, ?_, ?_, hm⟩
  · rw [World.cell?_of_block (w := wr) (hb.block x h3)]; exact h.x0
  · rw [World.cell?_of_block (w := wr) (hb.block x h3)]; exact h.x1
  · have := h.row
    unfold Row at this ⊢
    rw [hb.block _ (by omega)]
    exact this
end
def TakeP (B : List Bool) (H : List LPlace) (f0 f1 : Int) (i : LIns) (w : World) (e : Ending) (w' : World) : Prop :=
  ∃ v, e = .returned (.tuple #[.agg #[.int .i64 (rowPA B H f0 i).kind, .int .i64 (rowPA B H f0 i).n, .int .i64 (rowBB B H f1 i).kind, .int .i64 (rowBB B H f1 i).n], v]) ∧ MvB w.heap.size (rowMB B H f1 i (rowMA B H f0 i)) v w' ∧ Below w.heap.size w w'
theorem bringL_len (l : List LMove) (d c : LPlace) : (bringL l d c).length ≤ l.length + 1 := by
  rcases bring_cases l d c with ⟨-, e⟩ | e <;> rw [e] <;> simp
theorem rowMA_len (B : List Bool) (H : List LPlace) (f0 : Int) (i : LIns) : (rowMA B H f0 i).length ≤ 1 := by
  unfold rowMA
  split
  · exact bringL_len [] _ _
  · simp
set_option maxHeartbeats 4000000 in
theorem takeO {bb b0 o0 c0 b1 o1 c1 gv cap : Nat} {B : List Bool} {C : List LIns} {H : List LPlace} {slots f0 f1 : Int} {w : World} (h : BdR bb b0 o0 c0 b1 o1 c1 gv cap B C H slots f0 f1 w) (h12 : B.length ≤ 12) (hf0 : 0 ≤ f0 ∧ f0 ≤ 100) (hf1 : 0 ≤ f1 ∧ f1 ≤ 100) (i : LIns) (hi : InsOk B.length C.length i) (hkn : knownB i.op = true) :
    Calls Tryz.prog 118 #[.pointer (some ⟨bb, 0, none⟩), i.val] w fun e w' => TakeP B H f0 f1 i w e w' := by
  obtain ⟨a, ha⟩ : ∃ a : Nat, i.a = a := ⟨i.a.toNat, by have := hi.a0; omega⟩
  obtain ⟨b, hb⟩ : ∃ b : Nat, i.b = b := ⟨i.b.toNat, by have := hi.b0; omega⟩
  have hal : a < B.length := by have := hi.a1; omega
  have hbl : b < B.length := by have := hi.b1; omega
  have HHas : Hid (∀ wx : World, Calls Tryz.prog 57 #[.int .i64 i.op] wx fun e w' => e = .returned (.tuple #[.bool (givesB i.op), .bool (decide (0 < manyI i.op)), .bool (decide (1 < manyI i.op))]) ∧ Below wx.heap.size wx w') := fun wx => by
    have := has i.op wx
    rwa [isT_gives hkn, (isT_many hkn).1, (isT_many hkn).2] at this
  have HBD : Hid (BdR bb b0 o0 c0 b1 o1 c1 gv cap B C H slots f0 f1 w) := h
  have HRA : Hid (rowPA B H f0 i = if 0 < manyI i.op then regL B H a f0 else .zero) := by show _ = _; unfold rowPA; rw [ha]; rfl
  have HRB : Hid (rowBB B H f1 i = if 1 < manyI i.op then regL B H b f1 else .zero) := by show _ = _; unfold rowBB; rw [hb]; rfl
  have HMA : Hid (rowMA B H f0 i = if 0 < manyI i.op then bringL [] (regL B H a f0) (H.getD a .zero) else []) := by show _ = _; unfold rowMA; rw [ha]; rfl
  have HMB : Hid (rowMB B H f1 i (rowMA B H f0 i) = if 1 < manyI i.op then bringL (rowMA B H f0 i) (regL B H b f1) (H.getD b .zero) else rowMA B H f0 i) := by show _ = _; unfold rowMB; rw [hb]; rfl
  have HAL : Hid (a < B.length) := hal
  have HBL : Hid (b < B.length) := hbl
  have HL1 : Hid ((rowMA B H f0 i).length ≤ 1) := rowMA_len B H f0 i
  have HPW : Hid (Below w.heap.size w w) := Below.refl _ _
  have hlt0 := World.block_lt_of_cell? _ _ h.p0
  obtain ⟨pa, hpa⟩ : ∃ pa, pa = decide (0 < manyI i.op) := ⟨_, rfl⟩
  obtain ⟨pb, hpb⟩ : ∃ pb, pb = decide (1 < manyI i.op) := ⟨_, rfl⟩
  have HPA : Hid (pa = decide (0 < manyI i.op)) := hpa
  have HPB : Hid (pb = decide (1 < manyI i.op)) := hpb
  rw [← hpa, ← hpb] at HHas
  obtain ⟨gg0, hgg0⟩ : ∃ gg0, gg0 = givesB i.op := ⟨_, rfl⟩
  rw [← hgg0] at HHas
  clear h hi hkn hpa hpb hgg0
  unfold LIns.val
  obtain ⟨op, hop⟩ : ∃ op, op = i.op := ⟨_, rfl⟩
  rw [← hop] at HHas ⊢
  clear hop
  obtain ⟨de, hde⟩ : ∃ de, de = i.dest := ⟨_, rfl⟩
  rw [ha, hb, ← hde]
  clear hde ha hb
  obtain ⟨ic, hic⟩ : ∃ ic, ic = i.c := ⟨_, rfl⟩
  obtain ⟨im, him⟩ : ∃ im, im = i.n := ⟨_, rfl⟩
  rw [← hic, ← him]
  clear hic him
  go_enter Tryz.func118, Tryz.ntmps118
  go_upto_region 2 with (go_at_call 57; refine (HHas.out _).mono ?_; rintro e w1 ⟨rfl, hb1⟩; have i2 : w1.cell? ⟨w.heap.size, 2, none⟩ = some (.int .i64 (a : Int)) := step_cell hb1 (by simp [go_sem]); have i3 : w1.cell? ⟨w.heap.size, 3, none⟩ = some (.int .i64 (b : Int)) := step_cell hb1 (by simp [go_sem]); have HB1 : Hid (Below w.heap.size w w1) := step_below hb1 (((Below.refl _ _).alloc (Nat.le_refl _) _).alloc (by simp) _); have HR1 : Hid (Row w1 (w.heap.size + 1) 188 [.int .i64 0, .int .i64 0, .int .i64 0, .int .i64 0]) := Row.below (by have := Row.new (w.alloc (.cells #[.int .i64 op, .int .i64 de, .int .i64 a, .int .i64 b, .int .i64 ic, .int .u32 im] 45)) 188 [.int .i64 0, .int .i64 0, .int .i64 0, .int .i64 0]; simpa using this) hb1; clear hb1)
  have hz1 := HR1.out.lt
  have o1 : ∀ x : Obj, Below w1.heap.size w1 (w1.alloc x).drew := fun x => ((Below.refl _ _).alloc (Nat.le_refl _) _).drew
  have o2 : ∀ x y : Obj, Below w1.heap.size w1 ((w1.alloc x).alloc y).drew := fun x y => (((Below.refl _ _).alloc (Nat.le_refl _) _).alloc (by simp) _).drew
  go_cut [9, 10] (fun s9 s10 wq => TbR w1 pa pb a b s9 s10 wq)
  case first =>
    refine wp_region_held_drew (S := (fun w' => Below w1.heap.size w1 w')) (by rfl) ?_ (fun hHeld => ?_)
    · (exact (Below.refl _ _).drew)
    refine wpAnyH_take (i := 0) (v := ?_) rfl (by kernel_rfl) (by kernel_rfl) (by kernel_rfl) (fun _ _ _ h => h) (Or.inl ⟨by rfl, ?_⟩) (by assumption) ?_
    case refine_2 => (intro w hSw; (try dsimp only at hSw); go_simp; try with_reducible rfl)
    show wpAnyH _ _ _ _ _ _ _ (Act.put _ (some 20) _) _
    simp only [pz]
    refine wpAnyH_take (i := 1) (v := ?_) rfl (by kernel_rfl) (by kernel_rfl) (by kernel_rfl) (fun _ _ _ h => h) (Or.inl ⟨by rfl, ?_⟩) (by assumption) ?_
    case refine_2 => (intro w hSw; (try dsimp only at hSw); go_simp; try with_reducible rfl)
    show wpAnyH _ _ _ _ _ _ _ (Act.put _ (some 21) _) _
    simp only [pz]
    refine wpAnyH_take (i := 2) (v := ?_) rfl (by kernel_rfl) (by kernel_rfl) (by kernel_rfl) (fun _ _ _ h => h) (Or.inl ⟨by rfl, ?_⟩) (by assumption) ?_
    case refine_2 => (intro w hSw; (try dsimp only at hSw); go_simp; try with_reducible rfl)
    show wpAnyH _ _ _ _ _ _ _ (Act.put _ (some 22) _) _
    simp only [pz]
    refine wpAnyH_take (i := 3) (v := ?_) rfl (by kernel_rfl) (by kernel_rfl) (by kernel_rfl) (fun _ _ _ h => h) (Or.inl ⟨by rfl, ?_⟩) (by assumption) ?_
    case refine_2 => (intro w hSw; (try dsimp only at hSw); go_simp; try with_reducible rfl)
    show wpAnyH _ _ _ _ _ _ _ (Act.put _ (some 23) _) _
    simp only [pz]
    refine wpAnyH_take (i := 4) (v := ?_) rfl (by kernel_rfl) (by kernel_rfl) (by kernel_rfl) (fun _ _ _ h => h) (Or.inl ⟨by rfl, ?_⟩) (by assumption) ?_
    case refine_2 => (intro w5 hSw; (try dsimp only at hSw); have si2 := step_cell hSw i2; go_simp; try with_reducible rfl)
    show wpAnyH _ _ _ _ _ _ _ (Act.put _ (some 24) _) _
    simp only [pz]
    refine wpAnyH_take (i := 5) (v := ?_) rfl (by kernel_rfl) (by kernel_rfl) (by kernel_rfl) (fun _ _ _ h => h) (Or.inl ⟨by rfl, ?_⟩) (by assumption) ?_
    case refine_2 => (intro w hSw; (try dsimp only at hSw); go_simp; try with_reducible rfl)
    show wpAnyH _ _ _ _ _ _ _ (Act.put _ (some 25) _) _
    simp only [pz]
    refine wpAnyH_take (i := 6) (v := ?_) rfl (by kernel_rfl) (by kernel_rfl) (by kernel_rfl) (fun _ _ _ h => h) (Or.inl ⟨by rfl, ?_⟩) (by assumption) ?_
    case refine_2 => (intro w5 hSw; (try dsimp only at hSw); have si3 := step_cell hSw i3; go_simp; try with_reducible rfl)
    show wpAnyH _ _ _ _ _ _ _ (Act.put _ (some 26) _) _
    simp only [pz]
    refine wpAnyH_take (i := 7) (v := ?_) rfl (by kernel_rfl) (by kernel_rfl) (by kernel_rfl) (fun _ _ _ h => h) (Or.inl ⟨by rfl, ?_⟩) (by assumption) ?_
    case refine_2 => (intro w hSw; (try dsimp only at hSw); go_simp; try with_reducible rfl)
    show wpAnyH _ _ _ _ _ _ _ (Act.put _ (some 27) _) _
    simp only [pz]
    refine wpAnyH_ready (rs := [8, 9]) (by kernel_rfl) (by simp) ?_
    refine (AllReadyH.cons rfl (fun K hK => ?_) (AllReadyH.cons rfl (fun K hK => ?_) AllReadyH.nil))
    · skip
      go_simp
      refine hK.out _ _ ?_ (fun hHeld => ?_)
      · (exact o1 _)
      clear hK K
      try simp only [pz]
      refine wpAnyH_ready (rs := [9]) (by kernel_rfl) (by simp) ?_
      refine (AllReadyH.cons rfl (fun K hK => ?_) AllReadyH.nil)
      go_simp
      refine hK.out _ _ ?_ (fun hHeld => ?_)
      · (exact o2 _ _)
      clear hK K
      try simp only [pz]
      refine wpAnyH_ready (rs := [10]) (by kernel_rfl) (by simp) ?_
      refine (AllReadyH.cons rfl (fun K hK => ?_) AllReadyH.nil)
      go_simp
      refine hK.out _ _ ?_ (fun hHeld => ?_)
      · (exact o2 _ _)
      clear hK K
      try simp only [pz]
      refine wpAnyH_ready (rs := [11]) (by kernel_rfl) (by simp) ?_
      refine (AllReadyH.cons rfl (fun K hK => ?_) AllReadyH.nil)
      go_simp
      refine hK.out _ _ ?_ (fun hHeld => ?_)
      · (exact o2 _ _)
      clear hK K
      try simp only [pz]
      refine wpAnyH_done (by kernel_rfl) ?_ _
      clear hHeld
      go_wp2_with fail
      go_meet
      case rel => exact tb12 w1 pa pb a b
    · skip
      go_simp
      refine hK.out _ _ ?_ (fun hHeld => ?_)
      · (exact o1 _)
      clear hK K
      try simp only [pz]
      refine wpAnyH_ready (rs := [8]) (by kernel_rfl) (by simp) ?_
      refine (AllReadyH.cons rfl (fun K hK => ?_) AllReadyH.nil)
      go_simp
      refine hK.out _ _ ?_ (fun hHeld => ?_)
      · (exact o2 _ _)
      clear hK K
      try simp only [pz]
      refine wpAnyH_ready (rs := [10]) (by kernel_rfl) (by simp) ?_
      refine (AllReadyH.cons rfl (fun K hK => ?_) AllReadyH.nil)
      go_simp
      refine hK.out _ _ ?_ (fun hHeld => ?_)
      · (exact o2 _ _)
      clear hK K
      try simp only [pz]
      refine wpAnyH_ready (rs := [11]) (by kernel_rfl) (by simp) ?_
      refine (AllReadyH.cons rfl (fun K hK => ?_) AllReadyH.nil)
      go_simp
      refine hK.out _ _ ?_ (fun hHeld => ?_)
      · (exact o2 _ _)
      clear hK K
      try simp only [pz]
      refine wpAnyH_done (by kernel_rfl) ?_ _
      clear hHeld
      go_wp2_with fail
      go_meet
      case rel => exact tb21 w1 pa pb a b
  case rest =>
    obtain ⟨x, y, hs9, hs10, htb⟩ := hcut
    subst hs9
    subst hs10
    obtain ⟨wd, hwd⟩ : ∃ wd, wd = wc := ⟨_, rfl⟩
    rw [← hwd] at htb ⊢
    clear hwd o1 o2 i2 i3
    have HTK : Hid (TkS w wd.heap.size x pa pb .zero .zero [] (.slice none 0 0) wd) := ⟨step_below htb.bel HB1.out, Nat.le_refl _, ⟨Nat.lt_of_lt_of_le hz1 htb.bel.size, Nat.lt_of_lt_of_le hz1 htb.lo.1, World.block_lt_of_cell? _ _ htb.x0⟩, htb.x0, htb.x1, HR1.out.below htb.bel, World.ownsRow_nil _ _ _ _⟩
    have y0 := htb.y0
    have y1 := htb.y1
    obtain ⟨base, hbase⟩ : ∃ base, base = wd.heap.size := ⟨_, rfl⟩
    rw [← hbase] at HTK
    clear htb hbase HR1 HB1 hz1
    go_wp2
    clear y0 y1
    go_loopg [5, 11, 12, 29] 3 (fun gg v5 v11 v12 v29 wr => ∃ k : Nat, v29 = .int .i64 k ∧ k ≤ 2 ∧ gg = 3 - k ∧ TkS w base x pa pb (if k = 0 then .zero else rowPA B H f0 i) (if k = 2 then rowBB B H f1 i else .zero) (if k = 0 then [] else if k = 1 then rowMA B H f0 i else rowMB B H f1 i (rowMA B H f0 i)) v5 wr)
    case atStart => exact ⟨0, rfl, by omega, by omega, HTK.out⟩
    case round =>
      clear HTK
      obtain ⟨k, rfl, hk, hgk, htk⟩ := hrel
      have HGK : Hid (gk = 3 - k) := hgk
      clear hgk
      rcases (show k = 0 ∨ k = 1 ∨ k = 2 by omega) with rfl | rfl | rfl
      · have ix0 : ∀ w, (Instr.index 105 (.agg #[.int .i64 (a : Int), .int .i64 (b : Int)]) (.int .i64 0)).run Tryz.prog w = .ok (.int .i64 (a : Int)) w := fun _ => by kernel_rfl
        have htk2 : TkS w base x pa pb LPlace.zero LPlace.zero ([] : List LMove) u5 wr := by simpa using htk
        have HT : Hid (TkS w base x pa pb LPlace.zero LPlace.zero ([] : List LMove) u5 wr) := htk2
        clear htk2
        clear htk
        have x0 := HT.out.x0
        have hxl := World.block_lt_of_cell? _ _ x0
        have g0 : wr.cell? ⟨w.heap.size + 1, 0, none⟩ = some (.int .i64 LPlace.zero.kind) := HT.out.row.cell 0
        have g1 : wr.cell? ⟨w.heap.size + 1, 1, none⟩ = some (.int .i64 LPlace.zero.n) := HT.out.row.cell 1
        have g2 : wr.cell? ⟨w.heap.size + 1, 2, none⟩ = some (.int .i64 LPlace.zero.kind) := HT.out.row.cell 2
        have g3 : wr.cell? ⟨w.heap.size + 1, 3, none⟩ = some (.int .i64 LPlace.zero.n) := HT.out.row.cell 3
        have hlt1 := World.block_lt_of_cell? _ _ g0
        rcases Bool.eq_false_or_eq_true pa with hc | hc
        · have hm : 0 < manyI i.op := by have := HPA.out; rw [hc] at this; exact of_decide_eq_true this.symm
          have HRX : Hid (rowPA B H f0 i = regL B H a f0) := by show _ = _; rw [HRA.out, if_pos hm]
          have HMX : Hid ((rowMA B H f0 i) = bringL ([] : List LMove) (regL B H a f0) (H.getD a .zero)) := by show _ = _; rw [HMA.out, if_pos hm]
          rw [hc] at x0
          clear hc hm
          have hbd := HBD.out.later HT.out.bel
          have p2 := hbd.p2
          have p4 := hbd.p4
          obtain ⟨e0, e1⟩ := hbd.row a (by rw [hbd.len]; exact HAL.out)
          have hbbl := World.block_lt_of_cell? _ _ p2
          have hgvl := World.block_lt_of_cell? _ _ e0
          have HRG : Hid (Calls Tryz.prog 119 #[.pointer (some ⟨bb, 0, none⟩), .int .i64 (a : Nat), .int .i64 f0] wr fun e w' => RegP B H a f0 wr e w') := registerO hbd a HAL.out f0 hf0.1 hf0.2
          have yt : (a : Int) < (B.length : Int) := by have := HAL.out; omega
          have yt0 : (0 : Int) ≤ (a : Int) := by omega
          have hgv0 : gv < w.heap.size := World.block_lt_of_cell? _ _ (HBD.out.row a (by rw [HBD.out.len]; exact HAL.out)).1
          have HGV0 : Hid (gv < w.heap.size) := hgv0
          clear hgv0
          have hnb : ¬ bb = w.heap.size + 1 ∧ ¬ gv = w.heap.size + 1 := ⟨by have := hlt0; omega, by have h9 : gv < w.heap.size := World.block_lt_of_cell? _ _ (HBD.out.row a (by rw [HBD.out.len]; exact HAL.out)).1; omega⟩
          obtain ⟨p, hp⟩ : ∃ p, p = regL B H a f0 := ⟨_, rfl⟩
          unfold RegP at HRG
          rw [← hp] at HRG HRX HMX
          obtain ⟨q, hq⟩ : ∃ q, q = H.getD a .zero := ⟨_, rfl⟩
          rw [← hq] at e0 e1 HMX
          clear hp hq hbd
          have zf := fun j => HT.out.row.frozen j
          go_upto_region 8 with (go_at_call 119; refine HRG.out.mono ?_; rintro e w2 ⟨rfl, hb2⟩; unfold LPlace.val; have HB2 : Hid (Below wr.heap.size wr w2) := hb2; have g0 := step_cell hb2 g0; have g1 := step_cell hb2 g1; have g2 := step_cell hb2 g2; have g3 := step_cell hb2 g3; have zf : ∀ j, w2.frozen? ⟨w.heap.size + 1, j, none⟩ = false := (fun j => (HT.out.row.below hb2).frozen j); clear hb2)
          have HT3 := (HT.out.below HB2.out).putA p
          obtain ⟨w3, hw3⟩ : ∃ w3, w3 = (w2.setCell ⟨w.heap.size + 1, 0, none⟩ (.int .i64 p.kind)).setCell ⟨w.heap.size + 1, 1, none⟩ (.int .i64 p.n) := ⟨_, rfl⟩
          have r2 : w3.cell? ⟨bb, 2, none⟩ = some (.slice (some ⟨gv, 0, none⟩) B.length cap) := by rw [hw3]; exact cell_other (cell_other (step_cell HB2.out p2) (by dsimp only; omega)) (by dsimp only; omega)
          have r3 : w3.cell? ⟨gv, a * 2, none⟩ = some (.int .i64 q.kind) := by rw [hw3]; exact cell_other (cell_other (step_cell HB2.out e0) (by dsimp only; omega)) (by dsimp only; omega)
          have r4 : w3.cell? ⟨gv, a * 2 + 1, none⟩ = some (.int .i64 q.n) := by rw [hw3]; exact cell_other (cell_other (step_cell HB2.out e1) (by dsimp only; omega)) (by dsimp only; omega)
          rw [← hw3] at HT3 ⊢
          clear hw3 HB2 HT HRG g0 g1 g2 g3 x0 p2 p4 e0 e1 zf hxl
          have HT4 : Hid (TkS w base x pa pb p LPlace.zero ([] : List LMove) u5 w3) := HT3
          have r0 : w3.cell? ⟨w.heap.size + 1, 0, none⟩ = some (.int .i64 p.kind) := HT3.row.cell 0
          have r1 : w3.cell? ⟨w.heap.size + 1, 1, none⟩ = some (.int .i64 p.n) := HT3.row.cell 1
          have hl3 := World.block_lt_of_cell? _ _ r0
          have hbb3 := World.block_lt_of_cell? _ _ r2
          have hgv3 := World.block_lt_of_cell? _ _ r3
          clear HT3
          have HBR : Hid (∀ wx : World, Below w3.heap.size w3 wx → Calls Tryz.prog 120 #[u5, .agg #[.int .i64 p.kind, .int .i64 p.n], .agg #[.int .i64 q.kind, .int .i64 q.n]] wx fun e w' => BringP base ([] : List LMove) p q wx e w') := fun wx hb => bringO base ([] : List LMove) p q u5 wx (HT4.out.mv.below hb) (Nat.le_trans HT4.out.sz hb.size) (by simp)
          go_region_held3 (fun w' => w'.cell? ⟨w.heap.size + 1, 0, none⟩ = some (.int .i64 p.kind) ∧ w'.cell? ⟨w.heap.size + 1, 1, none⟩ = some (.int .i64 p.n) ∧ w'.cell? ⟨bb, 2, none⟩ = some (.slice (some ⟨gv, 0, none⟩) B.length cap) ∧ w'.cell? ⟨gv, a * 2, none⟩ = some (.int .i64 q.kind) ∧ w'.cell? ⟨gv, a * 2 + 1, none⟩ = some (.int .i64 q.n))
            ((go_split_ands; refine ⟨?_, ?_, ?_, ?_, ?_⟩ <;> first | assumption | (go_keep; done)))
            (first | (go_at_call 120; refine (HBR.out _ (Below.refl _ _).drew).mono ?_; rintro e w6 ⟨v6, rfl, hm6, hb6⟩; have HT6 : Hid (TkS w base x pa pb p LPlace.zero (bringL ([] : List LMove) p q) v6 w6) := (HT4.out.below (Below.refl _ _).drew).bring hm6 hb6; have rr : ∀ (bk j : Nat) (u : Value), bk < base → w3.cell? ⟨bk, j, none⟩ = some u → w6.cell? ⟨bk, j, none⟩ = some u := (fun bk j u hbk hc => (World.cell?_of_block (w := w3.drew) (hb6.block bk hbk)).trans hc); have HLB : Hid (w.heap.size + 1 < base) := HT4.out.lt.1; have r0 := rr _ _ _ HLB.out r0; have r1 := rr _ _ _ HLB.out r1; have r2 := rr _ _ _ (by have := HLB.out; omega) r2; have r3 := rr _ _ _ (by have := HLB.out; have := HGV0.out; omega) r3; have r4 := rr _ _ _ (by have := HLB.out; have := HGV0.out; omega) r4; clear rr hm6 hb6))
          go_wp2
          have hgk := HGK.out
          go_roundg (gk - 1)
          case measure => omega
          case rel =>
            refine ⟨1, by go_num, by omega, by omega, ?_⟩
            have := HT6.out
            rw [← HMX.out, ← HRX.out] at this
            simpa using this
        · have hm : ¬ 0 < manyI i.op := by have := HPA.out; rw [hc] at this; exact of_decide_eq_false this.symm
          have HRX : Hid (rowPA B H f0 i = LPlace.zero) := by show _ = _; rw [HRA.out, if_neg hm]
          have HMX : Hid ((rowMA B H f0 i) = ([] : List LMove)) := by show _ = _; rw [HMA.out, if_neg hm]
          rw [hc] at x0
          clear hc hm
          go_wp2
          have hgk := HGK.out
          go_roundg (gk - 1)
          case measure => omega
          case rel =>
            refine ⟨1, by go_num, by omega, by omega, ?_⟩
            have := HT.out
            rw [← HMX.out] at this
            simpa [HRX.out] using this
      · have ix1 : ∀ w, (Instr.index 105 (.agg #[.int .i64 (a : Int), .int .i64 (b : Int)]) (.int .i64 1)).run Tryz.prog w = .ok (.int .i64 (b : Int)) w := fun _ => by kernel_rfl
        have htk2 : TkS w base x pa pb (rowPA B H f0 i) LPlace.zero (rowMA B H f0 i) u5 wr := by simpa using htk
        have HT : Hid (TkS w base x pa pb (rowPA B H f0 i) LPlace.zero (rowMA B H f0 i) u5 wr) := htk2
        clear htk2
        clear htk
        have x1 := HT.out.x1
        have hxl := World.block_lt_of_cell? _ _ x1
        have g0 : wr.cell? ⟨w.heap.size + 1, 0, none⟩ = some (.int .i64 (rowPA B H f0 i).kind) := HT.out.row.cell 0
        have g1 : wr.cell? ⟨w.heap.size + 1, 1, none⟩ = some (.int .i64 (rowPA B H f0 i).n) := HT.out.row.cell 1
        have g2 : wr.cell? ⟨w.heap.size + 1, 2, none⟩ = some (.int .i64 LPlace.zero.kind) := HT.out.row.cell 2
        have g3 : wr.cell? ⟨w.heap.size + 1, 3, none⟩ = some (.int .i64 LPlace.zero.n) := HT.out.row.cell 3
        have hlt1 := World.block_lt_of_cell? _ _ g0
        rcases Bool.eq_false_or_eq_true pb with hc | hc
        · have hm : 1 < manyI i.op := by have := HPB.out; rw [hc] at this; exact of_decide_eq_true this.symm
          have HRX : Hid (rowBB B H f1 i = regL B H b f1) := by show _ = _; rw [HRB.out, if_pos hm]
          have HMX : Hid ((rowMB B H f1 i (rowMA B H f0 i)) = bringL (rowMA B H f0 i) (regL B H b f1) (H.getD b .zero)) := by show _ = _; rw [HMB.out, if_pos hm]
          rw [hc] at x1
          clear hc hm
          have hbd := HBD.out.later HT.out.bel
          have p2 := hbd.p2
          have p5 := hbd.p5
          obtain ⟨e0, e1⟩ := hbd.row b (by rw [hbd.len]; exact HBL.out)
          have hbbl := World.block_lt_of_cell? _ _ p2
          have hgvl := World.block_lt_of_cell? _ _ e0
          have HRG : Hid (Calls Tryz.prog 119 #[.pointer (some ⟨bb, 0, none⟩), .int .i64 (b : Nat), .int .i64 f1] wr fun e w' => RegP B H b f1 wr e w') := registerO hbd b HBL.out f1 hf1.1 hf1.2
          have yt : (b : Int) < (B.length : Int) := by have := HBL.out; omega
          have yt0 : (0 : Int) ≤ (b : Int) := by omega
          have hgv0 : gv < w.heap.size := World.block_lt_of_cell? _ _ (HBD.out.row b (by rw [HBD.out.len]; exact HBL.out)).1
          have HGV0 : Hid (gv < w.heap.size) := hgv0
          clear hgv0
          have hnb : ¬ bb = w.heap.size + 1 ∧ ¬ gv = w.heap.size + 1 := ⟨by have := hlt0; omega, by have h9 : gv < w.heap.size := World.block_lt_of_cell? _ _ (HBD.out.row b (by rw [HBD.out.len]; exact HBL.out)).1; omega⟩
          obtain ⟨p, hp⟩ : ∃ p, p = regL B H b f1 := ⟨_, rfl⟩
          unfold RegP at HRG
          rw [← hp] at HRG HRX HMX
          obtain ⟨q, hq⟩ : ∃ q, q = H.getD b .zero := ⟨_, rfl⟩
          rw [← hq] at e0 e1 HMX
          clear hp hq hbd
          have zf := fun j => HT.out.row.frozen j
          go_upto_region 8 with (go_at_call 119; refine HRG.out.mono ?_; rintro e w2 ⟨rfl, hb2⟩; unfold LPlace.val; have HB2 : Hid (Below wr.heap.size wr w2) := hb2; have g0 := step_cell hb2 g0; have g1 := step_cell hb2 g1; have g2 := step_cell hb2 g2; have g3 := step_cell hb2 g3; have zf : ∀ j, w2.frozen? ⟨w.heap.size + 1, j, none⟩ = false := (fun j => (HT.out.row.below hb2).frozen j); clear hb2)
          have HT3 := (HT.out.below HB2.out).putB p
          obtain ⟨w3, hw3⟩ : ∃ w3, w3 = (w2.setCell ⟨w.heap.size + 1, 2, none⟩ (.int .i64 p.kind)).setCell ⟨w.heap.size + 1, 3, none⟩ (.int .i64 p.n) := ⟨_, rfl⟩
          have r2 : w3.cell? ⟨bb, 2, none⟩ = some (.slice (some ⟨gv, 0, none⟩) B.length cap) := by rw [hw3]; exact cell_other (cell_other (step_cell HB2.out p2) (by dsimp only; omega)) (by dsimp only; omega)
          have r3 : w3.cell? ⟨gv, b * 2, none⟩ = some (.int .i64 q.kind) := by rw [hw3]; exact cell_other (cell_other (step_cell HB2.out e0) (by dsimp only; omega)) (by dsimp only; omega)
          have r4 : w3.cell? ⟨gv, b * 2 + 1, none⟩ = some (.int .i64 q.n) := by rw [hw3]; exact cell_other (cell_other (step_cell HB2.out e1) (by dsimp only; omega)) (by dsimp only; omega)
          rw [← hw3] at HT3 ⊢
          clear hw3 HB2 HT HRG g0 g1 g2 g3 x1 p2 p5 e0 e1 zf hxl
          have HT4 : Hid (TkS w base x pa pb (rowPA B H f0 i) p (rowMA B H f0 i) u5 w3) := HT3
          have r0 : w3.cell? ⟨w.heap.size + 1, 2, none⟩ = some (.int .i64 p.kind) := HT3.row.cell 2
          have r1 : w3.cell? ⟨w.heap.size + 1, 3, none⟩ = some (.int .i64 p.n) := HT3.row.cell 3
          have hl3 := World.block_lt_of_cell? _ _ r0
          have hbb3 := World.block_lt_of_cell? _ _ r2
          have hgv3 := World.block_lt_of_cell? _ _ r3
          clear HT3
          have HBR : Hid (∀ wx : World, Below w3.heap.size w3 wx → Calls Tryz.prog 120 #[u5, .agg #[.int .i64 p.kind, .int .i64 p.n], .agg #[.int .i64 q.kind, .int .i64 q.n]] wx fun e w' => BringP base (rowMA B H f0 i) p q wx e w') := fun wx hb => bringO base (rowMA B H f0 i) p q u5 wx (HT4.out.mv.below hb) (Nat.le_trans HT4.out.sz hb.size) (by have := HL1.out; omega)
          go_region_held3 (fun w' => w'.cell? ⟨w.heap.size + 1, 2, none⟩ = some (.int .i64 p.kind) ∧ w'.cell? ⟨w.heap.size + 1, 3, none⟩ = some (.int .i64 p.n) ∧ w'.cell? ⟨bb, 2, none⟩ = some (.slice (some ⟨gv, 0, none⟩) B.length cap) ∧ w'.cell? ⟨gv, b * 2, none⟩ = some (.int .i64 q.kind) ∧ w'.cell? ⟨gv, b * 2 + 1, none⟩ = some (.int .i64 q.n))
            ((go_split_ands; refine ⟨?_, ?_, ?_, ?_, ?_⟩ <;> first | assumption | (go_keep; done)))
            (first | (go_at_call 120; refine (HBR.out _ (Below.refl _ _).drew).mono ?_; rintro e w6 ⟨v6, rfl, hm6, hb6⟩; have HT6 : Hid (TkS w base x pa pb (rowPA B H f0 i) p (bringL (rowMA B H f0 i) p q) v6 w6) := (HT4.out.below (Below.refl _ _).drew).bring hm6 hb6; have rr : ∀ (bk j : Nat) (u : Value), bk < base → w3.cell? ⟨bk, j, none⟩ = some u → w6.cell? ⟨bk, j, none⟩ = some u := (fun bk j u hbk hc => (World.cell?_of_block (w := w3.drew) (hb6.block bk hbk)).trans hc); have HLB : Hid (w.heap.size + 1 < base) := HT4.out.lt.1; have r0 := rr _ _ _ HLB.out r0; have r1 := rr _ _ _ HLB.out r1; have r2 := rr _ _ _ (by have := HLB.out; omega) r2; have r3 := rr _ _ _ (by have := HLB.out; have := HGV0.out; omega) r3; have r4 := rr _ _ _ (by have := HLB.out; have := HGV0.out; omega) r4; clear rr hm6 hb6))
          go_wp2
          have hgk := HGK.out
          go_roundg (gk - 1)
          case measure => omega
          case rel =>
            refine ⟨2, by go_num, by omega, by omega, ?_⟩
            have := HT6.out
            rw [← HMX.out, ← HRX.out] at this
            simpa using this
        · have hm : ¬ 1 < manyI i.op := by have := HPB.out; rw [hc] at this; exact of_decide_eq_false this.symm
          have HRX : Hid (rowBB B H f1 i = LPlace.zero) := by show _ = _; rw [HRB.out, if_neg hm]
          have HMX : Hid ((rowMB B H f1 i (rowMA B H f0 i)) = (rowMA B H f0 i)) := by show _ = _; rw [HMB.out, if_neg hm]
          rw [hc] at x1
          clear hc hm
          go_wp2
          have hgk := HGK.out
          go_roundg (gk - 1)
          case measure => omega
          case rel =>
            refine ⟨2, by go_num, by omega, by omega, ?_⟩
            have := HT.out
            rw [← HMX.out] at this
            simpa [HRX.out] using this
      · have htk2 : TkS w base x pa pb (rowPA B H f0 i) (rowBB B H f1 i) (rowMB B H f1 i (rowMA B H f0 i)) u5 wr := by simpa using htk
        have HT : Hid (TkS w base x pa pb (rowPA B H f0 i) (rowBB B H f1 i) (rowMB B H f1 i (rowMA B H f0 i)) u5 wr) := htk2
        clear htk2
        clear htk
        obtain ⟨p, hp⟩ : ∃ p, p = rowPA B H f0 i := ⟨_, rfl⟩
        obtain ⟨q, hq⟩ : ∃ q, q = rowBB B H f1 i := ⟨_, rfl⟩
        have HP2 : Hid (p = rowPA B H f0 i) := hp
        have HQ2 : Hid (q = rowBB B H f1 i) := hq
        rw [← hp, ← hq] at HT
        clear hp hq
        have g0 : wr.cell? ⟨w.heap.size + 1, 0, none⟩ = some (.int .i64 p.kind) := HT.out.row.cell 0
        have g1 : wr.cell? ⟨w.heap.size + 1, 1, none⟩ = some (.int .i64 p.n) := HT.out.row.cell 1
        have g2 : wr.cell? ⟨w.heap.size + 1, 2, none⟩ = some (.int .i64 q.kind) := HT.out.row.cell 2
        have g3 : wr.cell? ⟨w.heap.size + 1, 3, none⟩ = some (.int .i64 q.n) := HT.out.row.cell 3
        have zf := fun j => HT.out.row.frozen j
        have HF1 := (HT.out.putA p).putB q
        have HF : Hid (TkS w base x pa pb p q (rowMB B H f1 i (rowMA B H f0 i)) u5 ((((wr.setCell ⟨w.heap.size + 1, 0, none⟩ (.int .i64 p.kind)).setCell ⟨w.heap.size + 1, 1, none⟩ (.int .i64 p.n)).setCell ⟨w.heap.size + 1, 2, none⟩ (.int .i64 q.kind)).setCell ⟨w.heap.size + 1, 3, none⟩ (.int .i64 q.n))) := HF1
        clear HF1
        go_wp2
        refine bodyPost_ret (v := .tuple #[.agg #[.int .i64 p.kind, .int .i64 p.n, .int .i64 q.kind, .int .i64 q.n], u5]) ?_ rfl ⟨u5, by rw [← HP2.out, ← HQ2.out], ?_, HF.out.bel⟩
        · simp [results, Tryz.results118, go_sem, g0, g1, g2, g3]
        · exact HF.out.mv.lower (by have := HF.out.lt.1; omega)
end form
/- The row of an instruction (build.builder.row). -/
namespace form
open Go.RowKit
set_option maxRecDepth 100000
attribute [local go_sem ↓] Go.wp_at_zero Go.wp_at_succ
theorem MvB.off {base : Nat} {l : List LMove} {v : Value} {w : World} (h : MvB base l v w) {a : Addr} (hne : v.ownBlock ≠ some a.block) (u : Value) : MvB base l v (w.setCell a u) := by
  refine World.ownsRow.kept h (row := some a.block) ⟨rfl, rfl, rfl, by simp, fun k hk hn => heap_setCell_other w a k u (fun e => hn (by rw [e]))⟩ ?_
  cases hv : v.ownBlock with
  | none => exact Or.inl rfl
  | some k => exact Or.inr (fun e => hne (by rw [hv]; exact e))
theorem MvB.form {base : Nat} {l : List LMove} {v : Value} {w : World} (h : MvB base l v w) : ∃ ao cap, v = .slice ao l.length cap := by
  rcases h.2 with ⟨e, e2⟩ | ⟨g, cap, cur, e, -⟩
  · exact ⟨none, 0, by rw [e, e2]⟩
  · exact ⟨_, _, e⟩
theorem MvB.ne {base : Nat} {l : List LMove} {v : Value} {w : World} (h : MvB base l v w) {b : Nat} (hb : b < base ∨ w.heap.size ≤ b) : v.ownBlock ≠ some b := fun e => by
  have := World.ownsRow.lt h b e
  omega
theorem cell_off {w : World} {b j k : Nat} {u x : Value} (hc : w.cell? ⟨b, j, none⟩ = some u) (hne : ¬ j = k) : (w.setCell ⟨b, k, none⟩ x).cell? ⟨b, j, none⟩ = some u := by
  have h2 : ¬ k = j := fun e => hne e.symm
  simp [go_sem, hc]
def rowVB (d a b : LPlace) (vb va : Value) : List Value := [.int .i64 d.kind, .int .i64 d.n, .int .i64 a.kind, .int .i64 a.n, .int .i64 b.kind, .int .i64 b.n, vb, va]
structure RoS (w : World) (br : Nat) (de : Int) (d a b : LPlace) (vb va : Value) (l la : List LMove) (wr : World) : Prop where
  bel : Below w.heap.size w wr
  lo : w.heap.size + 1 < br
  i1 : wr.cell? ⟨w.heap.size, 1, none⟩ = some (.int .i64 de)
  res : Row wr (w.heap.size + 1) 118 (rowVB .zero .zero .zero (.slice none 0 0) (.slice none 0 0))
  row : Row wr br 118 (rowVB d a b vb va)
  mb : MvB w.heap.size l vb wr
  ma : MvB w.heap.size la va wr
  nb : vb.ownBlock ≠ some br ∧ vb.ownBlock ≠ some (w.heap.size + 1)
  na : va.ownBlock ≠ some br ∧ va.ownBlock ≠ some (w.heap.size + 1)
section
variable {w : World} {br : Nat} {de : Int} {d a b : LPlace} {vb va : Value} {l la : List LMove} {wr w1 : World}
theorem RoS.below (h : RoS w br de d a b vb va l la wr) (hb : Below wr.heap.size wr w1) : RoS w br de d a b vb va l la w1 :=
  ⟨step_below hb h.bel, h.lo, step_cell hb h.i1, h.res.below hb, h.row.below hb, h.mb.below hb, h.ma.below hb, h.nb, h.na⟩
theorem RoS.putD (h : RoS w br de d a b vb va l la wr) (p : LPlace) : RoS w br de p a b vb va l la ((wr.setCell ⟨br, 0, none⟩ (.int .i64 p.kind)).setCell ⟨br, 1, none⟩ (.int .i64 p.n)) := by
  have hlo := h.lo
  exact ⟨(h.bel.setCell (by dsimp only; omega) _).setCell (by dsimp only; omega) _, h.lo, cell_other (cell_other h.i1 (by dsimp only; omega)) (by dsimp only; omega), (h.res.other (by dsimp only; omega) _).other (by dsimp only; omega) _, (h.row.set 0 _).set 1 _, (h.mb.off h.nb.1 _).off h.nb.1 _, (h.ma.off h.na.1 _).off h.na.1 _, h.nb, h.na⟩
theorem RoS.putA (h : RoS w br de d a b vb va l la wr) {la2 : List LMove} {va2 : Value} (hm : MvB w.heap.size la2 va2 wr) (hn : va2.ownBlock ≠ some br ∧ va2.ownBlock ≠ some (w.heap.size + 1)) : RoS w br de d a b vb va2 l la2 (wr.setCell ⟨br, 7, none⟩ va2) := by
  have hlo := h.lo
  exact ⟨h.bel.setCell (by dsimp only; omega) _, h.lo, cell_other h.i1 (by dsimp only; omega), h.res.other (by dsimp only; omega) _, h.row.set 7 _, h.mb.off h.nb.1 _, hm.off hn.1 _, h.nb, hn⟩
theorem RoS.fin (h : RoS w br de d a b vb va l la wr) (u0 u1 u2 u3 u4 u5 u6 u7 : Value) : ∀ w9, w9 = (((((((wr.setCell ⟨w.heap.size + 1, 0, none⟩ u0).setCell ⟨w.heap.size + 1, 1, none⟩ u1).setCell ⟨w.heap.size + 1, 2, none⟩ u2).setCell ⟨w.heap.size + 1, 3, none⟩ u3).setCell ⟨w.heap.size + 1, 4, none⟩ u4).setCell ⟨w.heap.size + 1, 5, none⟩ u5).setCell ⟨w.heap.size + 1, 6, none⟩ u6).setCell ⟨w.heap.size + 1, 7, none⟩ u7 → MvB w.heap.size l vb w9 ∧ MvB w.heap.size la va w9 ∧ Below w.heap.size w w9 := by
  rintro w9 rfl
  have st : ∀ (wx : World) (o : Nat) (u : Value), (MvB w.heap.size l vb wx ∧ MvB w.heap.size la va wx ∧ Below w.heap.size w wx) → (MvB w.heap.size l vb (wx.setCell ⟨w.heap.size + 1, o, none⟩ u) ∧ MvB w.heap.size la va (wx.setCell ⟨w.heap.size + 1, o, none⟩ u) ∧ Below w.heap.size w (wx.setCell ⟨w.heap.size + 1, o, none⟩ u)) := fun wx o u h0 =>
    ⟨h0.1.off h.nb.2 _, h0.2.1.off h.na.2 _, h0.2.2.setCell (by dsimp only; omega) _⟩
  exact st _ _ _ (st _ _ _ (st _ _ _ (st _ _ _ (st _ _ _ (st _ _ _ (st _ _ _ (st _ _ _ ⟨h.mb, h.ma, h.bel⟩)))))))
end
def RowP (B : List Bool) (H : List LPlace) (f0 f1 : Int) (i : LIns) (w : World) (e : Ending) (w' : World) : Prop :=
  ∃ vb va, e = .returned (.agg #[.int .i64 (rowL B H f0 f1 i).dest.kind, .int .i64 (rowL B H f0 f1 i).dest.n, .int .i64 (rowL B H f0 f1 i).a.kind, .int .i64 (rowL B H f0 f1 i).a.n, .int .i64 (rowL B H f0 f1 i).b.kind, .int .i64 (rowL B H f0 f1 i).b.n, vb, va]) ∧
    MvB w.heap.size (rowL B H f0 f1 i).before vb w' ∧ MvB w.heap.size (rowL B H f0 f1 i).after va w' ∧ Below w.heap.size w w'
set_option maxHeartbeats 4000000 in
theorem buildRowO {bb b0 o0 c0 b1 o1 c1 gv cap : Nat} {B : List Bool} {C : List LIns} {H : List LPlace} {slots f0 f1 : Int} {w : World} (h : BdR bb b0 o0 c0 b1 o1 c1 gv cap B C H slots f0 f1 w) (h12 : B.length ≤ 12) (hf0 : 0 ≤ f0 ∧ f0 ≤ 100) (hf1 : 0 ≤ f1 ∧ f1 ≤ 100) (i : LIns) (hi : InsOk B.length C.length i) (hkn : knownB i.op = true) :
    Calls Tryz.prog 75 #[.pointer (some ⟨bb, 0, none⟩), i.val] w fun e w' => RowP B H f0 f1 i w e w' := by
  have HHas : Hid (∀ wx : World, Calls Tryz.prog 57 #[.int .i64 i.op] wx fun e w' => e = .returned (.tuple #[.bool (givesB i.op), .bool (decide (0 < manyI i.op)), .bool (decide (1 < manyI i.op))]) ∧ Below wx.heap.size wx w') := fun wx => by
    have := has i.op wx
    rwa [isT_gives hkn, (isT_many hkn).1, (isT_many hkn).2] at this
  have HBD : Hid (BdR bb b0 o0 c0 b1 o1 c1 gv cap B C H slots f0 f1 w) := h
  have HTA : Hid (∀ wx : World, Below w.heap.size w wx → Calls Tryz.prog 118 #[.pointer (some ⟨bb, 0, none⟩), .agg #[.int .i64 i.op, .int .i64 i.dest, .int .i64 i.a, .int .i64 i.b, .int .i64 i.c, .int .u32 i.n]] wx fun e w' => TakeP B H f0 f1 i wx e w') := fun wx hb => takeO (h.later hb) h12 hf0 hf1 i hi hkn
  have HID : Hid (givesB i.op = true → 0 ≤ i.dest ∧ i.dest < B.length) := hi.d
  have HRP : Hid (∀ vb va w9, MvB w.heap.size (rowMB B H f1 i (rowMA B H f0 i)) vb w9 → MvB w.heap.size (rowMD B H f0 i) va w9 → Below w.heap.size w w9 → RowP B H f0 f1 i w (.returned (.agg #[.int .i64 (rowD B H f0 i).kind, .int .i64 (rowD B H f0 i).n, .int .i64 (rowPA B H f0 i).kind, .int .i64 (rowPA B H f0 i).n, .int .i64 (rowBB B H f1 i).kind, .int .i64 (rowBB B H f1 i).n, vb, va])) w9) := fun vb va w9 h1 h2 h3 => ⟨vb, va, rfl, h1, h2, h3⟩
  have HRD : Hid (rowD B H f0 i = if givesB i.op then regL B H i.dest.toNat f0 else .zero) := rfl
  have HMD : Hid (rowMD B H f0 i = if givesB i.op then bringL [] (H.getD i.dest.toNat .zero) (regL B H i.dest.toNat f0) else []) := rfl
  have hlt0 : bb < w.heap.size := World.block_lt_of_cell? _ _ h.p0
  clear h hi hkn
  unfold LIns.val
  unfold TakeP at HTA
  obtain ⟨rd, hrd⟩ : ∃ rd, rd = rowD B H f0 i := ⟨_, rfl⟩
  obtain ⟨ra, hra⟩ : ∃ ra, ra = rowPA B H f0 i := ⟨_, rfl⟩
  obtain ⟨rb, hrb⟩ : ∃ rb, rb = rowBB B H f1 i := ⟨_, rfl⟩
  obtain ⟨l, hl⟩ : ∃ l, l = rowMB B H f1 i (rowMA B H f0 i) := ⟨_, rfl⟩
  obtain ⟨la, hla⟩ : ∃ la, la = rowMD B H f0 i := ⟨_, rfl⟩
  rw [← hra, ← hrb, ← hl] at HTA
  rw [← hrd, ← hra, ← hrb, ← hl, ← hla] at HRP
  rw [← hrd] at HRD
  rw [← hla] at HMD
  clear hrd hra hrb hl hla
  obtain ⟨gi, hgi⟩ : ∃ gi, gi = givesB i.op := ⟨_, rfl⟩
  rw [← hgi] at HRD HMD HHas HID
  clear hgi
  obtain ⟨op, hop⟩ : ∃ op, op = i.op := ⟨_, rfl⟩
  obtain ⟨de, hde⟩ : ∃ de, de = i.dest := ⟨_, rfl⟩
  obtain ⟨ia, hia⟩ : ∃ ia, ia = i.a := ⟨_, rfl⟩
  obtain ⟨ib, hib⟩ : ∃ ib, ib = i.b := ⟨_, rfl⟩
  obtain ⟨ic, hic⟩ : ∃ ic, ic = i.c := ⟨_, rfl⟩
  obtain ⟨im, him⟩ : ∃ im, im = i.n := ⟨_, rfl⟩
  obtain ⟨k1, hk1⟩ : ∃ k1, k1 = decide (0 < manyI i.op) := ⟨_, rfl⟩
  obtain ⟨k2, hk2⟩ : ∃ k2, k2 = decide (1 < manyI i.op) := ⟨_, rfl⟩
  rw [← hk1, ← hk2] at HHas
  rw [← hop] at HHas
  rw [← hde] at HRD HMD HID
  rw [← hop, ← hde, ← hia, ← hib, ← hic, ← him] at HTA ⊢
  clear hop hde hia hib hic him hk1 hk2
  go_enter Tryz.func75, Tryz.ntmps75
  go_upto_region 3 with (go_at_call 118; refine (HTA.out _ (((Below.refl _ _).alloc (Nat.le_refl _) _).alloc (by simp) _)).mono ?_; rintro e w1 ⟨v1, rfl, hm1, hb1⟩; obtain ⟨ao, vc, hv1⟩ := hm1.form; subst hv1; have i0 : w1.cell? ⟨w.heap.size, 0, none⟩ = some (.int .i64 op) := step_cell hb1 (by simp [go_sem]); have i1 : w1.cell? ⟨w.heap.size, 1, none⟩ = some (.int .i64 de) := step_cell hb1 (by simp [go_sem]); have HB1 : Hid (Below w.heap.size w w1) := step_below hb1 (((Below.refl _ _).alloc (Nat.le_refl _) _).alloc (by simp) _); have hr1 := (Row.new (w.alloc (.cells #[.int .i64 op, .int .i64 de, .int .i64 ia, .int .i64 ib, .int .i64 ic, .int .u32 im] 45)) 118 (rowVB .zero .zero .zero (.slice none 0 0) (.slice none 0 0))).below hb1; have hr2 : Row w1 (w.heap.size + 1) 118 (rowVB .zero .zero .zero (.slice none 0 0) (.slice none 0 0)) := (by simpa using hr1); have HR1 : Hid (Row w1 (w.heap.size + 1) 118 (rowVB .zero .zero .zero (.slice none 0 0) (.slice none 0 0))) := hr2; clear hr1 hr2; have hm2 : MvB (w.heap.size + 1 + 1) l (.slice ao l.length vc) w1 := (by simpa using hm1); have HM1 : Hid (MvB (w.heap.size + 1 + 1) l (.slice ao l.length vc) w1) := hm2; clear hb1 hm1 hm2)
  have hz1 := HR1.out.lt
  obtain ⟨w2, hw2⟩ : ∃ w2, w2 = (w1.alloc (.cells #[.int .i64 ra.kind, .int .i64 ra.n, .int .i64 rb.kind, .int .i64 rb.n] 188)).alloc (.cells #[.int .i64 0, .int .i64 0, .int .i64 ra.kind, .int .i64 ra.n, .int .i64 rb.kind, .int .i64 rb.n, .slice ao l.length vc, .slice none 0 0] 118) := ⟨_, rfl⟩
  have hb2 : Below w1.heap.size w1 w2 := by rw [hw2]; exact ((Below.refl _ _).alloc (Nat.le_refl _) _).alloc (by simp) _
  have hr2 : Row w2 (w1.heap.size + 1) 118 (rowVB .zero ra rb (.slice ao l.length vc) (.slice none 0 0)) := by
    have := Row.new (w1.alloc (.cells #[.int .i64 ra.kind, .int .i64 ra.n, .int .i64 rb.kind, .int .i64 rb.n] 188)) 118 (rowVB .zero ra rb (.slice ao l.length vc) (.slice none 0 0))
    rw [show (w1.alloc (.cells #[.int .i64 ra.kind, .int .i64 ra.n, .int .i64 rb.kind, .int .i64 rb.n] 188)).heap.size = w1.heap.size + 1 by simp] at this
    rw [hw2]
    exact this
  have hro : RoS w (w1.heap.size + 1) de .zero ra rb (.slice ao l.length vc) (.slice none 0 0) l [] w2 :=
    ⟨step_below hb2 HB1.out, by omega, step_cell hb2 i1, HR1.out.below hb2, hr2, (HM1.out.below hb2).lower (by omega), World.ownsRow_nil _ _ _ _, ⟨HM1.out.ne (Or.inr (by omega)), HM1.out.ne (Or.inl (by omega))⟩, ⟨by simp [Value.ownBlock], by simp [Value.ownBlock]⟩⟩
  have i0 := step_cell hb2 i0
  rw [← hw2]
  have hlw : w.heap.size < w2.heap.size := World.block_lt_of_cell? _ _ i0
  obtain ⟨br, hbr⟩ : ∃ br, br = w1.heap.size + 1 := ⟨_, rfl⟩
  rw [← hbr] at hro ⊢
  have HRO : Hid (RoS w br de .zero ra rb (.slice ao l.length vc) (.slice none 0 0) l [] w2) := hro
  clear hw2 hb2 hr2 hro i1 hz1 HB1 HR1 HM1 HTA hbr
  go_upto_if 30 with (go_at_call 57; refine (HHas.out _).mono ?_; rintro e w3 ⟨rfl, hb3⟩; have HR3 : Hid (RoS w br de .zero ra rb (.slice ao l.length vc) (.slice none 0 0) l [] w3) := HRO.out.below hb3; clear hb3)
  clear i0 hlw HRO HHas
  go_cut [] (fun wq => ∃ ao2 vc2, RoS w br de rd ra rb (.slice ao l.length vc) (.slice ao2 la.length vc2) l la wq)
  case first =>
    rcases Bool.eq_false_or_eq_true gi with hc | hc
    · obtain ⟨d0, d1⟩ := HID.out hc
      obtain ⟨d, hd⟩ : ∃ d : Nat, de = d := ⟨de.toNat, by omega⟩
      subst hd
      rw [hc] at HRD HMD
      rw [Int.toNat_natCast] at HRD HMD
      have HRX : Hid (rd = regL B H d f0) := HRD.out
      have HMX : Hid (la = bringL [] (H.getD d .zero) (regL B H d f0)) := HMD.out
      subst hc
      clear HRD HMD HID
      have hdl : d < B.length := by omega
      have yt : (d : Int) < (B.length : Int) := by omega
      have yt0 : (0 : Int) ≤ (d : Int) := by omega
      have hbd := HBD.out.later HR3.out.bel
      have p2 := hbd.p2
      have p4 := hbd.p4
      obtain ⟨e0, e1⟩ := hbd.row d (by rw [hbd.len]; exact hdl)
      have hgv0 : gv < w.heap.size := World.block_lt_of_cell? _ _ (HBD.out.row d (by rw [HBD.out.len]; exact hdl)).1
      have i1 := HR3.out.i1
      have hlo := HR3.out.lo
      have hsz := HR3.out.bel.size
      have hl0 : w.heap.size < w3.heap.size := World.block_lt_of_cell? _ _ i1
      have hbb3 : bb < w3.heap.size := by omega
      have hgv3 : gv < w3.heap.size := by omega
      have HRG : Hid (∀ wx, Below w3.heap.size w3 wx → Calls Tryz.prog 119 #[.pointer (some ⟨bb, 0, none⟩), .int .i64 (d : Nat), .int .i64 f0] wx fun e w' => RegP B H d f0 wx e w') := fun wx hb => registerO (hbd.later hb) d hdl f0 hf0.1 hf0.2
      unfold RegP at HRG
      rw [← HRX.out] at HRG HMX
      obtain ⟨q, hq⟩ : ∃ q, q = H.getD d .zero := ⟨_, rfl⟩
      rw [← hq] at e0 e1 HMX
      clear hbd hq d0 d1
      have r0 : w3.cell? ⟨br, 0, none⟩ = some (.int .i64 0) := HR3.out.row.cell 0
      have r1 : w3.cell? ⟨br, 1, none⟩ = some (.int .i64 0) := HR3.out.row.cell 1
      have hbr3 : br < w3.heap.size := World.block_lt_of_cell? _ _ r0
      clear HRX
      go_upto_region 5 with fail
      go_region_held3 (fun w' => w'.cell? ⟨w.heap.size, 1, none⟩ = some (.int .i64 (d : Int)) ∧ w'.cell? ⟨bb, 4, none⟩ = some (.int .i64 f0))
        ((go_split_ands; refine ⟨?_, ?_⟩ <;> first | exact step_cell hbc (by assumption) | assumption | exact cell_other (cell_other (by assumption) (by dsimp only; omega)) (by dsimp only; omega) | (go_keep; done)))
        (first
          | (go_at_call 119; refine (HRG.out _ (Below.refl _ _).drew).mono ?_; rintro e w4 ⟨rfl, hbc⟩; unfold LPlace.val; have hbc3 : Below w3.heap.size w3 w4 := step_below hbc (Below.refl _ _).drew; have HR4 : Hid (RoS w br d .zero ra rb (.slice ao l.length vc) (.slice none 0 0) l [] w4) := HR3.out.below hbc3; have HB4 : Hid (Below w3.heap.size w3 w4) := hbc3; have s0 := step_cell hbc3 r0; have s1 := step_cell hbc3 r1; have z0 : w4.frozen? ⟨br, 0, none⟩ = false := HR4.out.row.frozen 0; have z1 : w4.frozen? ⟨br, 1, none⟩ = false := HR4.out.row.frozen 1; clear hbc3))
      have hr5 := HR4.out.putD rd
      have p2 := step_cell HB4.out p2
      have e0 := step_cell HB4.out e0
      have e1 := step_cell HB4.out e1
      obtain ⟨w5, hw5⟩ : ∃ w5, w5 = (w4.setCell ⟨br, 0, none⟩ (.int .i64 rd.kind)).setCell ⟨br, 1, none⟩ (.int .i64 rd.n) := ⟨_, rfl⟩
      have t2 : w5.cell? ⟨bb, 2, none⟩ = some (.slice (some ⟨gv, 0, none⟩) B.length cap) := by rw [hw5]; exact cell_other (cell_other p2 (by dsimp only; omega)) (by dsimp only; omega)
      have t3 : w5.cell? ⟨gv, d * 2, none⟩ = some (.int .i64 q.kind) := by rw [hw5]; exact cell_other (cell_other e0 (by dsimp only; omega)) (by dsimp only; omega)
      have t4 : w5.cell? ⟨gv, d * 2 + 1, none⟩ = some (.int .i64 q.n) := by rw [hw5]; exact cell_other (cell_other e1 (by dsimp only; omega)) (by dsimp only; omega)
      rw [← hw5] at hr5 ⊢
      have HR5 : Hid (RoS w br d rd ra rb (.slice ao l.length vc) (.slice none 0 0) l [] w5) := hr5
      clear hw5 hr5 HR3 HR4 HB4 hbc s0 s1 z0 z1 r0 r1 i1 p2 p4 e0 e1 HRG hl0 hbb3 hgv3 hbr3 hsz
      have t0 : w5.cell? ⟨br, 0, none⟩ = some (.int .i64 rd.kind) := HR5.out.row.cell 0
      have t1 : w5.cell? ⟨br, 1, none⟩ = some (.int .i64 rd.n) := HR5.out.row.cell 1
      have t7 : w5.cell? ⟨br, 7, none⟩ = some (.slice none 0 0) := HR5.out.row.cell 7
      have i1 := HR5.out.i1
      have hl5 : w.heap.size < w5.heap.size := World.block_lt_of_cell? _ _ i1
      have hb5 : bb < w5.heap.size := by omega
      have hg5 : gv < w5.heap.size := by omega
      have hr5 : br < w5.heap.size := World.block_lt_of_cell? _ _ t0
      have HBR : Hid (∀ wx : World, Calls Tryz.prog 120 #[.slice none 0 0, .agg #[.int .i64 q.kind, .int .i64 q.n], .agg #[.int .i64 rd.kind, .int .i64 rd.n]] wx fun e w' => BringP wx.heap.size [] q rd wx e w') := fun wx => bringO wx.heap.size [] q rd (.slice none 0 0) wx (World.ownsRow_nil _ _ _ _) (Nat.le_refl _) (by simp)
      unfold BringP at HBR
      rw [← HMX.out] at HBR
      clear HMX
      go_upto_region 6 with fail
      go_region_held3 (fun w' => w'.cell? ⟨bb, 2, none⟩ = some (.slice (some ⟨gv, 0, none⟩) B.length cap) ∧ w'.cell? ⟨w.heap.size, 1, none⟩ = some (.int .i64 (d : Int)) ∧ w'.cell? ⟨gv, d * 2, none⟩ = some (.int .i64 q.kind) ∧ w'.cell? ⟨gv, d * 2 + 1, none⟩ = some (.int .i64 q.n) ∧ w'.cell? ⟨br, 0, none⟩ = some (.int .i64 rd.kind) ∧ w'.cell? ⟨br, 1, none⟩ = some (.int .i64 rd.n))
        ((go_split_ands; refine ⟨?_, ?_, ?_, ?_, ?_, ?_⟩ <;> first | exact step_cell hbc (by assumption) | assumption | exact cell_other (by assumption) (by dsimp only; omega) | exact cell_off (by assumption) (by omega) | (go_keep; done)))
        (first
          | (go_at_call 120; refine (HBR.out _).mono ?_; rintro e w6 ⟨v6, rfl, hm6, hbc⟩; have hbc3 : Below w5.heap.size w5 w6 := step_below hbc (Below.refl _ _).drew; obtain ⟨ao2, vc2, hv6⟩ := hm6.form; subst hv6; have HR6 : Hid (RoS w br d rd ra rb (.slice ao l.length vc) (.slice none 0 0) l [] w6) := HR5.out.below hbc3; have hm7 : MvB w5.heap.size la (.slice ao2 la.length vc2) w6 := hm6; have HM6 : Hid (MvB w5.heap.size la (.slice ao2 la.length vc2) w6) := hm7; have s0 := step_cell hbc3 t0; have s1 := step_cell hbc3 t1; have s7 := step_cell hbc3 t7; have z7 : w6.frozen? ⟨br, 7, none⟩ = false := HR6.out.row.frozen 7; clear hbc3 hm6 hm7))
      have hfin := HR6.out.putA (HM6.out.lower (by omega)) ⟨HM6.out.ne (Or.inl hr5), HM6.out.ne (Or.inl (by omega))⟩
      have HFN : Hid (RoS w br d rd ra rb (.slice ao l.length vc) (.slice ao2 la.length vc2) l la (w6.setCell ⟨br, 7, none⟩ (.slice ao2 la.length vc2))) := hfin
      clear hfin
      go_wp2
      go_meet
      case rel => exact ⟨ao2, vc2, HFN.out⟩
    · rw [hc] at HRD HMD
      have hrd : rd = .zero := HRD.out
      have hla : la = [] := HMD.out
      subst hrd
      subst hla
      subst hc
      go_wp2
      go_meet
      case rel => exact ⟨none, 0, HR3.out⟩
  case rest =>
    obtain ⟨ao2, vc2, hro⟩ := hcut
    obtain ⟨wd, hwd⟩ : ∃ wd, wd = wc := ⟨_, rfl⟩
    rw [← hwd] at hro ⊢
    clear hwd HR3 HRD HMD HID
    have HRO : Hid (RoS w br de rd ra rb (.slice ao l.length vc) (.slice ao2 la.length vc2) l la wd) := hro
    have t0 : wd.cell? ⟨br, 0, none⟩ = some (.int .i64 rd.kind) := hro.row.cell 0
    have t1 : wd.cell? ⟨br, 1, none⟩ = some (.int .i64 rd.n) := hro.row.cell 1
    have t2 : wd.cell? ⟨br, 2, none⟩ = some (.int .i64 ra.kind) := hro.row.cell 2
    have t3 : wd.cell? ⟨br, 3, none⟩ = some (.int .i64 ra.n) := hro.row.cell 3
    have t4 : wd.cell? ⟨br, 4, none⟩ = some (.int .i64 rb.kind) := hro.row.cell 4
    have t5 : wd.cell? ⟨br, 5, none⟩ = some (.int .i64 rb.n) := hro.row.cell 5
    have t6 : wd.cell? ⟨br, 6, none⟩ = some (.slice ao l.length vc) := hro.row.cell 6
    have t7 : wd.cell? ⟨br, 7, none⟩ = some (.slice ao2 la.length vc2) := hro.row.cell 7
    have s0 : wd.cell? ⟨w.heap.size + 1, 0, none⟩ = some (.int .i64 0) := hro.res.cell 0
    have s1 : wd.cell? ⟨w.heap.size + 1, 1, none⟩ = some (.int .i64 0) := hro.res.cell 1
    have s2 : wd.cell? ⟨w.heap.size + 1, 2, none⟩ = some (.int .i64 0) := hro.res.cell 2
    have s3 : wd.cell? ⟨w.heap.size + 1, 3, none⟩ = some (.int .i64 0) := hro.res.cell 3
    have s4 : wd.cell? ⟨w.heap.size + 1, 4, none⟩ = some (.int .i64 0) := hro.res.cell 4
    have s5 : wd.cell? ⟨w.heap.size + 1, 5, none⟩ = some (.int .i64 0) := hro.res.cell 5
    have s6 : wd.cell? ⟨w.heap.size + 1, 6, none⟩ = some (.slice none 0 0) := hro.res.cell 6
    have s7 : wd.cell? ⟨w.heap.size + 1, 7, none⟩ = some (.slice none 0 0) := hro.res.cell 7
    have zf : ∀ j, wd.frozen? ⟨w.heap.size + 1, j, none⟩ = false := fun j => hro.res.frozen j
    clear hro
    go_wp2
    have hfin := HRO.out.fin (.int .i64 rd.kind) (.int .i64 rd.n) (.int .i64 ra.kind) (.int .i64 ra.n) (.int .i64 rb.kind) (.int .i64 rb.n) (.slice ao l.length vc) (.slice ao2 la.length vc2) _ rfl
    refine bodyPost_ret (v := .agg #[.int .i64 rd.kind, .int .i64 rd.n, .int .i64 ra.kind, .int .i64 ra.n, .int .i64 rb.kind, .int .i64 rb.n, .slice ao l.length vc, .slice ao2 la.length vc2]) ?_ rfl (HRP.out _ _ _ hfin.1 hfin.2.1 hfin.2.2)
    simp [results, Tryz.results75, go_sem, s0, s1, s2, s3, s4, s5, s6, s7]
end form
/- The places of a program, row by row (build.builder.placed). -/
namespace form
open Go.RowKit
set_option maxRecDepth 100000
attribute [local go_sem ↓] Go.wp_at_zero Go.wp_at_succ
structure PdS (w : World) (slots : Int) (L : List (LRow × Value × Value)) (v : Value) (wr : World) : Prop where
  bel : Below w.heap.size w wr
  sz : w.heap.size + 2 ≤ wr.heap.size
  res : Row wr w.heap.size 55 [.int .i64 0, .slice none 0 0]
  lv : Row wr (w.heap.size + 1) 55 [.int .i64 slots, v]
  rows : RW (w.heap.size + 2) L v wr
section
variable {w : World} {slots : Int} {L : List (LRow × Value × Value)} {v : Value} {wr w1 : World}
theorem PdS.below (h : PdS w slots L v wr) (hb : Below wr.heap.size wr w1) : PdS w slots L v w1 :=
  ⟨step_below hb h.bel, Nat.le_trans h.sz hb.size, h.res.below hb, h.lv.below hb, h.rows.below hb⟩
theorem PdS.own_ge (h : PdS w slots L v wr) {b : Nat} (e : v.ownBlock = some b) : w.heap.size + 2 ≤ b ∧ b < wr.heap.size := World.ownsRow.lt h.rows.own b e
theorem PdS.push (h : PdS w slots L v wr) {x : LRow × Value × Value} (hx : MvOkC (w.heap.size + 2) v.ownBlock wr x.2.1 x.1.before ∧ MvOkC (w.heap.size + 2) v.ownBlock wr x.2.2 x.1.after) {g cap : Nat} (hown : w1.ownsRow (w.heap.size + 2) 118 8 (.slice (some ⟨g, 0, none⟩) (L.length + 1) cap) (L.length + 1) (L.flatMap rowC ++ rowC x)) (hgrow : wr.grownBy w1 v.ownBlock) (hat : v.ownBlock = some g ∨ g = wr.heap.size) :
    PdS w slots (L ++ [x]) (.slice (some ⟨g, 0, none⟩) (L.length + 1) cap) (w1.setCell ⟨w.heap.size + 1, 1, none⟩ (.slice (some ⟨g, 0, none⟩) (L.length + 1) cap)) := by
  have hne : ∀ b, b < w.heap.size + 2 → some b ≠ v.ownBlock := fun b hb e => by have := (h.own_ge e.symm).1; omega
  refine ⟨(h.bel.grown hgrow (by have := h.sz; omega) (fun j hj => by have := (h.own_ge hj).1; omega)).setCell (by dsimp only; omega) _, ?_, ?_, ?_, ?_⟩
  · have := hgrow.size; have := h.sz; simp [World.setCell]; omega
  · exact (h.res.grown hgrow (hne _ (by omega))).other (by dsimp only; omega) _
  · exact (h.lv.grown hgrow (hne _ (by omega))).set 1 _
  · exact (h.rows.push hx hown hgrow hat).setCell (by dsimp only; omega) _
end
def PlacedP (B : List Bool) (C : List LIns) (H : List LPlace) (slots f0 f1 : Int) (w : World) (e : Ending) (w' : World) : Prop :=
  ∃ L ao cap, e = .returned (.agg #[.int .i64 slots, .slice ao C.length cap]) ∧ RW (w.heap.size + 2) L (.slice ao C.length cap) w' ∧ L.map (·.1) = C.map (rowL B H f0 f1) ∧ Below w.heap.size w w'
theorem rowL_len (B : List Bool) (H : List LPlace) (f0 f1 : Int) (i : LIns) : (rowL B H f0 f1 i).before.length ≤ 2 ∧ (rowL B H f0 f1 i).after.length ≤ 1 := by
  have h1 := rowMA_len B H f0 i
  refine ⟨?_, ?_⟩
  · show (rowMB B H f1 i (rowMA B H f0 i)).length ≤ 2
    unfold rowMB
    split
    · have := bringL_len (rowMA B H f0 i) (regL B H i.b.toNat f1) (H.getD i.b.toNat .zero); omega
    · omega
  · show (rowMD B H f0 i).length ≤ 1
    unfold rowMD
    split
    · exact bringL_len [] _ _
    · simp
theorem take_map {B : List Bool} {H : List LPlace} {f0 f1 : Int} {C : List LIns} {k : Nat} (hk : k < C.length) {x : LIns} (hx : x = C.getD k .zero) : (C.take (k + 1)).map (rowL B H f0 f1) = (C.take k).map (rowL B H f0 f1) ++ [rowL B H f0 f1 x] := by
  have e : C.take (k + 1) = C.take k ++ [C.getD k .zero] := by
    rw [List.take_add_one]
    simp [List.getD, hk]
  rw [e, List.map_append, hx]
  rfl
set_option maxHeartbeats 4000000 in
theorem placedO {bb b0 o0 c0 b1 o1 c1 gv cap : Nat} {B : List Bool} {C : List LIns} {H : List LPlace} {slots f0 f1 : Int} {w : World} (h : BdR bb b0 o0 c0 b1 o1 c1 gv cap B C H slots f0 f1 w) (h12 : B.length ≤ 12) (h40 : C.length ≤ 40) (hf0 : 0 ≤ f0 ∧ f0 ≤ 100) (hf1 : 0 ≤ f1 ∧ f1 ≤ 100) (hi : ∀ k, k < C.length → InsOk B.length C.length (C.getD k .zero) ∧ knownB (C.getD k .zero).op = true) :
    Calls Tryz.prog 37 #[.pointer (some ⟨bb, 0, none⟩)] w fun e w' => PlacedP B C H slots f0 f1 w e w' := by
  have HBD : Hid (BdR bb b0 o0 c0 b1 o1 c1 gv cap B C H slots f0 f1 w) := h
  have HI : Hid (∀ k, k < C.length → InsOk B.length C.length (C.getD k .zero) ∧ knownB (C.getD k .zero).op = true) := hi
  have p1 := h.p1
  have p3 := h.p3
  have hlt0 : bb < w.heap.size := World.block_lt_of_cell? _ _ p1
  have hlt1 : bb < w.heap.size + 1 := by omega
  have y40 : (C.length : Int) ≤ 40 := by omega
  clear h hi
  go_enter Tryz.func37, Tryz.ntmps37
  go_wp2
  have HPD : Hid (PdS w slots [] (.slice none 0 0) ((w.alloc (.cells #[.int .i64 0, .slice none 0 0] 55)).alloc (.cells #[.int .i64 slots, .slice none 0 0] 55))) :=
    ⟨((Below.refl _ _).alloc (Nat.le_refl _) _).alloc (by simp) _, by simp, (Row.new w 55 [.int .i64 0, .slice none 0 0]).alloc _, by have := Row.new (w.alloc (.cells #[.int .i64 0, .slice none 0 0] 55)) 55 [.int .i64 slots, .slice none 0 0]; rw [show (w.alloc (.cells #[.int .i64 0, .slice none 0 0] 55)).heap.size = w.heap.size + 1 by simp] at this; exact this, ⟨World.ownsRow_nil _ _ _ _, fun x hx => by simp at hx⟩⟩
  clear p1 p3 hlt1
  go_loopg [5, 17] (C.length + 1) (fun gg v5 v17 wr => ∃ (k : Nat) (L : List (LRow × Value × Value)) (v : Value), v17 = .int .i64 k ∧ k ≤ C.length ∧ gg = C.length + 1 - k ∧ PdS w slots L v wr ∧ L.map (·.1) = (C.take k).map (rowL B H f0 f1))
  case atStart => exact ⟨0, [], .slice none 0 0, rfl, by omega, by omega, HPD.out, by simp⟩
  case round =>
    clear HPD
    obtain ⟨k, L, v, rfl, hk, hgk, hpd, hLm⟩ := hrel
    have HGK : Hid (gk = C.length + 1 - k) := hgk
    have HLM : Hid (L.map (·.1) = (C.take k).map (rowL B H f0 f1)) := hLm
    have hLl : L.length = k := by have := congrArg List.length hLm; simp at this; omega
    obtain ⟨vo, vc, hv⟩ := hpd.rows.form
    subst hv
    have HPD : Hid (PdS w slots L (.slice vo L.length vc) wr) := hpd
    have hsz := hpd.sz
    have l0 : wr.cell? ⟨w.heap.size + 1, 0, none⟩ = some (.int .i64 slots) := hpd.lv.cell 0
    have l1 : wr.cell? ⟨w.heap.size + 1, 1, none⟩ = some (.slice vo L.length vc) := hpd.lv.cell 1
    have HLL : Hid (L.length = k) := hLl
    clear hgk hLm hpd hLl
    by_cases hlt : k < C.length
    case neg =>
      have y2 : ¬ (k : Int) < (C.length : Int) := by omega
      have s0 : wr.cell? ⟨w.heap.size, 0, none⟩ = some (.int .i64 0) := HPD.out.res.cell 0
      have s1 : wr.cell? ⟨w.heap.size, 1, none⟩ = some (.slice none 0 0) := HPD.out.res.cell 1
      have zf : ∀ j, wr.frozen? ⟨w.heap.size, j, none⟩ = false := fun j => HPD.out.res.frozen j
      go_wp2
      have hL2 := HLL.out
      have hrw := (HPD.out.rows.setCell (a := ⟨w.heap.size, 0, none⟩) (by dsimp only; omega) (.int .i64 slots)).setCell (a := ⟨w.heap.size, 1, none⟩) (by dsimp only; omega) (.slice vo L.length vc)
      have hpl := HLM.out
      rw [List.take_of_length_le (by omega)] at hpl
      have hLC : L.length = C.length := by omega
      refine bodyPost_ret (v := .agg #[.int .i64 slots, .slice vo L.length vc]) ?_ rfl ⟨L, vo, vc, by rw [hLC], by rw [← hLC]; exact hrw, hpl, ((HPD.out.bel.setCell (by dsimp only; omega) _).setCell (by dsimp only; omega) _)⟩
      simp [results, Tryz.results37, go_sem, s0, s1]
    have y2 : (k : Int) < (C.length : Int) := by omega
    have y3 : (0 : Int) ≤ (k : Int) := by omega
    obtain ⟨hio, hkn⟩ := HI.out k hlt
    have hbd := HBD.out.later HPD.out.bel
    obtain ⟨e0, e1, e2, e3, e4, e5⟩ := hbd.held.code k hlt
    obtain ⟨i, hie⟩ : ∃ i, i = C.getD k .zero := ⟨_, rfl⟩
    rw [← hie] at e0 e1 e2 e3 e4 e5 hio hkn
    have HIE : Hid (i = C.getD k .zero) := hie
    clear hie
    have hb1l : b1 < wr.heap.size := World.block_lt_of_cell? _ _ e0
    obtain ⟨rl, hrl⟩ : ∃ rl, rl = rowL B H f0 f1 i := ⟨_, rfl⟩
    have HRL : Hid (rl = rowL B H f0 f1 i) := hrl
    have HRO : Hid (∀ wx : World, Below wr.heap.size wr wx → Calls Tryz.prog 75 #[.pointer (some ⟨bb, 0, none⟩), .agg #[.int .i64 i.op, .int .i64 i.dest, .int .i64 i.a, .int .i64 i.b, .int .i64 i.c, .int .u32 i.n]] wx fun e w' => RowP B H f0 f1 i wx e w') := fun wx hb => buildRowO (hbd.later hb) h12 hf0 hf1 i hio hkn
    unfold RowP at HRO
    rw [← hrl] at HRO
    clear hrl hbd hio hkn
    obtain ⟨op, hop⟩ : ∃ op, op = i.op := ⟨_, rfl⟩
    obtain ⟨de, hde⟩ : ∃ de, de = i.dest := ⟨_, rfl⟩
    obtain ⟨ia, hia⟩ : ∃ ia, ia = i.a := ⟨_, rfl⟩
    obtain ⟨ib, hib⟩ : ∃ ib, ib = i.b := ⟨_, rfl⟩
    obtain ⟨ic, hic⟩ : ∃ ic, ic = i.c := ⟨_, rfl⟩
    obtain ⟨im, him⟩ : ∃ im, im = i.n := ⟨_, rfl⟩
    rw [← hop, ← hde, ← hia, ← hib, ← hic, ← him] at HRO
    rw [← hop] at e0
    rw [← hde] at e1
    rw [← hia] at e2
    rw [← hib] at e3
    rw [← hic] at e4
    rw [← him] at e5
    clear hop hde hia hib hic him
    go_upto_region 5 with fail
    obtain ⟨w4, hw4⟩ : ∃ w4, w4 = wr.alloc (.cells #[.int .i64 op, .int .i64 de, .int .i64 ia, .int .i64 ib, .int .i64 ic, .int .u32 im] 45) := ⟨_, rfl⟩
    have hb4 : Below wr.heap.size wr w4 := by rw [hw4]; exact (Below.refl _ _).alloc (Nat.le_refl _) _
    have hr4 : Row w4 wr.heap.size 45 [.int .i64 op, .int .i64 de, .int .i64 ia, .int .i64 ib, .int .i64 ic, .int .u32 im] := by rw [hw4]; exact Row.new _ _ _
    rw [← hw4]
    clear hw4
    obtain ⟨bx, hbx⟩ : ∃ bx, bx = wr.heap.size := ⟨_, rfl⟩
    rw [← hbx] at hr4 ⊢
    have hx2 : w.heap.size + 2 ≤ bx := by omega
    have HB4 : Hid (Below wr.heap.size wr w4) := hb4
    have HP4 : Hid (PdS w slots L (.slice vo L.length vc) w4) := HPD.out.below hb4
    have HR4 : Hid (Row w4 bx 45 [.int .i64 op, .int .i64 de, .int .i64 ia, .int .i64 ib, .int .i64 ic, .int .u32 im]) := hr4
    have l1 := step_cell hb4 l1
    have hl1 : w.heap.size + 1 < w4.heap.size := World.block_lt_of_cell? _ _ l1
    have hxv : (Value.slice vo L.length vc).ownBlock ≠ some bx := fun e => by have := (HPD.out.own_ge e).2; omega
    have HXV : Hid ((Value.slice vo L.length vc).ownBlock ≠ some bx) := hxv
    have hLk : L.length ≤ 40 := by have := HLL.out; omega
    clear hb4 hr4 e0 e1 e2 e3 e4 e5 hb1l hbx hxv l0 HPD
    obtain ⟨t0', hi0, hy0, hy1, hy2⟩ := info_parts (P := Tryz.prog) (e := 118) (z := .agg #[.int .i64 0, .int .i64 0, .int .i64 0, .int .i64 0, .int .i64 0, .int .i64 0, .slice none 0 0, .slice none 0 0]) (size := 8) (bytes := 96) (by kernel_rfl)
    refine wp_region_held_drew (S := (fun w' => Row w' bx 45 [.int .i64 op, .int .i64 de, .int .i64 ia, .int .i64 ib, .int .i64 ic, .int .u32 im])) (by rfl) ?_ (fun hHeld => ?_)
    · (exact HR4.out)
    refine wpAnyH_take (i := 0) (v := ?_) rfl (by kernel_rfl) (by kernel_rfl) (by kernel_rfl) (fun _ _ _ h => h) (Or.inl ⟨by rfl, ?_⟩) (by assumption) ?_
    case refine_2 => (intro w hSw; (try dsimp only at hSw); go_simp; try with_reducible rfl)
    show wpAnyH _ _ _ _ _ _ _ (Act.put _ (some 21) _) _
    simp only [pz]
    refine wpAnyH_take (i := 2) (v := ?_) rfl (by kernel_rfl) (by kernel_rfl) (by kernel_rfl) (fun _ _ _ h => h) (Or.inl ⟨by rfl, ?_⟩) (by assumption) ?_
    case refine_2 => (intro w hSw; (try dsimp only at hSw); go_simp; try with_reducible rfl)
    show wpAnyH _ _ _ _ _ _ _ (Act.put _ (some 23) _) _
    simp only [pz]
    refine wpAnyH_take (i := 3) (v := ?_) rfl (by kernel_rfl) (by kernel_rfl) (by kernel_rfl) (fun _ _ _ h => h) (Or.inl ⟨by rfl, ?_⟩) (by assumption) ?_
    case refine_2 => (intro w5 hSw; (try dsimp only at hSw); have q0 : w5.cell? ⟨bx, 0, none⟩ = some (.int .i64 op) := hSw.cell 0; have q1 : w5.cell? ⟨bx, 1, none⟩ = some (.int .i64 de) := hSw.cell 1; have q2 : w5.cell? ⟨bx, 2, none⟩ = some (.int .i64 ia) := hSw.cell 2; have q3 : w5.cell? ⟨bx, 3, none⟩ = some (.int .i64 ib) := hSw.cell 3; have q4 : w5.cell? ⟨bx, 4, none⟩ = some (.int .i64 ic) := hSw.cell 4; have q5 : w5.cell? ⟨bx, 5, none⟩ = some (.int .u32 im) := hSw.cell 5; go_simp; try with_reducible rfl)
    show wpAnyH _ _ _ _ _ _ _ (Act.put _ (some 24) _) _
    simp only [pz]
    have HL6 : Hid ((rowL B H f0 f1 i).before.length ≤ 2 ∧ (rowL B H f0 f1 i).after.length ≤ 1) := rowL_len B H f0 f1 i
    refine wpAnyH_ready (rs := [1, 4]) (by kernel_rfl) (by simp) ?_
    refine (AllReadyH.cons rfl (fun K hK => ?_) (AllReadyH.cons rfl (fun K hK => ?_) AllReadyH.nil))
    · go_simp
      refine hK.out _ _ ?_ (fun hHeld => ?_)
      · (assumption)
      clear hK K
      try simp only [pz]
      refine wpAnyH_ready (rs := [4]) (by kernel_rfl) (by simp) ?_
      refine (AllReadyH.cons rfl (fun K hK => ?_) AllReadyH.nil)
      go_simp
      refine (HRO.out _ (step_below (Below.refl _ _).drew HB4.out)).mono ?_
      rintro e w5 ⟨vb, va, rfl, hmb, hma, hbd⟩
      obtain ⟨bo, bc, hvb⟩ := hmb.form
      subst hvb
      obtain ⟨ao, ac, hva⟩ := hma.form
      subst hva
      have hb5 : Below w4.heap.size w4 w5 := step_below hbd ((Below.refl _ _).drew)
      have HB5 : Hid (Below w4.heap.size w4 w5) := hb5
      have HP5 : Hid (PdS w slots L (.slice vo L.length vc) w5) := HP4.out.below hb5
      have HR5 : Hid (Row w5 bx 45 [.int .i64 op, .int .i64 de, .int .i64 ia, .int .i64 ib, .int .i64 ic, .int .u32 im]) := HR4.out.below hb5
      have HMB : Hid (MvB w4.heap.size rl.before (.slice bo rl.before.length bc) w5) := hmb
      have HMA : Hid (MvB w4.heap.size rl.after (.slice ao rl.after.length ac) w5) := hma
      have l15 := step_cell hb5 l1
      have hl5 : w.heap.size + 1 < w5.heap.size := World.block_lt_of_cell? _ _ l15
      clear hmb hma hbd hb5
      go_wp2_with fail
      refine hK.out _ _ ?_ (fun hHeld => ?_)
      · (exact HR5.out)
      clear hK K
      try simp only [pz]
      refine wpAnyH_ready (rs := [5]) (by kernel_rfl) (by simp) ?_
      refine (AllReadyH.cons rfl (fun K hK => ?_) AllReadyH.nil)
      go_simp
      refine hK.out _ _ ?_ (fun hHeld => ?_)
      · (exact HR5.out.alloc _)
      clear hK K
      try simp only [pz]
      have HP6 : Hid (PdS w slots L (.slice vo L.length vc) (w5.alloc (.cells #[.int .i64 rl.dest.kind, .int .i64 rl.dest.n, .int .i64 rl.a.kind, .int .i64 rl.a.n, .int .i64 rl.b.kind, .int .i64 rl.b.n, .slice bo rl.before.length bc, .slice ao rl.after.length ac] 118))) := HP5.out.below ((Below.refl _ _).alloc (Nat.le_refl _) _)
      refine wpAnyH_ready (rs := [6]) (by kernel_rfl) (by simp) ?_
      refine (AllReadyH.cons rfl (fun K hK => ?_) AllReadyH.nil)
      (refine step_append_lies _ (by rfl) _ _ _ (by rfl) (w.heap.size + 2) 118 t0' _ 8 96 Tryz.underlying53 hi0 hy0 hy1 hy2 rfl (by omega) (.slice vo L.length vc) L.length (L.flatMap rowC) (by rfl) HP6.out.rows.own
          ⟨w5.heap.size, 0, none⟩ 1 1 [.int .i64 rl.dest.kind, .int .i64 rl.dest.n, .int .i64 rl.a.kind, .int .i64 rl.a.n, .int .i64 rl.b.kind, .int .i64 rl.b.n, .slice bo rl.before.length bc, .slice ao rl.after.length ac] (by rfl) (by rfl) (World.news_of_block (cs := #[.int .i64 rl.dest.kind, .int .i64 rl.dest.n, .int .i64 rl.a.kind, .int .i64 rl.a.n, .int .i64 rl.b.kind, .int .i64 rl.b.n, .slice bo rl.before.length bc, .slice ao rl.after.length ac]) (t := 118) (fr := (0, 0)) (heap_alloc_new w5 _)) (by simp [Value.oneCell'])
          (by omega) (by unfold maxLen; omega) (by omega) (by simp; omega) (w5.heap.size + 1) (by simp) ?_; intro g2 cap2 w7 hown1 hgrow hat hlt3)
      have hsz4 := HP4.out.sz
      have hmvb : MvOkC (w.heap.size + 2) (Value.slice vo L.length vc).ownBlock (w5.alloc (.cells #[.int .i64 rl.dest.kind, .int .i64 rl.dest.n, .int .i64 rl.a.kind, .int .i64 rl.a.n, .int .i64 rl.b.kind, .int .i64 rl.b.n, .slice bo rl.before.length bc, .slice ao rl.after.length ac] 118)) (.slice bo rl.before.length bc) rl.before := own_mv (lo := w4.heap.size) (HMB.out.below ((Below.refl _ _).alloc (Nat.le_refl _) _)) (by have := HL6.out; rw [HRL.out]; omega) hsz4 (fun b hb e => by have := (HP4.out.own_ge e.symm).2; omega)
      have hmva : MvOkC (w.heap.size + 2) (Value.slice vo L.length vc).ownBlock (w5.alloc (.cells #[.int .i64 rl.dest.kind, .int .i64 rl.dest.n, .int .i64 rl.a.kind, .int .i64 rl.a.n, .int .i64 rl.b.kind, .int .i64 rl.b.n, .slice bo rl.before.length bc, .slice ao rl.after.length ac] 118)) (.slice ao rl.after.length ac) rl.after := own_mv (lo := w4.heap.size) (HMA.out.below ((Below.refl _ _).alloc (Nat.le_refl _) _)) (by have := HL6.out; rw [HRL.out]; omega) hsz4 (fun b hb e => by have := (HP4.out.own_ge e.symm).2; omega)
      have hpush := HP6.out.push (x := (rl, .slice bo rl.before.length bc, .slice ao rl.after.length ac)) ⟨hmvb, hmva⟩ hown1 hgrow (by rcases hat with hat | hat; exact Or.inl hat; exact Or.inr (by rw [hat]; simp))
      have HPU : Hid (PdS w slots (L ++ [(rl, .slice bo rl.before.length bc, .slice ao rl.after.length ac)]) (.slice (some ⟨g2, 0, none⟩) (L.length + 1) cap2) (w7.setCell ⟨w.heap.size + 1, 1, none⟩ (.slice (some ⟨g2, 0, none⟩) (L.length + 1) cap2))) := hpush
      have hne1 : some (w.heap.size + 1) ≠ (Value.slice vo L.length vc).ownBlock := fun e => by have := (HP4.out.own_ge e.symm).1; omega
      have cz : w7.cell? ⟨w.heap.size + 1, 1, none⟩ = some (.slice vo L.length vc) := hgrow.cell (HP6.out.lv.cell 1) hne1
      have fz : w7.frozen? ⟨w.heap.size + 1, 1, none⟩ = false := (HP6.out.lv.grown hgrow hne1).frozen 1
      have HR7 : Hid (Row w7 bx 45 [.int .i64 op, .int .i64 de, .int .i64 ia, .int .i64 ib, .int .i64 ic, .int .u32 im]) := Row.grown (HR5.out.alloc _) hgrow (fun e => HXV.out e.symm)
      clear hmvb hmva hpush hown1 hgrow hat hne1 hsz4
      refine hK.out _ _ ?_ (fun hHeld => ?_)
      · (exact HR7.out)
      clear hK K
      show wpAnyH _ _ _ _ _ _ _ (Act.put _ (some 27) _) _
      simp only [pz]
      refine wpAnyH_take (i := 7) (v := ?_) rfl (by kernel_rfl) (by kernel_rfl) (by kernel_rfl) (fun _ _ _ h => h) (Or.inl ⟨by rfl, ?_⟩) (by assumption) ?_
      case refine_2 => (intro w hSw; (try dsimp only at hSw); go_simp; try with_reducible rfl)
      show wpAnyH _ _ _ _ _ _ _ (Act.put _ (some 28) _) _
      simp only [pz]
      refine wpAnyH_ready (rs := [8]) (by kernel_rfl) (by simp) ?_
      refine (AllReadyH.cons rfl (fun K hK => ?_) AllReadyH.nil)
      go_simp
      refine hK.out _ _ ?_ (fun hHeld => ?_)
      · (exact HR7.out.other (by dsimp only; omega) _)
      clear hK K
      try simp only [pz]
      refine wpAnyH_done (by kernel_rfl) ?_ _
      clear hHeld
      go_wp2
      have hgk := HGK.out
      go_roundg (gk - 1)
      case measure => omega
      case rel => exact ⟨k + 1, _, _, by go_num, by omega, by omega, HPU.out, by rw [List.map_append, HLM.out, take_map hlt HIE.out, HRL.out]; rfl⟩
    · go_simp
      refine (HRO.out _ (step_below (Below.refl _ _).drew HB4.out)).mono ?_
      rintro e w5 ⟨vb, va, rfl, hmb, hma, hbd⟩
      obtain ⟨bo, bc, hvb⟩ := hmb.form
      subst hvb
      obtain ⟨ao, ac, hva⟩ := hma.form
      subst hva
      have hb5 : Below w4.heap.size w4 w5 := step_below hbd ((Below.refl _ _).drew)
      have HB5 : Hid (Below w4.heap.size w4 w5) := hb5
      have HP5 : Hid (PdS w slots L (.slice vo L.length vc) w5) := HP4.out.below hb5
      have HR5 : Hid (Row w5 bx 45 [.int .i64 op, .int .i64 de, .int .i64 ia, .int .i64 ib, .int .i64 ic, .int .u32 im]) := HR4.out.below hb5
      have HMB : Hid (MvB w4.heap.size rl.before (.slice bo rl.before.length bc) w5) := hmb
      have HMA : Hid (MvB w4.heap.size rl.after (.slice ao rl.after.length ac) w5) := hma
      have l15 := step_cell hb5 l1
      have hl5 : w.heap.size + 1 < w5.heap.size := World.block_lt_of_cell? _ _ l15
      clear hmb hma hbd hb5
      go_wp2_with fail
      refine hK.out _ _ ?_ (fun hHeld => ?_)
      · (exact HR5.out)
      clear hK K
      try simp only [pz]
      refine wpAnyH_ready (rs := [1, 5]) (by kernel_rfl) (by simp) ?_
      refine (AllReadyH.cons rfl (fun K hK => ?_) (AllReadyH.cons rfl (fun K hK => ?_) AllReadyH.nil))
      · go_simp
        refine hK.out _ _ ?_ (fun hHeld => ?_)
        · (assumption)
        clear hK K
        try simp only [pz]
        refine wpAnyH_ready (rs := [5]) (by kernel_rfl) (by simp) ?_
        refine (AllReadyH.cons rfl (fun K hK => ?_) AllReadyH.nil)
        go_simp
        refine hK.out _ _ ?_ (fun hHeld => ?_)
        · (exact HR5.out.alloc _)
        clear hK K
        try simp only [pz]
        have HP6 : Hid (PdS w slots L (.slice vo L.length vc) (w5.alloc (.cells #[.int .i64 rl.dest.kind, .int .i64 rl.dest.n, .int .i64 rl.a.kind, .int .i64 rl.a.n, .int .i64 rl.b.kind, .int .i64 rl.b.n, .slice bo rl.before.length bc, .slice ao rl.after.length ac] 118))) := HP5.out.below ((Below.refl _ _).alloc (Nat.le_refl _) _)
        refine wpAnyH_ready (rs := [6]) (by kernel_rfl) (by simp) ?_
        refine (AllReadyH.cons rfl (fun K hK => ?_) AllReadyH.nil)
        (refine step_append_lies _ (by rfl) _ _ _ (by rfl) (w.heap.size + 2) 118 t0' _ 8 96 Tryz.underlying53 hi0 hy0 hy1 hy2 rfl (by omega) (.slice vo L.length vc) L.length (L.flatMap rowC) (by rfl) HP6.out.rows.own
            ⟨w5.heap.size, 0, none⟩ 1 1 [.int .i64 rl.dest.kind, .int .i64 rl.dest.n, .int .i64 rl.a.kind, .int .i64 rl.a.n, .int .i64 rl.b.kind, .int .i64 rl.b.n, .slice bo rl.before.length bc, .slice ao rl.after.length ac] (by rfl) (by rfl) (World.news_of_block (cs := #[.int .i64 rl.dest.kind, .int .i64 rl.dest.n, .int .i64 rl.a.kind, .int .i64 rl.a.n, .int .i64 rl.b.kind, .int .i64 rl.b.n, .slice bo rl.before.length bc, .slice ao rl.after.length ac]) (t := 118) (fr := (0, 0)) (heap_alloc_new w5 _)) (by simp [Value.oneCell'])
            (by omega) (by unfold maxLen; omega) (by omega) (by simp; omega) (w5.heap.size + 1) (by simp) ?_; intro g2 cap2 w7 hown1 hgrow hat hlt3)
        have hsz4 := HP4.out.sz
        have hmvb : MvOkC (w.heap.size + 2) (Value.slice vo L.length vc).ownBlock (w5.alloc (.cells #[.int .i64 rl.dest.kind, .int .i64 rl.dest.n, .int .i64 rl.a.kind, .int .i64 rl.a.n, .int .i64 rl.b.kind, .int .i64 rl.b.n, .slice bo rl.before.length bc, .slice ao rl.after.length ac] 118)) (.slice bo rl.before.length bc) rl.before := own_mv (lo := w4.heap.size) (HMB.out.below ((Below.refl _ _).alloc (Nat.le_refl _) _)) (by have := HL6.out; rw [HRL.out]; omega) hsz4 (fun b hb e => by have := (HP4.out.own_ge e.symm).2; omega)
        have hmva : MvOkC (w.heap.size + 2) (Value.slice vo L.length vc).ownBlock (w5.alloc (.cells #[.int .i64 rl.dest.kind, .int .i64 rl.dest.n, .int .i64 rl.a.kind, .int .i64 rl.a.n, .int .i64 rl.b.kind, .int .i64 rl.b.n, .slice bo rl.before.length bc, .slice ao rl.after.length ac] 118)) (.slice ao rl.after.length ac) rl.after := own_mv (lo := w4.heap.size) (HMA.out.below ((Below.refl _ _).alloc (Nat.le_refl _) _)) (by have := HL6.out; rw [HRL.out]; omega) hsz4 (fun b hb e => by have := (HP4.out.own_ge e.symm).2; omega)
        have hpush := HP6.out.push (x := (rl, .slice bo rl.before.length bc, .slice ao rl.after.length ac)) ⟨hmvb, hmva⟩ hown1 hgrow (by rcases hat with hat | hat; exact Or.inl hat; exact Or.inr (by rw [hat]; simp))
        have HPU : Hid (PdS w slots (L ++ [(rl, .slice bo rl.before.length bc, .slice ao rl.after.length ac)]) (.slice (some ⟨g2, 0, none⟩) (L.length + 1) cap2) (w7.setCell ⟨w.heap.size + 1, 1, none⟩ (.slice (some ⟨g2, 0, none⟩) (L.length + 1) cap2))) := hpush
        have hne1 : some (w.heap.size + 1) ≠ (Value.slice vo L.length vc).ownBlock := fun e => by have := (HP4.out.own_ge e.symm).1; omega
        have cz : w7.cell? ⟨w.heap.size + 1, 1, none⟩ = some (.slice vo L.length vc) := hgrow.cell (HP6.out.lv.cell 1) hne1
        have fz : w7.frozen? ⟨w.heap.size + 1, 1, none⟩ = false := (HP6.out.lv.grown hgrow hne1).frozen 1
        have HR7 : Hid (Row w7 bx 45 [.int .i64 op, .int .i64 de, .int .i64 ia, .int .i64 ib, .int .i64 ic, .int .u32 im]) := Row.grown (HR5.out.alloc _) hgrow (fun e => HXV.out e.symm)
        clear hmvb hmva hpush hown1 hgrow hat hne1 hsz4
        refine hK.out _ _ ?_ (fun hHeld => ?_)
        · (exact HR7.out)
        clear hK K
        show wpAnyH _ _ _ _ _ _ _ (Act.put _ (some 27) _) _
        simp only [pz]
        refine wpAnyH_take (i := 7) (v := ?_) rfl (by kernel_rfl) (by kernel_rfl) (by kernel_rfl) (fun _ _ _ h => h) (Or.inl ⟨by rfl, ?_⟩) (by assumption) ?_
        case refine_2 => (intro w hSw; (try dsimp only at hSw); go_simp; try with_reducible rfl)
        show wpAnyH _ _ _ _ _ _ _ (Act.put _ (some 28) _) _
        simp only [pz]
        refine wpAnyH_ready (rs := [8]) (by kernel_rfl) (by simp) ?_
        refine (AllReadyH.cons rfl (fun K hK => ?_) AllReadyH.nil)
        go_simp
        refine hK.out _ _ ?_ (fun hHeld => ?_)
        · (exact HR7.out.other (by dsimp only; omega) _)
        clear hK K
        try simp only [pz]
        refine wpAnyH_done (by kernel_rfl) ?_ _
        clear hHeld
        go_wp2
        have hgk := HGK.out
        go_roundg (gk - 1)
        case measure => omega
        case rel => exact ⟨k + 1, _, _, by go_num, by omega, by omega, HPU.out, by rw [List.map_append, HLM.out, take_map hlt HIE.out, HRL.out]; rfl⟩
      · go_simp
        refine hK.out _ _ ?_ (fun hHeld => ?_)
        · (exact HR5.out.alloc _)
        clear hK K
        try simp only [pz]
        refine wpAnyH_ready (rs := [1]) (by kernel_rfl) (by simp) ?_
        refine (AllReadyH.cons rfl (fun K hK => ?_) AllReadyH.nil)
        go_simp
        refine hK.out _ _ ?_ (fun hHeld => ?_)
        · (assumption)
        clear hK K
        try simp only [pz]
        have HP6 : Hid (PdS w slots L (.slice vo L.length vc) (w5.alloc (.cells #[.int .i64 rl.dest.kind, .int .i64 rl.dest.n, .int .i64 rl.a.kind, .int .i64 rl.a.n, .int .i64 rl.b.kind, .int .i64 rl.b.n, .slice bo rl.before.length bc, .slice ao rl.after.length ac] 118))) := HP5.out.below ((Below.refl _ _).alloc (Nat.le_refl _) _)
        refine wpAnyH_ready (rs := [6]) (by kernel_rfl) (by simp) ?_
        refine (AllReadyH.cons rfl (fun K hK => ?_) AllReadyH.nil)
        (refine step_append_lies _ (by rfl) _ _ _ (by rfl) (w.heap.size + 2) 118 t0' _ 8 96 Tryz.underlying53 hi0 hy0 hy1 hy2 rfl (by omega) (.slice vo L.length vc) L.length (L.flatMap rowC) (by rfl) HP6.out.rows.own
            ⟨w5.heap.size, 0, none⟩ 1 1 [.int .i64 rl.dest.kind, .int .i64 rl.dest.n, .int .i64 rl.a.kind, .int .i64 rl.a.n, .int .i64 rl.b.kind, .int .i64 rl.b.n, .slice bo rl.before.length bc, .slice ao rl.after.length ac] (by rfl) (by rfl) (World.news_of_block (cs := #[.int .i64 rl.dest.kind, .int .i64 rl.dest.n, .int .i64 rl.a.kind, .int .i64 rl.a.n, .int .i64 rl.b.kind, .int .i64 rl.b.n, .slice bo rl.before.length bc, .slice ao rl.after.length ac]) (t := 118) (fr := (0, 0)) (heap_alloc_new w5 _)) (by simp [Value.oneCell'])
            (by omega) (by unfold maxLen; omega) (by omega) (by simp; omega) (w5.heap.size + 1) (by simp) ?_; intro g2 cap2 w7 hown1 hgrow hat hlt3)
        have hsz4 := HP4.out.sz
        have hmvb : MvOkC (w.heap.size + 2) (Value.slice vo L.length vc).ownBlock (w5.alloc (.cells #[.int .i64 rl.dest.kind, .int .i64 rl.dest.n, .int .i64 rl.a.kind, .int .i64 rl.a.n, .int .i64 rl.b.kind, .int .i64 rl.b.n, .slice bo rl.before.length bc, .slice ao rl.after.length ac] 118)) (.slice bo rl.before.length bc) rl.before := own_mv (lo := w4.heap.size) (HMB.out.below ((Below.refl _ _).alloc (Nat.le_refl _) _)) (by have := HL6.out; rw [HRL.out]; omega) hsz4 (fun b hb e => by have := (HP4.out.own_ge e.symm).2; omega)
        have hmva : MvOkC (w.heap.size + 2) (Value.slice vo L.length vc).ownBlock (w5.alloc (.cells #[.int .i64 rl.dest.kind, .int .i64 rl.dest.n, .int .i64 rl.a.kind, .int .i64 rl.a.n, .int .i64 rl.b.kind, .int .i64 rl.b.n, .slice bo rl.before.length bc, .slice ao rl.after.length ac] 118)) (.slice ao rl.after.length ac) rl.after := own_mv (lo := w4.heap.size) (HMA.out.below ((Below.refl _ _).alloc (Nat.le_refl _) _)) (by have := HL6.out; rw [HRL.out]; omega) hsz4 (fun b hb e => by have := (HP4.out.own_ge e.symm).2; omega)
        have hpush := HP6.out.push (x := (rl, .slice bo rl.before.length bc, .slice ao rl.after.length ac)) ⟨hmvb, hmva⟩ hown1 hgrow (by rcases hat with hat | hat; exact Or.inl hat; exact Or.inr (by rw [hat]; simp))
        have HPU : Hid (PdS w slots (L ++ [(rl, .slice bo rl.before.length bc, .slice ao rl.after.length ac)]) (.slice (some ⟨g2, 0, none⟩) (L.length + 1) cap2) (w7.setCell ⟨w.heap.size + 1, 1, none⟩ (.slice (some ⟨g2, 0, none⟩) (L.length + 1) cap2))) := hpush
        have hne1 : some (w.heap.size + 1) ≠ (Value.slice vo L.length vc).ownBlock := fun e => by have := (HP4.out.own_ge e.symm).1; omega
        have cz : w7.cell? ⟨w.heap.size + 1, 1, none⟩ = some (.slice vo L.length vc) := hgrow.cell (HP6.out.lv.cell 1) hne1
        have fz : w7.frozen? ⟨w.heap.size + 1, 1, none⟩ = false := (HP6.out.lv.grown hgrow hne1).frozen 1
        have HR7 : Hid (Row w7 bx 45 [.int .i64 op, .int .i64 de, .int .i64 ia, .int .i64 ib, .int .i64 ic, .int .u32 im]) := Row.grown (HR5.out.alloc _) hgrow (fun e => HXV.out e.symm)
        clear hmvb hmva hpush hown1 hgrow hat hne1 hsz4
        refine hK.out _ _ ?_ (fun hHeld => ?_)
        · (exact HR7.out)
        clear hK K
        show wpAnyH _ _ _ _ _ _ _ (Act.put _ (some 27) _) _
        simp only [pz]
        refine wpAnyH_take (i := 7) (v := ?_) rfl (by kernel_rfl) (by kernel_rfl) (by kernel_rfl) (fun _ _ _ h => h) (Or.inl ⟨by rfl, ?_⟩) (by assumption) ?_
        case refine_2 => (intro w hSw; (try dsimp only at hSw); go_simp; try with_reducible rfl)
        show wpAnyH _ _ _ _ _ _ _ (Act.put _ (some 28) _) _
        simp only [pz]
        refine wpAnyH_ready (rs := [8]) (by kernel_rfl) (by simp) ?_
        refine (AllReadyH.cons rfl (fun K hK => ?_) AllReadyH.nil)
        go_simp
        refine hK.out _ _ ?_ (fun hHeld => ?_)
        · (exact HR7.out.other (by dsimp only; omega) _)
        clear hK K
        try simp only [pz]
        refine wpAnyH_done (by kernel_rfl) ?_ _
        clear hHeld
        go_wp2
        have hgk := HGK.out
        go_roundg (gk - 1)
        case measure => omega
        case rel => exact ⟨k + 1, _, _, by go_num, by omega, by omega, HPU.out, by rw [List.map_append, HLM.out, take_map hlt HIE.out, HRL.out]; rfl⟩
end form
/- What the program's own functions on moves and targets answer: holds, isEmpty, kindsMay, moveMay, movesMay, mostAfter, targetMay, roomOf. -/
namespace form
open Go.RowKit
attribute [local go_sem ↓] Go.wp_at_zero Go.wp_at_succ
def emptyB (p : LPlace) : Bool := (p.kind == 0) && (p.n == 0)
set_option maxRecDepth 100000 in
theorem isEmpty (p : LPlace) (w : World) : Calls Tryz.prog 145 #[p.val] w fun e w' => e = .returned (.bool (emptyB p)) ∧ Below w.heap.size w w' := by
  unfold LPlace.val
  have HB : Hid (∀ o1 : Obj, Below w.heap.size w (w.alloc o1)) := fun o1 => (Below.refl _ _).alloc (Nat.le_refl _) _
  have q57 := eqPlace
  go_enter Tryz.func145, Tryz.ntmps145
  go_wp2
  go_ret
  exact ⟨ret_bool rfl, HB.out _⟩
def kindsB (a b : Int) : Bool := if a = b then a != 3 else (a == 3) || (b == 3)
theorem kindsMay (a b : Int) (w : World) : Calls Tryz.prog 156 #[.int .i64 a, .int .i64 b] w fun e w' => e = .returned (.bool (kindsB a b)) ∧ w' = w := by
  by_cases h : a = b
  · have e1 : (a == b) = true := by simp [h]
    have HE : Hid (kindsB a b = (a != 3)) := by show kindsB a b = _; unfold kindsB; rw [if_pos h]
    clear h
    go_enter Tryz.func156, Tryz.ntmps156
    go_wp2
    go_ret
    exact ⟨ret_bool (by rw [HE.out]; try rfl), rfl⟩
  · have e1 : (a == b) = false := by simp [h]
    have HE : Hid (kindsB a b = ((a == 3) || (b == 3))) := by show kindsB a b = _; unfold kindsB; rw [if_neg h]
    clear h
    rcases Bool.eq_false_or_eq_true (a == 3) with e2 | e2
    all_goals
      go_enter Tryz.func156, Tryz.ntmps156
      go_wp2
      go_ret
      exact ⟨ret_bool (by rw [HE.out, e2]; simp), rfl⟩
def holdB (a b c : Int) (p : LPlace) (wide : Bool) : Bool := (p.kind == if wide then 2 else 1) && hasB a b c p
set_option maxRecDepth 100000 in
set_option maxHeartbeats 1000000 in
theorem holds (a b c : Int) (p : LPlace) (wide : Bool) (w : World) : Calls Tryz.prog 144 #[roomV a b c, p.val, .bool wide] w fun e w' => e = .returned (.bool (holdB a b c p wide)) ∧ Below w.heap.size w w' := by
  unfold roomV LPlace.val
  have HB : Hid (∀ o1 o2 : Obj, Below w.heap.size w ((w.alloc o1).alloc o2)) := fun o1 o2 => ((Below.refl _ _).alloc (Nat.le_refl _) _).alloc (by simp) _
  cases wide
  · have HE : Hid (holdB a b c p false = ((p.kind == 1) && hasB a b c p)) := rfl
    rcases Bool.eq_false_or_eq_true (p.kind == 1) with e1 | e1
    all_goals
      go_enter Tryz.func144, Tryz.ntmps144
      go_wp2_with (go_at_call 155; refine (roomHas a b c p _).mono ?_; rintro e w1 ⟨rfl, hb1⟩)
      go_ret
    · exact ⟨ret_bool (by rw [HE.out, e1]; rfl), over_alloc (over_alloc hb1)⟩
    · exact ⟨ret_bool (by rw [HE.out, e1]; rfl), HB.out _ _⟩
  · have HE : Hid (holdB a b c p true = ((p.kind == 2) && hasB a b c p)) := rfl
    rcases Bool.eq_false_or_eq_true (p.kind == 2) with e1 | e1
    all_goals
      go_enter Tryz.func144, Tryz.ntmps144
      go_wp2_with (go_at_call 155; refine (roomHas a b c p _).mono ?_; rintro e w1 ⟨rfl, hb1⟩)
      go_ret
    · exact ⟨ret_bool (by rw [HE.out, e1]; rfl), over_alloc (over_alloc hb1)⟩
    · exact ⟨ret_bool (by rw [HE.out, e1]; rfl), HB.out _ _⟩
def mostI (op : Int) : Int := if op = 8 ∨ op = 9 ∨ op = 10 then 0 else 6
theorem mostAfter (op : Int) (w : World) : Calls Tryz.prog 123 #[.int .i64 op] w fun e w' => e = .returned (.int .i64 (mostI op)) ∧ w' = w := by
  go_enter Tryz.func123, Tryz.ntmps123
  go_wp2
  all_goals
    go_ret
    refine ⟨?_, rfl⟩
    unfold mostI
    simp_all
set_option maxRecDepth 100000 in
theorem targetMay (s : Int) (w : World) : Calls Tryz.prog 34 #[targetV s] w fun e w' => e = .returned (.bool (targetB s)) ∧ Below w.heap.size w w' := by
  unfold targetV
  have HB : Hid (∀ o1 : Obj, Below w.heap.size w (w.alloc o1)) := fun o1 => (Below.refl _ _).alloc (Nat.le_refl _) _
  rcases (show ¬ 4 ≤ s ∨ (4 ≤ s ∧ ¬ s ≤ 16) ∨ (4 ≤ s ∧ s ≤ 16) by omega) with h | ⟨h, h1⟩ | ⟨h, h1⟩
  · have HE : Hid (targetB s = false) := by show targetB s = false; unfold targetB; simp; omega
    go_enter Tryz.func34, Tryz.ntmps34
    go_wp2
    go_ret
    exact ⟨ret_bool HE.out.symm, HB.out _⟩
  · have HE : Hid (targetB s = false) := by show targetB s = false; unfold targetB; simp; omega
    go_enter Tryz.func34, Tryz.ntmps34
    go_wp2
    go_ret
    exact ⟨ret_bool HE.out.symm, HB.out _⟩
  · have HE : Hid (targetB s = (s % 2 == 0)) := by show targetB s = _; unfold targetB; rw [Bool.eq_iff_iff]; simp; omega
    go_enter Tryz.func34, Tryz.ntmps34
    go_wp2
    go_ret
    exact ⟨ret_bool (by rw [HE.out]; try rfl), HB.out _⟩
set_option maxRecDepth 100000 in
theorem roomOf (s slots : Int) (h0 : 4 ≤ s) (h1 : s ≤ 16) (w : World) : Calls Tryz.prog 77 #[targetV s, .int .i64 slots] w fun e w' => e = .returned (roomV s (s / 2) slots) ∧ Below w.heap.size w w' := by
  unfold targetV
  have HB : Hid (∀ o1 o2 : Obj, Below w.heap.size w ((w.alloc o1).alloc o2)) := fun o1 o2 => ((Below.refl _ _).alloc (Nat.le_refl _) _).alloc (by simp) _
  go_enter Tryz.func77, Tryz.ntmps77
  go_wp2
  refine bodyPost_ret (v := roomV s (s / 2) slots) ?_ rfl ⟨rfl, HB.out _ _⟩
  simp [results, Tryz.results77, go_sem, roomV]
def moveO (a b c : Int) (m : LMove) : Bool := if m.cst then emptyB m.src && holdB a b c m.dst false else (m.n == 0) && hasB a b c m.dst && hasB a b c m.src && kindsB m.dst.kind m.src.kind
set_option maxRecDepth 100000 in
set_option maxHeartbeats 1000000 in
theorem moveMay (a b c : Int) (m : LMove) (w : World) : Calls Tryz.prog 146 #[roomV a b c, m.val] w fun e w' => e = .returned (.bool (moveO a b c m)) ∧ Below w.heap.size w w' := by
  unfold roomV LMove.val
  have HB : Hid (∀ o1 o2 : Obj, Below w.heap.size w ((w.alloc o1).alloc o2)) := fun o1 o2 => ((Below.refl _ _).alloc (Nat.le_refl _) _).alloc (by simp) _
  obtain ⟨k, hk⟩ : ∃ k, k = m.cst := ⟨_, rfl⟩
  rw [← hk]
  have HK : Hid (m.cst = k) := hk.symm
  clear hk
  have step : ∀ (w1 : World), Below ((w.alloc (.cells #[.int .i64 0, .int .i64 a, .int .i64 b, .int .i64 c] 153)).alloc (.cells #[.int .i64 m.dst.kind, .int .i64 m.dst.n, .int .i64 m.src.kind, .int .i64 m.src.n, .bool k, .int .u32 m.n] 196)).heap.size ((w.alloc (.cells #[.int .i64 0, .int .i64 a, .int .i64 b, .int .i64 c] 153)).alloc (.cells #[.int .i64 m.dst.kind, .int .i64 m.dst.n, .int .i64 m.src.kind, .int .i64 m.src.n, .bool k, .int .u32 m.n] 196)) w1 →
      Below w.heap.size w w1 ∧ w1.cell? ⟨w.heap.size, 0, none⟩ = some (.int .i64 0) ∧ w1.cell? ⟨w.heap.size, 1, none⟩ = some (.int .i64 a) ∧ w1.cell? ⟨w.heap.size, 2, none⟩ = some (.int .i64 b) ∧ w1.cell? ⟨w.heap.size, 3, none⟩ = some (.int .i64 c) ∧ w1.cell? ⟨w.heap.size + 1, 0, none⟩ = some (.int .i64 m.dst.kind) ∧ w1.cell? ⟨w.heap.size + 1, 1, none⟩ = some (.int .i64 m.dst.n) ∧ w1.cell? ⟨w.heap.size + 1, 2, none⟩ = some (.int .i64 m.src.kind) ∧ w1.cell? ⟨w.heap.size + 1, 3, none⟩ = some (.int .i64 m.src.n) := by
    intro w1 hb1
    exact ⟨over_alloc (over_alloc hb1), step_cell hb1 (by simp [go_sem]), step_cell hb1 (by simp [go_sem]), step_cell hb1 (by simp [go_sem]), step_cell hb1 (by simp [go_sem]), step_cell hb1 (by simp [go_sem]), step_cell hb1 (by simp [go_sem]), step_cell hb1 (by simp [go_sem]), step_cell hb1 (by simp [go_sem])⟩
  have HS : Hid _ := step
  clear step
  cases k
  · have HE : Hid (moveO a b c m = ((m.n == 0) && hasB a b c m.dst && hasB a b c m.src && kindsB m.dst.kind m.src.kind)) := by show moveO a b c m = _; unfold moveO; rw [HK.out]; rfl
    rcases Bool.eq_false_or_eq_true (m.n == 0) with e1 | e1
    · cases hd : hasB a b c m.dst
      · have HE2 : Hid (moveO a b c m = false) := by show moveO a b c m = _; rw [HE.out, hd]; simp
        go_enter Tryz.func146, Tryz.ntmps146
        go_wp2_with (go_at_call 155; refine (roomHas a b c m.dst _).mono ?_; rw [hd]; rintro e w1 ⟨rfl, hb1⟩)
        go_ret
        exact ⟨ret_bool HE2.out.symm, over_alloc (over_alloc hb1)⟩
      · cases hq : hasB a b c m.src
        · have HE2 : Hid (moveO a b c m = false) := by show moveO a b c m = _; rw [HE.out, hq]; simp
          go_enter Tryz.func146, Tryz.ntmps146
          go_wp2_with fail
          go_at_call 155
          refine (roomHas a b c m.dst _).mono ?_
          rw [hd]
          rintro e w1 ⟨rfl, hb1⟩
          obtain ⟨hbel, r0, r1, r2, r3, t0, t1, t2, t3⟩ := HS.out w1 hb1
          clear hb1
          go_wp2_with (go_at_call 155; refine (roomHas a b c m.src _).mono ?_; rw [hq]; rintro e w2 ⟨rfl, hb2⟩)
          go_ret
          exact ⟨ret_bool HE2.out.symm, step_below hb2 hbel⟩
        · have HE2 : Hid (moveO a b c m = kindsB m.dst.kind m.src.kind) := by show moveO a b c m = _; rw [HE.out, hq, hd, e1]; simp
          go_enter Tryz.func146, Tryz.ntmps146
          go_wp2_with fail
          go_at_call 155
          refine (roomHas a b c m.dst _).mono ?_
          rw [hd]
          rintro e w1 ⟨rfl, hb1⟩
          obtain ⟨hbel, r0, r1, r2, r3, t0, t1, t2, t3⟩ := HS.out w1 hb1
          clear hb1
          go_wp2_with (first | (go_at_call 155; refine (roomHas a b c m.src _).mono ?_; rw [hq]; rintro e w2 ⟨rfl, hb2⟩; have v0 := step_cell hb2 t0; have v2 := step_cell hb2 t2) | (go_at_call 156; refine (kindsMay _ _ _).mono ?_; rintro e w3 ⟨rfl, hw3⟩; obtain rfl := hw3.symm))
          go_ret
          exact ⟨ret_bool HE2.out.symm, step_below hb2 hbel⟩
    · have HE2 : Hid (moveO a b c m = false) := by show moveO a b c m = _; rw [HE.out, e1]; rfl
      go_enter Tryz.func146, Tryz.ntmps146
      go_wp2
      go_ret
      exact ⟨ret_bool HE2.out.symm, HB.out _ _⟩
  · have HE : Hid (moveO a b c m = (emptyB m.src && holdB a b c m.dst false)) := by show moveO a b c m = _; unfold moveO; rw [HK.out]; rfl
    cases he : emptyB m.src
    · have HE2 : Hid (moveO a b c m = false) := by show moveO a b c m = _; rw [HE.out, he]; rfl
      go_enter Tryz.func146, Tryz.ntmps146
      go_wp2_with (go_at_call 145; refine (isEmpty m.src _).mono ?_; rw [he]; rintro e w1 ⟨rfl, hb1⟩)
      go_ret
      exact ⟨ret_bool HE2.out.symm, over_alloc (over_alloc hb1)⟩
    · have HE2 : Hid (moveO a b c m = holdB a b c m.dst false) := by show moveO a b c m = _; rw [HE.out, he]; rfl
      go_enter Tryz.func146, Tryz.ntmps146
      go_wp2_with (first | (go_at_call 145; refine (isEmpty m.src _).mono ?_; rw [he]; rintro e w1 ⟨rfl, hb1⟩; obtain ⟨hbel, r0, r1, r2, r3, t0, t1, t2, t3⟩ := HS.out w1 hb1; clear hb1) | (go_at_call 144; refine (holds a b c m.dst false _).mono ?_; rintro e w2 ⟨rfl, hb2⟩))
      go_ret
      exact ⟨ret_bool HE2.out.symm, step_below hb2 hbel⟩
def movesO (a b c : Int) (l : List LMove) (most : Int) : Bool := decide ((l.length : Int) ≤ most) && l.all (moveO a b c)
set_option maxRecDepth 100000 in
set_option maxHeartbeats 1000000 in
theorem movesMay (a b c : Int) (v : Value) (l : List LMove) (most : Int) (hm : most ≤ 6) (w : World) (h : MovesIs w v l) : Calls Tryz.prog 122 #[roomV a b c, v, .int .i64 most] w fun e w' => e = .returned (.bool (movesO a b c l most)) ∧ Below w.heap.size w w' := by
  obtain ⟨ao, cap, rfl, hl, hc⟩ := h
  have HC : Hid _ := hc
  clear hc
  unfold roomV
  by_cases h6 : (l.length : Int) ≤ most
  case neg =>
    have HN : Hid (movesO a b c l most = false) := by show movesO a b c l most = false; simp [movesO, h6]
    go_enter Tryz.func122, Tryz.ntmps122
    go_wp2
    go_ret
    exact ⟨ret_bool HN.out.symm, (Below.refl _ _).alloc (Nat.le_refl _) _⟩
  have hg : (l.length : Int) ≤ 6 := by omega
  go_enter Tryz.func122, Tryz.ntmps122
  go_wp2
  go_loopw [15] (fun i wr => ∃ k : Nat, k ≤ l.length ∧ i = .int .i64 k ∧ Below w.heap.size w wr ∧ w.heap.size < wr.heap.size ∧ wr.cell? ⟨w.heap.size, 0, none⟩ = some (.int .i64 0) ∧ wr.cell? ⟨w.heap.size, 1, none⟩ = some (.int .i64 a) ∧ wr.cell? ⟨w.heap.size, 2, none⟩ = some (.int .i64 b) ∧ wr.cell? ⟨w.heap.size, 3, none⟩ = some (.int .i64 c) ∧ (∀ j, j < k → moveO a b c (l.getD j .zero) = true)) (fun i _ => l.length - (intOf i).toNat)
  case atStart => exact ⟨0, by omega, rfl, (Below.refl _ _).alloc (Nat.le_refl _) _, by simp, by simp [go_sem], by simp [go_sem], by simp [go_sem], by simp [go_sem], fun j hj => absurd hj (by omega)⟩
  case round =>
    obtain ⟨k, hk, rfl, hbel, hsz, r0, r1, r2, r3, hall⟩ := hrel
    have F : Hid _ := hall
    clear hall
    by_cases hlt : k < l.length
    · obtain ⟨b9, o, rfl, hbl, hcell⟩ := HC.out (by omega)
      obtain ⟨d0, d1, d2, d3, d4, d5⟩ := hcell k hlt
      have d0 := step_cell hbel d0
      have d1 := step_cell hbel d1
      have d2 := step_cell hbel d2
      have d3 := step_cell hbel d3
      have d4 := step_cell hbel d4
      have d5 := step_cell hbel d5
      obtain ⟨m, hi⟩ : ∃ m, m = l.getD k .zero := ⟨_, rfl⟩
      rw [← hi] at d0 d1 d2 d3 d4 d5
      have HI : Hid (m = l.getD k .zero) := hi
      clear hi hcell
      have y1 : (0 : Int) ≤ (k : Int) := by omega
      have y2 : (k : Int) < (l.length : Int) := by omega
      have hbl2 : b9 < wr.heap.size := by have := hbel.size; omega
      go_wp2_with (go_at_call 146; refine (moveMay a b c m _).mono ?_; rintro e w1 ⟨rfl, hb1⟩)
      all_goals
        have hb2 := over_alloc hb1
        have hbel1 := step_below hb2 hbel
      · go_ret
        refine ⟨ret_bool ?_, hbel1⟩
        have hf : moveO a b c m = false := by simp_all
        unfold movesO
        rw [eq_comm, Bool.and_eq_false_iff]
        right
        rw [List.all_eq_false]
        refine ⟨m, ?_, by simp [hf]⟩
        rw [HI.out]
        simp [List.getD, hlt]
      · refine ⟨⟨k + 1, by omega, by go_num, hbel1, Nat.lt_of_lt_of_le hsz hb2.size, step_cell hb2 r0, step_cell hb2 r1, step_cell hb2 r2, step_cell hb2 r3, ?_⟩, by simp [intOf]; omega⟩
        intro j hj
        by_cases hjk : j < k
        · exact F.out j hjk
        · obtain rfl : j = k := by omega
          rw [← HI.out]
          simp_all
    · go_wp2
      go_ret
      refine ⟨ret_bool ?_, hbel⟩
      unfold movesO
      rw [eq_comm, Bool.and_eq_true]
      refine ⟨by simp [h6], ?_⟩
      rw [List.all_eq_true]
      intro x hx
      obtain ⟨j, hj, rfl⟩ := List.getElem_of_mem hx
      have := F.out j (by omega)
      simpa [List.getD, hj] using this
end form
end Go.Proofs.YtgnhpfmdbclnkaaGreatDoor
