/- The numbers of a program, rising (check.numbersOf). -/
import Derived.Test.YtdbjklngnloibaaGreatF10
import Derived.Test.YtdbjklngnloibaaGreatF26
import Derived.Test.YtdbjklngnloibaaGreatF09
import Derived.Test.YtdbjklngnloibaaGreatF31
import Derived.Test.YtdbjklngnloibaaGreatF17
import Derived.Test.YtdbjklngnloibaaGreatF11
import Derived.Test.YtdbjklngnloibaaGreatF12

namespace Go.Proofs.YtdbjklngnloibaaGreat.form
open Go.RowKit
set_option linter.unusedVariables false
set_option maxRecDepth 100000
attribute [local go_sem ↓] Go.wp_at_zero Go.wp_at_succ

def numsTo (C : List LIns) (k : Nat) : List Int := 0 :: ((C.take k).filter (fun i => i.op == 1)).map (·.n)
theorem numsTo_len (C : List LIns) (k : Nat) : (numsTo C k).length ≤ k + 1 := by
  unfold numsTo
  have := List.length_filter_le (fun i : LIns => i.op == 1) (C.take k)
  simp at this ⊢
  omega
theorem numsTo_step {C : List LIns} {k : Nat} (hk : k < C.length) : numsTo C (k + 1) = numsTo C k ++ (if (C.getD k .zero).op = 1 then [(C.getD k .zero).n] else []) := by
  have e : C.take (k + 1) = C.take k ++ [C.getD k .zero] := by rw [List.take_succ_eq_append_getElem hk]; simp [List.getD, hk]
  unfold numsTo
  rw [e, List.filter_append, List.map_append]
  obtain ⟨i, hi⟩ : ∃ i, i = C.getD k .zero := ⟨_, rfl⟩
  rw [← hi]
  by_cases h : i.op = 1
  · simp [List.filter, h]
  · have h2 : (i.op == 1) = false := by simpa using h
    simp [List.filter, h, h2]
theorem numsTo_mem {C : List LIns} {x : Int} : x ∈ numsTo C C.length ↔ NumP C x := by
  unfold numsTo NumP
  rw [List.take_length]
  simp only [List.mem_cons, List.mem_map, List.mem_filter, beq_iff_eq]
  refine or_congr Iff.rfl ?_
  constructor
  · rintro ⟨i, ⟨hi, h1⟩, h2⟩
    obtain ⟨k, hk, he⟩ := List.mem_iff_getElem.1 hi
    exact ⟨k, hk, by simp [List.getD, hk, he, h1], by simp [List.getD, hk, he, h2]⟩
  · rintro ⟨k, hk, h1, h2⟩
    refine ⟨C.getD k .zero, ⟨by simp [List.getD, hk], h1⟩, h2⟩

/-- The numbers in memory. -/
def NumsAt (w : World) (lo : Nat) (v : Value) (N : List Int) : Prop := ∃ b cap, v = .slice (some ⟨b, 0, none⟩) N.length cap ∧ lo ≤ b ∧ b < w.heap.size ∧ ∀ j, j < N.length → w.cell? ⟨b, j, none⟩ = some (.int .u32 (N.getD j 0))
structure NumsOk (C : List LIns) (N : List Int) : Prop where
  one : 1 ≤ N.length
  le : N.length ≤ C.length + 1
  inc : N.Pairwise (· < ·)
  num : NumsOf C N
def NumsAns (C : List LIns) (w : World) (e : Ending) (w' : World) : Prop := ∃ v N, e = .returned v ∧ NumsAt w' w.heap.size v N ∧ NumsOk C N ∧ Below w.heap.size w w'

theorem nums_ok {C : List LIns} {E : List Int} {d d' : Array Int} (hd : d.toList = numsTo C C.length) (hp : Go.Sort.PermIn 0 d.size d d') (h1 : 1 ≤ E.length) (hle : E.length ≤ d'.size) (hinc : E.Pairwise (· < ·)) (hm : ∀ x, x ∈ E ↔ ∃ j, j < d'.size ∧ d'[j]! = x) : NumsOk C E := by
  have hs : d'.size = d.size := hp.1
  have hperm : d'.toList.Perm d.toList := by
    have h := hp.2.2
    have e1 : d.extract 0 d.size = d := by simp
    have e2 : d'.extract 0 d.size = d' := by rw [← hs]; simp
    rw [e1, e2] at h
    exact h
  have hdl : d.size = (numsTo C C.length).length := by rw [← hd]; simp
  refine ⟨h1, by have := numsTo_len C C.length; omega, hinc, fun x => ?_⟩
  have hx : x ∈ E ↔ NumP C x := by
    rw [hm, ← numsTo_mem, ← hd, ← hperm.mem_iff]
    constructor
    · rintro ⟨j, hj, rfl⟩
      rw [getElem!_pos d' j hj]
      simp
    · intro h
      obtain ⟨j, hj, he⟩ := List.mem_iff_getElem.1 h
      refine ⟨j, by simpa using hj, ?_⟩
      rw [getElem!_pos d' j (by simpa using hj), ← he]
      simp
  rw [← hx]
  constructor
  · rintro ⟨k, hk, rfl⟩
    unfold nAt
    simp [List.getD, hk]
  · intro h
    obtain ⟨k, hk, he⟩ := List.mem_iff_getElem.1 h
    exact ⟨k, hk, by unfold nAt; simp [List.getD, hk, he]⟩
theorem own_holds {w : World} {base g cap : Nat} {l : List Int} (h : w.ownsRow base 47 1 (.slice (some ⟨g, 0, none⟩) l.length cap) l.length (l.map (Value.int .u32))) : Go.Sort.Holds sortu.encU w g 0 l.toArray := by
  intro j hj
  have hj' : j < l.length := by simpa using hj
  refine ⟨?_, ?_⟩
  · rw [Nat.zero_add, own_cell h hj']
    simp [hj']
  · rw [Nat.zero_add]; exact own_frozen h j

theorem own_cap {w : World} {base g cap n size : Nat} {e : TypeId} {xs : List Value} (h : w.ownsRow base e size (.slice (some ⟨g, 0, none⟩) n cap) n xs) : n ≤ cap := by
  rcases h.2 with ⟨hn, _⟩ | ⟨g', cap', cur, hv, _, _, h1, _⟩
  · cases hn
  · injection hv with _ _ h3
    omega

set_option maxHeartbeats 1600000 in
theorem numbersOfO (b0 o0 c0 b1 o1 c1 : Nat) (B : List Bool) (C : List LIns) (w : World) (hC : C.length ≤ 40) (h : Held w b0 o0 b1 o1 B C) :
    Calls Tryz.prog 26 #[progV b0 o0 B.length c0 b1 o1 C.length c1] w fun e w' => NumsAns C w e w' := by
  have y2 : (C.length : Int) ≤ 40 := by omega
  have HH : Hid (Held w b0 o0 b1 o1 B C) := h
  have hlt1 := h.lt1
  clear h
  unfold progV
  go_enter Tryz.func26, Tryz.ntmps26
  go_wp2
  go_loopg [3, 5, 10] (C.length + 1) (fun gg v3 v5 v wr => ∃ (k : Nat), v = .int .i64 k ∧ k ≤ C.length ∧ gg = C.length + 1 - k ∧ NuS w b1 o1 c1 C.length (numsTo C k) v3 wr)
  case atStart =>
    refine ⟨0, rfl, by omega, by omega, ((Below.refl _ _).alloc (Nat.le_refl _) _).alloc (by simp) _, by simp [go_sem], ?_⟩
    refine ⟨rfl, .inr ⟨w.heap.size + 1, 1, #[.int .u32 0], rfl, by omega, ?_, by simp [numsTo], by unfold maxLen; omega, rfl, rfl⟩⟩
    have := heap_alloc_new (w.alloc (.cells #[.slice (some ⟨b0, o0, none⟩) B.length c0, .slice (some ⟨b1, o1, none⟩) C.length c1] 25)) (.cells #[.int .u32 0] 47)
    simpa using this
  case round =>
    obtain ⟨k, rfl, hk, hgk, hnu⟩ := hrel
    have HGK : Hid (gk = C.length + 1 - k) := hgk
    obtain ⟨l, hl⟩ : ∃ l, l = numsTo C k := ⟨_, rfl⟩
    have HL : Hid (l = numsTo C k) := hl
    have hll : l.length ≤ 41 := by rw [hl]; have := numsTo_len C k; omega
    have hl1 : 1 ≤ l.length := by rw [hl]; simp [numsTo]
    rw [← hl] at hnu
    have HNU : Hid (NuS w b1 o1 c1 C.length l u3 wr) := hnu
    obtain ⟨g, cap, hv, hg1, hg2, hgc⟩ := hnu.form (by omega)
    have hwz := hnu.bel.size
    subst hv
    clear hgk hnu hl hgc
    by_cases hkl : k < C.length
    case neg =>
      obtain rfl : k = C.length := by omega
      have hkz : ¬ (C.length : Int) < (C.length : Int) := by omega
      have hH := own_holds HNU.out.own
      have hsz : l.toArray.size = l.length := by simp
      have hcap : l.length ≤ cap := own_cap HNU.out.own
      have cS := sortu.sortU g 0 cap l.toArray wr hH hg2 (by rw [hsz]; omega)
      rw [hsz] at cS
      have hd0 : l.toArray.toList = numsTo C C.length := by simpa using HL.out
      have HD0 : Hid (l.toArray.toList = numsTo C C.length) := hd0
      have HBR : Hid (Below w.heap.size w wr) := HNU.out.bel
      clear hH hsz HNU HGK hd0
      go_upto_region 9 with (go_at_call 44; refine cS.mono ?_; rintro e w1 ⟨rfl, d', h1, h2, h3⟩; have H1 : Hid (sortu.Row wr g 0 d' w1) := h1; have H2 : Hid (Go.Sort.PermIn 0 l.length l.toArray d') := h2; have H3 : Hid (Go.Sort.SortedIn Go.Sort.ltInt 0 l.length d') := h3; clear h1 h2 h3)
      have hsd : d'.size = l.length := by have := H2.out.1; simpa using this
      have hso := H3.out
      have c := sortu.compactU g 0 cap d' w1 H1.out.holds (by omega) (by omega) (by omega) (by rw [hsd]; exact hso)
      rw [hsd] at c
      have HSD : Hid (d'.size = l.length) := hsd
      clear cS hso hsd
      go_wp2_with (go_at_call 45; refine c.mono ?_; rintro e w2 ⟨E, rfl, hon⟩; have HON : Hid (sortu.Once w1 g 0 cap d' E w2) := hon; clear hon)
      go_ret
      have hon := HON.out
      have hb1 : Below w.heap.size w w1 := HBR.out.grown H1.out.grown (by omega) (fun j hj => by cases hj; omega)
      have hs1 := hb1.size
      have hb2 : Below w.heap.size w w2 := hb1.grown hon.grown (by omega) (fun j hj => by cases hj; omega)
      have hlt2 : g < w2.heap.size := by have := H1.out.grown.size; have := hon.grown.size; omega
      refine ⟨_, E, rfl, ⟨g, cap, rfl, by omega, hlt2, fun j hj => by have := hon.cells j hj; rwa [Nat.zero_add] at this⟩, nums_ok HD0.out (by have := H2.out; simpa using this) hon.one hon.le hon.inc hon.mem, hb2⟩
    have hkz : (k : Int) < (C.length : Int) := by omega
    obtain ⟨d0, d1, d2, d3, d4, d5⟩ := (HH.out.later HNU.out.bel).code k hkl
    obtain ⟨i, hi⟩ : ∃ i, i = C.getD k .zero := ⟨_, rfl⟩
    rw [← hi] at d0 d1 d2 d3 d4 d5
    have HI : Hid (i = C.getD k .zero) := hi
    clear hi
    have hlt1r : b1 < wr.heap.size := by omega
    by_cases hop : i.op = 1
    · have hop1 : (i.op == 1) = true := by simp [hop]
      have HOP : Hid (i.op = 1) := hop
      clear hop
      obtain ⟨t0', hi0, hy0, hy1, hy2⟩ := info_parts infoU32
      go_wp2_with (at_builtin; refine wpList_append_lies _ rfl _ _ 64 rfl (w.heap.size + 1) 47 t0' (.int .u32 0) 1 4 Tryz.underlying64 hi0 hy0 hy1 hy2 rfl (by decide) (.slice (some ⟨g, 0, none⟩) l.length cap) l.length (l.map (Value.int .u32)) rfl (World.ownsRow.alloc (World.ownsRow.alloc HNU.out.own _) _) ⟨wr.heap.size + 1, 0, none⟩ 1 1 [.int .u32 i.n] rfl rfl ?c1 ?c2 (by decide) ?c3 ?c4 ?c5 _ rfl ?_)
      case c1 =>
        intro j u hu
        rcases j with _ | j
        · simp at hu; subst hu; simp [go_sem, Addr.add]
        · simp at hu
      case c2 => simp [Value.oneCell']
      case c3 => unfold maxLen; omega
      case c4 => omega
      case c5 => first | omega | (simp; omega)
      intro g9 cap9 w9 hown hgrow hat hlt9
      have hP := (HNU.out.below (((Below.refl _ _).alloc (Nat.le_refl _) (.cells #[.int .i64 i.op, .int .i64 i.dest, .int .i64 i.a, .int .i64 i.b, .int .i64 i.c, .int .u32 i.n] 49)).alloc (by simp) (.cells #[.int .u32 i.n] 47))).push (by simp; omega) hown hgrow
      have HP : Hid (NuS w b1 o1 c1 C.length (l ++ [i.n]) (.slice (some ⟨g9, 0, none⟩) (l.length + 1) cap9) w9) := hP
      clear hP hown hgrow hat
      go_wp2
      have hgk := HGK.out
      go_roundg (gk - 1)
      case measure => omega
      case rel =>
        refine ⟨k + 1, by go_num, by omega, by omega, ?_⟩
        rw [numsTo_step hkl, ← HI.out, if_pos HOP.out, ← HL.out]
        exact HP.out
    · have hop1 : (i.op == 1) = false := by simp [hop]
      have HOP : Hid (¬ i.op = 1) := hop
      clear hop
      have HP : Hid (NuS w b1 o1 c1 C.length l (.slice (some ⟨g, 0, none⟩) l.length cap) (wr.alloc (.cells #[.int .i64 i.op, .int .i64 i.dest, .int .i64 i.a, .int .i64 i.b, .int .i64 i.c, .int .u32 i.n] 49))) := HNU.out.below ((Below.refl _ _).alloc (Nat.le_refl _) _)
      go_wp2
      have hgk := HGK.out
      go_roundg (gk - 1)
      case measure => omega
      case rel =>
        refine ⟨k + 1, by go_num, by omega, by omega, ?_⟩
        rw [numsTo_step hkl, ← HI.out, if_neg HOP.out, List.append_nil, ← HL.out]
        exact HP.out
end Go.Proofs.YtdbjklngnloibaaGreat.form

/- A program in its places, with all that there may be facts of (check.newWorld). -/
namespace Go.Proofs.YtdbjklngnloibaaGreat.form
open Go.RowKit Go.Maps
set_option linter.unusedVariables false
set_option maxRecDepth 100000
attribute [local go_sem ↓] Go.wp_at_zero Go.wp_at_succ

def WorldAns (B : List Bool) (C : List LIns) (s slots : Nat) (R : List LRow) (w : World) (e : Ending) (w' : World) : Prop := ∃ g N, e = .returned (.pointer (some ⟨g.q, 0, none⟩)) ∧ Stat w' g B C R (preP s slots 4) N ∧ NumsOk C N ∧ Below w.heap.size w w'

set_option maxHeartbeats 1600000 in
theorem newWorldO (b0 o0 c0 b1 o1 c1 b2 o2 c2 s slots : Nat) (B : List Bool) (C : List LIns) (R : List LRow) (w : World) (hC : C.length ≤ 40) (h : Held w b0 o0 b1 o1 B C) (hR : RowsHeld w b2 o2 R) (hs4 : 4 ≤ s) (hs16 : s ≤ 16) (hs2 : s % 2 = 0) (hl : slots ≤ 12) :
    Calls Tryz.prog 9 #[progV b0 o0 B.length c0 b1 o1 C.length c1, targetV s, .agg #[.int .i64 slots, .slice (some ⟨b2, o2, none⟩) R.length c2]] w fun e w' => WorldAns B C s slots R w e w' := by
  have cA := fun w => allO s slots hs4 hs16 hs2 hl w
  have HH : Hid (Held w b0 o0 b1 o1 B C) := h
  have HR : Hid (RowsHeld w b2 o2 R) := hR
  clear h hR
  unfold targetV at cA ⊢
  unfold progV
  go_enter Tryz.func9, Tryz.ntmps9
  go_upto_region 1 with fail
  obtain ⟨wx, hwx⟩ : ∃ wx, wx = ((w.alloc (.cells #[.slice (some ⟨b0, o0, none⟩) B.length c0, .slice (some ⟨b1, o1, none⟩) C.length c1] 25)).alloc (.cells #[.int .i64 (s : Int)] 27)).alloc (.cells #[.int .i64 (slots : Int), .slice (some ⟨b2, o2, none⟩) R.length c2] 30) := ⟨_, rfl⟩
  have hbx : Below w.heap.size w wx := by rw [hwx]; exact (((Below.refl _ _).alloc (Nat.le_refl _) _).alloc (by simp) _).alloc (by simp; omega) _
  have x0 : wx.cell? ⟨w.heap.size, 0, none⟩ = some (.slice (some ⟨b0, o0, none⟩) B.length c0) := by rw [hwx]; simp [go_sem]
  have x1 : wx.cell? ⟨w.heap.size, 1, none⟩ = some (.slice (some ⟨b1, o1, none⟩) C.length c1) := by rw [hwx]; simp [go_sem]
  have x2 : wx.cell? ⟨w.heap.size + 1, 0, none⟩ = some (.int .i64 (s : Int)) := by rw [hwx]; simp [go_sem]
  have x3 : wx.cell? ⟨w.heap.size + 1 + 1, 0, none⟩ = some (.int .i64 (slots : Int)) := by rw [hwx]; simp [go_sem]
  have x4 : wx.cell? ⟨w.heap.size + 1 + 1, 1, none⟩ = some (.slice (some ⟨b2, o2, none⟩) R.length c2) := by rw [hwx]; simp [go_sem]
  rw [← hwx]
  clear hwx
  have HHX : Hid (Held wx b0 o0 b1 o1 B C) := HH.out.later hbx
  have HRX : Hid (RowsHeld wx b2 o2 R) := HR.out.later hbx
  have HBX : Hid (Below w.heap.size w wx) := hbx
  clear hbx
  refine wp_region_held_drew (S := (fun w' => Below wx.heap.size wx w')) (by rfl) ?_ (fun hHeld => ?_)
  · (exact (Below.refl _ _).drew)
  refine wpAnyH_take (i := 0) (v := ?_) rfl (by kernel_rfl) (by kernel_rfl) (by kernel_rfl) (fun _ _ _ h => h) (Or.inl ⟨by rfl, ?_⟩) (by assumption) ?_
  case refine_2 => (intro w5 hSw; (try dsimp only at hSw); have sx0 := step_cell hSw x0; have sx1 := step_cell hSw x1; go_simp; first | done | (with_reducible rfl))
  show wpAnyH _ _ _ _ _ _ _ (Act.put _ (some 7) _) _
  simp only [Act.put, List.setIfInBounds_toArray, List.set_cons_zero, List.set_cons_succ]
  refine wpAnyH_take (i := 1) (v := ?_) rfl (by kernel_rfl) (by kernel_rfl) (by kernel_rfl) (fun _ _ _ h => h) (Or.inl ⟨by rfl, ?_⟩) (by assumption) ?_
  case refine_2 => (intro w hSw; (try dsimp only at hSw); go_simp; first | done | (with_reducible rfl))
  show wpAnyH _ _ _ _ _ _ _ (Act.put _ (some 8) _) _
  simp only [Act.put, List.setIfInBounds_toArray, List.set_cons_zero, List.set_cons_succ]
  refine wpAnyH_take (i := 2) (v := ?_) rfl (by kernel_rfl) (by kernel_rfl) (by kernel_rfl) (fun _ _ _ h => h) (Or.inl ⟨by rfl, ?_⟩) (by assumption) ?_
  case refine_2 => (intro w5 hSw; (try dsimp only at hSw); have sx4 := step_cell hSw x4; go_simp; first | done | (with_reducible rfl))
  show wpAnyH _ _ _ _ _ _ _ (Act.put _ (some 9) _) _
  simp only [Act.put, List.setIfInBounds_toArray, List.set_cons_zero, List.set_cons_succ]
  refine wpAnyH_take (i := 3) (v := ?_) rfl (by kernel_rfl) (by kernel_rfl) (by kernel_rfl) (fun _ _ _ h => h) (Or.inl ⟨by rfl, ?_⟩) (by assumption) ?_
  case refine_2 => (intro w5 hSw; (try dsimp only at hSw); have sx2 := step_cell hSw x2; go_simp; first | done | (with_reducible rfl))
  show wpAnyH _ _ _ _ _ _ _ (Act.put _ (some 10) _) _
  simp only [Act.put, List.setIfInBounds_toArray, List.set_cons_zero, List.set_cons_succ]
  refine wpAnyH_take (i := 4) (v := ?_) rfl (by kernel_rfl) (by kernel_rfl) (by kernel_rfl) (fun _ _ _ h => h) (Or.inl ⟨by rfl, ?_⟩) (by assumption) ?_
  case refine_2 => (intro w hSw; (try dsimp only at hSw); go_simp; first | done | (with_reducible rfl))
  show wpAnyH _ _ _ _ _ _ _ (Act.put _ (some 11) _) _
  simp only [Act.put, List.setIfInBounds_toArray, List.set_cons_zero, List.set_cons_succ]
  refine wpAnyH_take (i := 5) (v := ?_) rfl (by kernel_rfl) (by kernel_rfl) (by kernel_rfl) (fun _ _ _ h => h) (Or.inl ⟨by rfl, ?_⟩) (by assumption) ?_
  case refine_2 => (intro w5 hSw; (try dsimp only at hSw); have sx3 := step_cell hSw x3; go_simp; first | done | (with_reducible rfl))
  show wpAnyH _ _ _ _ _ _ _ (Act.put _ (some 12) _) _
  simp only [Act.put, List.setIfInBounds_toArray, List.set_cons_zero, List.set_cons_succ]
  refine wpAnyH_take (i := 7) (v := ?_) rfl (by kernel_rfl) (by kernel_rfl) (by kernel_rfl) (fun _ _ _ h => h) (Or.inl ⟨by rfl, ?_⟩) (by assumption) ?_
  case refine_2 => (intro w5 hSw; (try dsimp only at hSw); have sx0 := step_cell hSw x0; have sx1 := step_cell hSw x1; go_simp; first | done | (with_reducible rfl))
  show wpAnyH _ _ _ _ _ _ _ (Act.put _ (some 14) _) _
  simp only [Act.put, List.setIfInBounds_toArray, List.set_cons_zero, List.set_cons_succ]
  refine wpAnyH_ready (rs := [6]) (by kernel_rfl) (by simp) ?_
  refine (AllReadyH.cons rfl (fun K hK => ?_) AllReadyH.nil)
  go_simp
  go_at_call 25
  refine (cA _).mono ?_
  rintro e w1 ⟨⟨v1, rfl, hpl⟩, hb1⟩
  obtain ⟨ba, ca, rfl, hba, hbl, hpc⟩ := hpl
  have HPC : Hid (∀ j, j < (preP s slots 4).length → w1.cell? ⟨ba, j * 2, none⟩ = some (.int .i64 ((preP s slots 4).getD j .zero).kind) ∧ w1.cell? ⟨ba, j * 2 + 1, none⟩ = some (.int .i64 ((preP s slots 4).getD j .zero).n)) := hpc
  have HB1 : Hid (Below wx.heap.size wx w1) := step_below hb1 (Below.refl _ _).drew
  clear hpc hb1
  go_wp2_with fail
  refine hK.out _ _ ?_ (fun hHeld => ?_)
  · (exact HB1.out)
  clear hK K
  try simp only [Act.put, List.setIfInBounds_toArray, List.set_cons_zero, List.set_cons_succ]
  refine wpAnyH_ready (rs := [8]) (by kernel_rfl) (by simp) ?_
  refine (AllReadyH.cons rfl (fun K hK => ?_) AllReadyH.nil)
  have cN := numbersOfO b0 o0 c0 b1 o1 c1 B C w1 hC (HHX.out.later HB1.out)
  unfold progV at cN
  go_simp
  go_at_call 26
  refine cN.mono ?_
  rintro e w2 ⟨v2, N, rfl, hna, hno, hb2⟩
  obtain ⟨bn', cn, rfl, hbn, hbnl, hnc⟩ := hna
  have HNC : Hid (∀ j, j < N.length → w2.cell? ⟨bn', j, none⟩ = some (.int .u32 (N.getD j 0))) := hnc
  have HNO : Hid (NumsOk C N) := hno
  have HB2 : Hid (Below w1.heap.size w1 w2) := hb2
  clear hnc hno hb2 cN
  go_wp2_with fail
  refine hK.out _ _ ?_ (fun hHeld => ?_)
  · (exact step_below HB2.out HB1.out)
  clear hK K
  try simp only [Act.put, List.setIfInBounds_toArray, List.set_cons_zero, List.set_cons_succ]
  refine wpAnyH_take (i := 9) (v := ?_) rfl (by kernel_rfl) (by kernel_rfl) (by kernel_rfl) (fun _ _ _ h => h) (Or.inl ⟨by rfl, ?_⟩) (by assumption) ?_
  case refine_2 => (intro w hSw; (try dsimp only at hSw); go_simp; first | done | (with_reducible rfl))
  show wpAnyH _ _ _ _ _ _ _ (Act.put _ (some 16) _) _
  simp only [Act.put, List.setIfInBounds_toArray, List.set_cons_zero, List.set_cons_succ]
  refine wpAnyH_ready (rs := [10]) (by kernel_rfl) (by simp) ?_
  refine (AllReadyH.cons rfl (fun K hK => ?_) AllReadyH.nil)
  go_simp
  refine hK.out _ _ ?_ (fun hHeld => ?_)
  · (exact step_below ((Below.refl _ _).alloc (Nat.le_refl _) _) hHeld)
  clear hK K
  try simp only [Act.put, List.setIfInBounds_toArray, List.set_cons_zero, List.set_cons_succ]
  refine wpAnyH_take (i := 11) (v := ?_) rfl (by kernel_rfl) (by kernel_rfl) (by kernel_rfl) (fun _ _ _ h => h) (Or.inl ⟨by rfl, ?_⟩) (by assumption) ?_
  case refine_2 => (intro w hSw; (try dsimp only at hSw); go_simp; first | done | (with_reducible rfl))
  show wpAnyH _ _ _ _ _ _ _ (Act.put _ (some 6) _) _
  simp only [Act.put, List.setIfInBounds_toArray, List.set_cons_zero, List.set_cons_succ]
  refine wpAnyH_done (by kernel_rfl) ?_ _
  clear hHeld
  go_wp2
  go_ret
  have hba2 : Below w2.heap.size w2 (w2.alloc (.cells #[.slice (some ⟨b0, o0, none⟩) B.length c0, .slice (some ⟨b1, o1, none⟩) C.length c1, .slice (some ⟨b2, o2, none⟩) R.length c2, .slice (some ⟨ba, 0, none⟩) (preP s slots 4).length ca, .slice (some ⟨bn', 0, none⟩) N.length cn] 78)) := (Below.refl _ _).alloc (Nat.le_refl _) _
  have hbd := hba2
  refine ⟨⟨w2.heap.size, b0, o0, c0, b1, o1, c1, b2, o2, c2, ba, ca, bn', cn⟩, N, rfl, ?_, HNO.out, step_below hbd (step_below HB2.out (step_below HB1.out HBX.out))⟩
  exact ⟨by simp [go_sem], by simp [go_sem], by simp [go_sem], by simp [go_sem], by simp [go_sem], HHX.out.later (step_below hbd (step_below HB2.out HB1.out)), HRX.out.later (step_below hbd (step_below HB2.out HB1.out)), fun j hj => ⟨step_cell hbd (step_cell HB2.out (HPC.out j hj).1), step_cell hbd (step_cell HB2.out (HPC.out j hj).2)⟩, fun j hj => step_cell hbd (HNC.out j hj)⟩
end Go.Proofs.YtdbjklngnloibaaGreat.form

/- All facts in order: those of a place stand together; where they begin. On plain numbers. -/
namespace Go.Proofs.YtdbjklngnloibaaGreat.form
open Go.RowKit Go.Proofs.YtdbjklngnloibaaGreat.num
set_option linter.unusedVariables false

theorem seg_split {F pre seg post : List LFact} {p : LPlace} (hF : F = pre ++ (seg ++ post)) (h1 : ∀ f, f ∈ pre → ¬ f.pl = p) (h2 : ∀ f, f ∈ seg → f.pl = p) (h3 : ∀ f, f ∈ post → ¬ f.pl = p) : SegOk F p pre.length := by
  have hl : F.length = pre.length + (seg.length + post.length) := by rw [hF]; simp
  have hg : ∀ i, i < F.length → F.getD i .zero = if i < pre.length then pre.getD i .zero else if i < pre.length + seg.length then seg.getD (i - pre.length) .zero else post.getD (i - pre.length - seg.length) .zero := fun i hi => by
    rw [hF]
    by_cases a : i < pre.length
    · rw [if_pos a]; simp [List.getD, List.getElem?_append_left a]
    · rw [if_neg a]
      by_cases b : i < pre.length + seg.length
      · rw [if_pos b]
        rw [List.getD, List.getElem?_append_right (by omega), List.getElem?_append_left (by omega)]
        rfl
      · rw [if_neg b]
        rw [List.getD, List.getElem?_append_right (by omega), List.getElem?_append_right (by omega)]
        rfl
  have hmem : ∀ (l : List LFact) (i : Nat), i < l.length → l.getD i .zero ∈ l := fun l i hi => by simp [List.getD, hi]
  refine ⟨by omega, fun i hi hp => ?_, fun i j hj hji hi hp => ?_⟩
  · by_cases a : i < pre.length
    · rw [hg i hi, if_pos a] at hp
      exact absurd hp (h1 _ (hmem _ _ a))
    · omega
  · by_cases b : i < pre.length + seg.length
    · rw [hg j (by omega), if_neg (by omega), if_pos (by omega)]
      exact h2 _ (hmem _ _ (by omega))
    · rw [hg i hi, if_neg (by omega), if_neg b] at hp
      exact absurd hp (h3 _ (hmem _ _ (by omega)))

theorem range_split {n many : Nat} (h : n < many) : List.range many = List.range n ++ n :: (List.range (many - n - 1)).map (· + (n + 1)) := by
  have e : many = n + (1 + (many - n - 1)) := by omega
  rw [e, List.range_add, List.range_add]
  simp only [List.range_one, List.map_cons, Nat.add_zero, List.map_map, List.singleton_append]
  congr 2
  have e2 : n + (1 + (many - n - 1)) - n - 1 = many - n - 1 := by omega
  rw [e2]
  apply List.map_congr_left
  intro a _
  simp only [Function.comp]
  omega

theorem kind_split {B : List Bool} {N : List Int} {kind : Int} {n many : Nat} (h : n < many) : ∃ post, kindF B N kind many = kindF B N kind n ++ (placeF B N kind n ++ post) ∧ ∀ f, f ∈ post → f.pl.kind = kind ∧ ¬ f.pl.n = n := by
  refine ⟨((List.range (many - n - 1)).map (· + (n + 1))).flatMap (placeF B N kind), ?_, fun f hf => ?_⟩
  · unfold kindF
    rw [range_split h, List.flatMap_append, List.flatMap_cons]
  · obtain ⟨m, hm, hf⟩ := List.mem_flatMap.1 hf
    obtain ⟨q, _, rfl⟩ := List.mem_map.1 hm
    have := (mem_placeF.1 hf).1
    rw [this]
    exact ⟨rfl, by simp only; omega⟩
theorem kind_pl {B : List Bool} {N : List Int} {kind : Int} {many : Nat} {f : LFact} (h : f ∈ kindF B N kind many) : f.pl.kind = kind ∧ ∃ n : Nat, n < many ∧ f.pl.n = n := by
  obtain ⟨n, hn, hf⟩ := mem_kindF.1 h
  have := (mem_placeF.1 hf).1
  rw [this]
  exact ⟨rfl, n, hn, rfl⟩
theorem temp_pl {B : List Bool} {N : List Int} {f : LFact} (h : f ∈ (List.range B.length).flatMap (tempF B N)) : f.pl.kind = 0 := by
  obtain ⟨x, _, hf⟩ := List.mem_flatMap.1 h
  rw [(mem_tempF.1 hf).2.1]; rfl

/-- Where the facts of a place begin. -/
def startF (B : List Bool) (N : List Int) (s : Nat) (p : LPlace) : Nat :=
  if p.kind = 0 then 0
  else if p.kind = 1 then ((List.range B.length).flatMap (tempF B N) ++ kindF B N 1 p.n.toNat).length
  else if p.kind = 2 then ((List.range B.length).flatMap (tempF B N) ++ kindF B N 1 s ++ kindF B N 2 p.n.toNat).length
  else ((List.range B.length).flatMap (tempF B N) ++ kindF B N 1 s ++ kindF B N 2 (s / 2) ++ kindF B N 3 p.n.toNat).length

theorem seg_all {B : List Bool} {N : List Int} {s slots : Nat} {p : LPlace} (hs : s % 2 = 0) (hp : PlaceOf s slots p) : SegOk (allF B N s slots) p (startF B N s p) := by
  unfold startF
  rcases hp with hp | hp
  · rw [if_pos hp.1]
    have := seg_split (F := allF B N s slots) (pre := []) (seg := (List.range B.length).flatMap (tempF B N)) (post := kindF B N 1 s ++ kindF B N 2 (s / 2) ++ kindF B N 3 slots) (p := p) (by unfold allF; simp [List.append_assoc]) (fun f hf => absurd hf (by simp)) (fun f hf => ?_) (fun f hf => ?_)
    · exact this
    · obtain ⟨x, _, hf⟩ := List.mem_flatMap.1 hf
      rw [(mem_tempF.1 hf).2.1]
      exact (pl_ext hp.1 hp.2).symm
    · intro e
      simp only [List.mem_append] at hf
      rcases hf with (hf | hf) | hf <;> have := (kind_pl hf).1 <;> rw [e] at this <;> omega
  · have hk := is_kind hp
    rw [if_neg hk]
    rcases is_cases hp with ⟨e, a, b⟩ | ⟨e, a, b⟩ | ⟨e, a, b⟩
    · rw [if_pos e]
      obtain ⟨post, h1, h2⟩ := kind_split (B := B) (N := N) (kind := 1) (n := p.n.toNat) (many := s) (by omega)
      refine seg_split (seg := placeF B N 1 p.n.toNat) (post := post ++ kindF B N 2 (s / 2) ++ kindF B N 3 slots) (by unfold allF; rw [h1]; simp [List.append_assoc]) (fun f hf => ?_) (fun f hf => ?_) (fun f hf => ?_)
      · intro e2
        rcases List.mem_append.1 hf with hf | hf
        · have := temp_pl hf; rw [e2] at this; omega
        · obtain ⟨_, n, hn, h3⟩ := kind_pl hf; rw [e2] at h3; omega
      · rw [(mem_placeF.1 hf).1]
        exact (pl_ext e (by simp only; omega)).symm
      · intro e2
        simp only [List.mem_append] at hf
        rcases hf with (hf | hf) | hf
        · have := (h2 f hf).2; rw [e2] at this; omega
        · have := (kind_pl hf).1; rw [e2] at this; omega
        · have := (kind_pl hf).1; rw [e2] at this; omega
    · rw [if_neg (by omega), if_pos e]
      obtain ⟨post, h1, h2⟩ := kind_split (B := B) (N := N) (kind := 2) (n := p.n.toNat) (many := s / 2) (by omega)
      refine seg_split (seg := placeF B N 2 p.n.toNat) (post := post ++ kindF B N 3 slots) (by unfold allF; rw [h1]; simp [List.append_assoc]) (fun f hf => ?_) (fun f hf => ?_) (fun f hf => ?_)
      · intro e2
        simp only [List.mem_append] at hf
        rcases hf with (hf | hf) | hf
        · have := temp_pl hf; rw [e2] at this; omega
        · have := (kind_pl hf).1; rw [e2] at this; omega
        · obtain ⟨_, n, hn, h3⟩ := kind_pl hf; rw [e2] at h3; omega
      · rw [(mem_placeF.1 hf).1]
        exact (pl_ext e (by simp only; omega)).symm
      · intro e2
        simp only [List.mem_append] at hf
        rcases hf with hf | hf
        · have := (h2 f hf).2; rw [e2] at this; omega
        · have := (kind_pl hf).1; rw [e2] at this; omega
    · rw [if_neg (by omega), if_neg (by omega)]
      obtain ⟨post, h1, h2⟩ := kind_split (B := B) (N := N) (kind := 3) (n := p.n.toNat) (many := slots) (by omega)
      refine seg_split (seg := placeF B N 3 p.n.toNat) (post := post) (by unfold allF; rw [h1]; simp [List.append_assoc]) (fun f hf => ?_) (fun f hf => ?_) (fun f hf => ?_)
      · intro e2
        simp only [List.mem_append] at hf
        rcases hf with ((hf | hf) | hf) | hf
        · have := temp_pl hf; rw [e2] at this; omega
        · have := (kind_pl hf).1; rw [e2] at this; omega
        · have := (kind_pl hf).1; rw [e2] at this; omega
        · obtain ⟨_, n, hn, h3⟩ := kind_pl hf; rw [e2] at h3; omega
      · rw [(mem_placeF.1 hf).1]
        exact (pl_ext e (by simp only; omega)).symm
      · intro e2
        have := (h2 f hf).2; rw [e2] at this; omega

end Go.Proofs.YtdbjklngnloibaaGreat.form

/- Facts in memory, five cells each; what loanbookref8.Of must give. -/
namespace Go.Proofs.YtdbjklngnloibaaGreat.form
open Go.RowKit Go.Proofs.YtdbjklngnloibaaGreat.num
set_option linter.unusedVariables false

def factCs (f : LFact) : List Value := [.int .i64 f.pl.kind, .int .i64 f.pl.n, .bool f.temp, .int .i64 f.t, .int .u32 f.n]
theorem flat5 : ∀ {l : List LFact} {q j : Nat}, q < l.length → j < 5 → (l.flatMap factCs)[q * 5 + j]? = (factCs (l.getD q .zero))[j]?
  | f :: l, 0, j, _, hj => by
    rw [List.flatMap_cons, Nat.zero_mul, Nat.zero_add, List.getElem?_append_left (by simp [factCs]; exact hj)]
    rfl
  | f :: l, q + 1, j, hq, hj => by
    rw [List.flatMap_cons, List.getElem?_append_right (by simp [factCs]; omega)]
    have e : (q + 1) * 5 + j - (factCs f).length = q * 5 + j := by simp [factCs]; omega
    rw [e, flat5 (by simpa using hq) hj]
    rfl
def FCells (w : World) (b : Nat) (l : List LFact) : Prop := ∀ q, q < l.length → w.cell? ⟨b, q * 5, none⟩ = some (.int .i64 (l.getD q .zero).pl.kind) ∧ w.cell? ⟨b, q * 5 + 1, none⟩ = some (.int .i64 (l.getD q .zero).pl.n) ∧ w.cell? ⟨b, q * 5 + 2, none⟩ = some (.bool (l.getD q .zero).temp) ∧ w.cell? ⟨b, q * 5 + 3, none⟩ = some (.int .i64 (l.getD q .zero).t) ∧ w.cell? ⟨b, q * 5 + 4, none⟩ = some (.int .u32 (l.getD q .zero).n)

theorem own_fcells {w : World} {base g cap : Nat} {e : TypeId} {l : List LFact} (h : w.ownsRow base e 5 (.slice (some ⟨g, 0, none⟩) l.length cap) l.length (l.flatMap factCs)) : FCells w g l := by
  intro q hq
  have key : ∀ j, j < 5 → w.cell? ⟨g, q * 5 + j, none⟩ = (factCs (l.getD q .zero))[j]? := fun j hj => by
    rw [World.ownsRow.cellAt h _ (by omega), flat5 hq hj]
  exact ⟨key 0 (by omega), key 1 (by omega), key 2 (by omega), key 3 (by omega), key 4 (by omega)⟩

theorem infFact8 : (Tryz.prog.info? 62).map (fun i => (i.zero, i.size, i.bytes)) = some (some (.agg #[.int .i64 0, .int .i64 0, .bool false, .int .i64 0, .int .u32 0]), 5, 40) := by kernel_rfl
theorem infFactRow8 : (Tryz.prog.info? 43).map (fun i => (i.zero, i.size, i.bytes)) = some (some (.slice none 0 0), 1, 24) := by kernel_rfl

/-- A world of facts. -/
def OfAns8 (b0 o0 c0 b1 o1 c1 : Nat) (B : List Bool) (C : List LIns) (s slots : Nat) (e : Ending) (w : World) : Prop :=
  ∃ ga ca gs cs ao4 n4 c4 st, e = .returned (fwV (.slice (some ⟨b0, o0, none⟩) B.length c0) (.slice (some ⟨b1, o1, none⟩) C.length c1) ga (allF B (numsL C) s slots).length ca gs cs (.slice ao4 n4 c4)) ∧ FWorld w s slots (allF B (numsL C) s slots) ga gs st
/-- The contract of Of. -/
def OfSpec (w : World) (b0 o0 c0 b1 o1 c1 : Nat) (B : List Bool) (C : List LIns) (s slots : Nat) : Prop :=
  ∀ wx : World, Below w.heap.size w wx → Calls Tryz.prog 18 #[progV b0 o0 B.length c0 b1 o1 C.length c1, targetV s, .int .i64 slots] wx fun e w' => OfAns8 b0 o0 c0 b1 o1 c1 B C s slots e w' ∧ Below wx.heap.size wx w'

theorem all_ok {B : List Bool} {C : List LIns} {s slots : Nat} (h1 : s % 2 = 0) (h2 : s ≤ 16) : ∀ f, f ∈ allF B (numsL C) s slots ↔ FactOk B s slots (NumP C) f := by
  intro f
  rw [mem_allF h1 h2]
  have e : (fun x => x ∈ numsL C) = NumP C := funext fun x => propext (nums_mem C x)
  rw [e]

end Go.Proofs.YtdbjklngnloibaaGreat.form
