/- What is told of facts (world.numbersIn, world.tell). -/
import Derived.Test.YtdbjklngnloibaaGreatF18
import Derived.Test.YtdbjklngnloibaaGreatF32

namespace Go.Proofs.YtdbjklngnloibaaGreat.form
open Go.RowKit Go.Maps
set_option linter.unusedVariables false
set_option maxRecDepth 100000
attribute [local go_sem ↓] Go.wp_at_zero Go.wp_at_succ

/-- A row of numbers of the call's own. -/
structure NiS (w : World) (l : List Int) (v : Value) (wr : World) : Prop where
  bel : Below w.heap.size w wr
  own : wr.ownsRow w.heap.size 47 1 v l.length (l.map (Value.int .u32))
theorem row_below {base : Nat} {e : TypeId} {n size : Nat} {xs : List Value} {v : Value} {wr w1 : World} (h : wr.ownsRow base e size v n xs) (hb : Below wr.heap.size wr w1) : w1.ownsRow base e size v n xs :=
  World.ownsRow.kept h ⟨hb.os, hb.tape, hb.output, hb.size, fun j hj _ => hb.block j hj⟩ (row := none) (by cases v.ownBlock <;> simp)
theorem NiS.below {w wr w1 : World} {l : List Int} {v : Value} (h : NiS w l v wr) (hb : Below wr.heap.size wr w1) : NiS w l v w1 := ⟨step_below hb h.bel, row_below h.own hb⟩
theorem NiS.push {w wr w1 : World} {l : List Int} {v : Value} (h : NiS w l v wr) {g cap : Nat} {y : Int} (hown : w1.ownsRow w.heap.size 47 1 (.slice (some ⟨g, 0, none⟩) (l.length + 1) cap) (l.length + 1) (l.map (Value.int .u32) ++ [.int .u32 y])) (hgrow : wr.grownBy w1 v.ownBlock) : NiS w (l ++ [y]) (.slice (some ⟨g, 0, none⟩) (l.length + 1) cap) w1 :=
  ⟨h.bel.grown hgrow (by have := h.bel.size; omega) (fun j hj => by have := (World.ownsRow.lt h.own _ hj).1; omega), by simpa using hown⟩
/-- What numbersIn answers. -/
def NinAns (w : World) (l : List Int) (e : Ending) (w' : World) : Prop := ∃ ao cap, e = .returned (.slice ao l.length cap) ∧ (0 < l.length → ∃ b, ao = some ⟨b, 0, none⟩ ∧ w.heap.size ≤ b ∧ b < w'.heap.size ∧ ∀ j, j < l.length → w'.cell? ⟨b, j, none⟩ = some (.int .u32 (l.getD j 0))) ∧ Below w.heap.size w w'
theorem NiS.ans {w wr : World} {l : List Int} {v : Value} (h : NiS w l v wr) : NinAns w l (.returned v) wr := by
  by_cases hn : 0 < l.length
  · obtain ⟨g, cap, rfl, hb, hlt⟩ := h.own.form hn
    refine ⟨_, cap, rfl, fun _ => ⟨g, rfl, hb, hlt, fun j hj => ?_⟩, h.bel⟩
    rw [World.ownsRow.cellAt h.own j (by omega)]
    simp [List.getD, hj]
  · have hl : l = [] := List.length_eq_zero_iff.1 (by omega)
    subst hl
    rcases h.own.2 with ⟨rfl, _⟩ | ⟨g, cap, cur, rfl, _⟩
    · exact ⟨none, 0, rfl, fun h => absurd h (by simp), h.bel⟩
    · exact ⟨_, cap, rfl, fun h => absurd h (by simp), h.bel⟩

set_option maxHeartbeats 1600000 in
theorem numbersInW {w : World} {lim : Nat} {g : WB} {B : List Bool} {C : List LIns} {R : List LRow} {A : List LPlace} {N : List Int} {s slots : Nat} (hW : WorldAt w lim g B C R A N) (hD : Dims B C s slots A N) (x : Bits) :
    Calls Tryz.prog 29 #[.pointer (some ⟨g.q, 0, none⟩), .int .u64 (bn x)] w fun e w' => NinAns w (numIn N x N.length) e w' := by
  have HW : Hid (WorldAt w lim g B C R A N) := hW
  have hn41 := hD.n41
  have hn41z : (N.length : Int) ≤ 41 := by omega
  have p4 := hW.stat.p4
  have hgq := cell_lt p4
  clear hW hD
  go_enter Tryz.func29, Tryz.ntmps29
  go_wp2
  go_loopg [5, 6, 7, 13] (N.length + 1) (fun gg v5 v6 v7 v wr => ∃ (k : Nat), v = .int .i64 k ∧ k ≤ N.length ∧ gg = N.length + 1 - k ∧ NiS w (numIn N x k) v5 wr)
  case atStart => exact ⟨0, rfl, by omega, by omega, Below.refl _ _, World.ownsRow_nil _ _ _ _⟩
  case round =>
    obtain ⟨k, rfl, hk, hgk, hnu⟩ := hrel
    have HGK : Hid (gk = N.length + 1 - k) := hgk
    obtain ⟨l, hl⟩ : ∃ l, l = numIn N x k := ⟨_, rfl⟩
    have HL : Hid (l = numIn N x k) := hl
    have hll : l.length ≤ 41 := by rw [hl]; have := numIn_len N x k; omega
    rw [← hl] at hnu
    have HNU : Hid (NiS w l u5 wr) := hnu
    have hwz := hnu.bel.size
    clear hgk hnu hl
    by_cases hkl : k < N.length
    case neg =>
      obtain rfl : k = N.length := by omega
      have hkz : ¬ (N.length : Int) < (N.length : Int) := by omega
      go_wp2
      go_ret
      rw [← HL.out]
      exact HNU.out.ans
    have hkz : (k : Int) < (N.length : Int) := by omega
    have d0 := (HW.out.below HNU.out.bel).stat.nums k hkl
    have hb4 := cell_lt d0
    obtain ⟨n, hn⟩ : ∃ n, n = nAt N k := ⟨_, rfl⟩
    have hn0 : N.getD k 0 = n := hn.symm
    rw [hn0] at d0
    have HN : Hid (n = nAt N k) := hn
    obtain ⟨z, hz⟩ : ∃ z, z = x.getLsbD k := ⟨_, rfl⟩
    have HZ : Hid (z = x.getLsbD k) := hz
    have c := containsO x k (by omega) wr
    rw [← hz] at c
    clear hn hn0 hz
    go_upto_if 20 with (go_at_call 30; refine c.mono ?_; rintro e w1 ⟨rfl, hw1⟩; obtain rfl := hw1.symm; clear hw1)
    clear c
    rcases Bool.eq_false_or_eq_true z with hz | hz
    · subst hz
      obtain ⟨t0', hi0, hy0, hy1, hy2⟩ := info_parts infoU32
      go_wp2_with (at_builtin; refine wpList_append_lies _ rfl _ _ 64 rfl w.heap.size 47 t0' (.int .u32 0) 1 4 Tryz.underlying64 hi0 hy0 hy1 hy2 rfl (by decide) u5 l.length (l.map (Value.int .u32)) rfl (World.ownsRow.alloc HNU.out.own _) ⟨wr.heap.size, 0, none⟩ 1 1 [.int .u32 n] rfl rfl ?c1 ?c2 (by decide) ?c3 ?c4 ?c5 _ rfl ?_)
      case c1 =>
        intro j u hu
        rcases j with _ | j
        · simp at hu; subst hu; simp [go_sem, Addr.add]
        · simp at hu
      case c2 => simp [Value.oneCell']
      case c3 => unfold maxLen; omega
      case c4 => omega
      case c5 => first | omega | (simp; omega)
      intro g9 cap9 w9 hown hgrow hat hlt9
      have hP := (HNU.out.below ((Below.refl _ _).alloc (Nat.le_refl _) (.cells #[.int .u32 n] 47))).push hown hgrow
      have HP : Hid (NiS w (l ++ [n]) (.slice (some ⟨g9, 0, none⟩) (l.length + 1) cap9) w9) := hP
      clear hP hown hgrow hat
      go_wp2
      have hgk := HGK.out
      go_roundg (gk - 1)
      case measure => omega
      case rel =>
        refine ⟨k + 1, by go_num, by omega, by omega, ?_⟩
        rw [numIn_step, if_pos HZ.out.symm, ← HL.out, ← HN.out]
        exact HP.out
    · subst hz
      go_wp2
      have hgk := HGK.out
      go_roundg (gk - 1)
      case measure => omega
      case rel =>
        refine ⟨k + 1, by go_num, by omega, by omega, ?_⟩
        rw [numIn_step, ← HZ.out, if_neg (by simp), List.append_nil, ← HL.out]
        exact HNU.out

/-- A row of facts of the call's own. -/
structure TeS (w : World) (l : List LFact) (v : Value) (wr : World) : Prop where
  bel : Below w.heap.size w wr
  own : wr.ownsRow w.heap.size 62 5 v l.length (l.flatMap factCs)
theorem TeS.below {w wr w1 : World} {l : List LFact} {v : Value} (h : TeS w l v wr) (hb : Below wr.heap.size wr w1) : TeS w l v w1 := ⟨step_below hb h.bel, row_below h.own hb⟩
theorem TeS.start (w : World) : TeS w [] (.slice none 0 0) w := ⟨Below.refl _ _, World.ownsRow_nil _ _ _ _⟩
/-- The same while it grows: all else is as it was at w1. -/
structure TeF (w w1 : World) (v1 : Value) (l : List LFact) (v : Value) (wr : World) : Prop where
  te : TeS w l v wr
  size : w1.heap.size ≤ wr.heap.size
  blk : ∀ b, b < w1.heap.size → v1.ownBlock ≠ some b → wr.heap[b]? = w1.heap[b]?
  off : v.ownBlock = v1.ownBlock ∨ ∃ b, v.ownBlock = some b ∧ w1.heap.size ≤ b
section
variable {w w1 : World} {v1 : Value} {l : List LFact} {v : Value} {wr w2 : World}
theorem TeF.start (h : TeS w l v w1) : TeF w w1 v l v w1 := ⟨h, Nat.le_refl _, fun _ _ _ => rfl, Or.inl rfl⟩
theorem TeF.below (h : TeF w w1 v1 l v wr) (hb : Below wr.heap.size wr w2) : TeF w w1 v1 l v w2 :=
  ⟨h.te.below hb, Nat.le_trans h.size hb.size, fun b hl hn => (hb.block b (Nat.lt_of_lt_of_le hl h.size)).trans (h.blk b hl hn), h.off⟩
theorem TeF.cell (h : TeF w w1 v1 l v wr) {b o : Nat} {u : Value} (hc : w1.cell? ⟨b, o, none⟩ = some u) (hn : v1.ownBlock ≠ some b) : wr.cell? ⟨b, o, none⟩ = some u := by
  rw [World.cell?_of_block (w := w1) (h.blk b (cell_lt hc) hn)]
  exact hc
theorem TeF.push (h : TeF w w1 v1 l v wr) {f : LFact} {g cap : Nat} (hown : w2.ownsRow w.heap.size 62 5 (.slice (some ⟨g, 0, none⟩) (l.length + 1) cap) (l.length + 1) (l.flatMap factCs ++ factCs f)) (hgrow : wr.grownBy w2 v.ownBlock) (hat : v.ownBlock = some g ∨ g = wr.heap.size) :
    TeF w w1 v1 (l ++ [f]) (.slice (some ⟨g, 0, none⟩) (l.length + 1) cap) w2 := by
  have hz := h.te.bel.size
  refine ⟨⟨h.te.bel.grown hgrow (by omega) (fun j hj => by have := (World.ownsRow.lt h.te.own _ hj).1; omega), by simpa using hown⟩, Nat.le_trans h.size hgrow.size, fun b hl hn => ?_, ?_⟩
  · rw [hgrow.block b (Nat.lt_of_lt_of_le hl h.size) (fun e => ?_), h.blk b hl hn]
    rcases h.off with ho | ⟨b', ho, hb'⟩
    · rw [ho] at e; exact hn e.symm
    · rw [ho] at e
      have := Option.some.inj e
      omega
  · rcases hat with hat | hat
    · rcases h.off with ho | ⟨b', ho, hb'⟩
      · left; rw [← ho, hat]; rfl
      · right
        refine ⟨g, rfl, ?_⟩
        rw [hat] at ho
        have := Option.some.inj ho
        omega
    · right
      exact ⟨g, rfl, by have := h.size; omega⟩
end
theorem TeS.ne {w : World} {l : List LFact} {v : Value} {wr : World} (h : TeS w l v wr) {b : Nat} (hb : wr.heap.size ≤ b) : v.ownBlock ≠ some b := fun e => by
  have := (World.ownsRow.lt h.own _ e).2
  omega
theorem take_one' {L : List Int} {i : Nat} (hi : i < L.length) : L.take (i + 1) = L.take i ++ [L.getD i 0] := by rw [List.take_succ_eq_append_getElem hi]; simp [List.getD, hi]
/-- What tell answers. -/
def TellAns (w : World) (l : List LFact) (e : Ending) (w' : World) : Prop := ∃ v, e = .returned v ∧ TeS w l v w'

set_option maxHeartbeats 3200000 in
theorem tellW {w : World} {lim : Nat} {g : WB} {B : List Bool} {C : List LIns} {R : List LRow} {A : List LPlace} {N : List Int} {s slots : Nat} (hW : WorldAt w lim g B C R A N) (hD : Dims B C s slots A N) (q mp mt : Nat) (T : List Int) (m : FM) (hF : FMAt w q mp mt A T m) :
    Calls Tryz.prog 11 #[.pointer (some ⟨g.q, 0, none⟩), .pointer (some ⟨q, 0, none⟩)] w fun e w' => TellAns w (tellL N m B.length A) e w' := by
  have HW : Hid (WorldAt w lim g B C R A N) := hW
  have HD : Hid (Dims B C s slots A N) := hD
  have HF : Hid (FMAt w q mp mt A T m) := hF
  have hb12 := hD.b12
  have hb12z : (B.length : Int) ≤ 12 := by omega
  have ha36 := hD.a36
  have ha36z : (A.length : Int) ≤ 36 := by omega
  have hn41 := hD.n41
  have p0 := hW.stat.p0
  have hgq := cell_lt p0
  have hlm := hF.lt
  have HNU : Hid (∀ (wx : World) (x : Bits), Below w.heap.size w wx → Calls Tryz.prog 29 #[.pointer (some ⟨g.q, 0, none⟩), .int .u64 (bn x)] wx fun e w' => NinAns wx (numIn N x N.length) e w') := fun wx x hb => numbersInW (hW.below hb) hD x
  have HBL : Hid (∀ k, k ≤ B.length → k * N.length ≤ 492) := fun k hk => Nat.le_trans (Nat.mul_le_mul (show k ≤ 12 by omega) hn41) (by omega)
  have HAL : Hid (∀ k, k ≤ A.length → k * (N.length + B.length) ≤ 1908) := fun k hk => Nat.le_trans (Nat.mul_le_mul (show k ≤ 36 by omega) (show N.length + B.length ≤ 53 by omega)) (by omega)
  clear hW hD hF
  go_enter Tryz.func11, Tryz.ntmps11
  go_wp2
  go_loopg [5, 6, 8, 21] (B.length + 1) (fun gg v5 v6 v8 v wr => ∃ (k : Nat), v = .int .i64 k ∧ k ≤ B.length ∧ gg = B.length + 1 - k ∧ TeS w (tellT N m k) v5 wr)
  case atStart => exact ⟨0, rfl, by omega, by omega, TeS.start _⟩
  case round =>
    obtain ⟨k, rfl, hk, hgk, hte⟩ := hrel
    have HGK : Hid (gk = B.length + 1 - k) := hgk
    have HTE : Hid (TeS w (tellT N m k) u5 wr) := hte
    have hwz := hte.bel.size
    clear hgk hte
    by_cases hkl : k < B.length
    case pos =>
      have hkz : (k : Int) < (B.length : Int) := by omega
      have hFR := HF.out.below HTE.out.bel
      have c1 := hFR.c1
      have hl : (Instr.lookup 85 (.map (some mt)) (.int .i64 (k : Int)) false).run Tryz.prog wr = .ok (.int .u64 (bn (m.tmp k))) wr := hFR.tm.look (t := (k : Int)) ⟨by omega, by omega⟩
      have c := HNU.out wr (m.tmp k) HTE.out.bel
      obtain ⟨L, hL⟩ : ∃ L, L = numIn N (m.tmp k) N.length := ⟨_, rfl⟩
      have HL : Hid (L = numIn N (m.tmp k) N.length) := hL
      have hLl : L.length ≤ 41 := by rw [hL]; have := numIn_len N (m.tmp k) N.length; omega
      rw [← hL] at c
      have hLz : (L.length : Int) ≤ 41 := by omega
      have hb1 := HBL.out k hk
      have htl := tellT_len N m k
      obtain ⟨l0, hl0⟩ : ∃ l, l = tellT N m k := ⟨_, rfl⟩
      have hl0l : l0.length ≤ 492 := by rw [hl0]; omega
      have HL0 : Hid (l0 = tellT N m k) := hl0
      have HT0 : Hid (TeS w l0 u5 wr) := by rw [hl0]; exact HTE.out
      clear hFR hL hb1 htl hl0
      obtain ⟨xt, hxt⟩ : ∃ x, x = m.tmp k := ⟨_, rfl⟩
      rw [← hxt] at hl c
      clear hxt
      go_wp2_with (go_at_call 29; refine c.mono ?_; rintro e w4 ⟨ao, cap, rfl, hcs, hb4⟩; have HCS : Hid (0 < L.length → ∃ b, ao = some ⟨b, 0, none⟩ ∧ wr.heap.size ≤ b ∧ b < w4.heap.size ∧ ∀ j, j < L.length → w4.cell? ⟨b, j, none⟩ = some (.int .u32 (L.getD j 0))) := hcs; have HB4 : Hid (Below wr.heap.size wr w4) := hb4; clear hcs hb4)
      clear c hl c1
      obtain ⟨wo, hwo⟩ : ∃ x, x = wr := ⟨_, rfl⟩
      obtain ⟨v5, hv5⟩ : ∃ x, x = u5 := ⟨_, rfl⟩
      obtain ⟨gO, hgO⟩ : ∃ x, x = gk := ⟨_, rfl⟩
      subst hwo hv5 hgO
      have HTF : Hid (TeF w w4 v5 l0 v5 w4) := TeF.start (HT0.out.below HB4.out)
      go_loopg [5, 8, 33] (L.length + 1) (fun gg x5 x8 x wq => ∃ (i : Nat), x = .int .i64 i ∧ i ≤ L.length ∧ gg = L.length + 1 - i ∧ TeF w w4 v5 (l0 ++ (L.take i).map (tFact k)) x5 wq)
      case atStart => exact ⟨0, rfl, by omega, by omega, by simpa using HTF.out⟩
      case round =>
        obtain ⟨i, rfl, hi, hgk, htf⟩ := hrel
        have HGI : Hid (gk = L.length + 1 - i) := hgk
        have HTI : Hid (TeF w w4 v5 (l0 ++ (L.take i).map (tFact k)) u5 wr) := htf
        clear hgk htf
        by_cases hil : i < L.length
        case neg =>
          obtain rfl : i = L.length := by omega
          have hiz : ¬ (L.length : Int) < (L.length : Int) := by omega
          go_wp2
          have hgk := HGK.out
          go_roundg (gO - 1)
          case measure => omega
          case rel =>
            refine ⟨k + 1, by go_num, by omega, by omega, ?_⟩
            have h := HTI.out.te
            rw [List.take_length] at h
            rw [tellT_step]
            unfold tellT1
            rw [← HL.out, ← HL0.out]
            exact h
        have hiz : (i : Int) < (L.length : Int) := by omega
        obtain ⟨b, rfl, hbge, hblt, hbc⟩ := HCS.out (by omega)
        have d0 := HTI.out.cell (hbc i hil) (HT0.out.ne hbge)
        have hbl := cell_lt d0
        obtain ⟨n, hn⟩ : ∃ n, n = L.getD i 0 := ⟨_, rfl⟩
        rw [← hn] at d0
        have HN : Hid (n = L.getD i 0) := hn
        obtain ⟨l, hl⟩ : ∃ l, l = l0 ++ (L.take i).map (tFact k) := ⟨_, rfl⟩
        have HLL : Hid (l = l0 ++ (L.take i).map (tFact k)) := hl
        have hll : l.length ≤ 533 := by rw [hl]; simp; omega
        have HTI2 : Hid (TeF w w4 v5 l u5 wr) := by rw [hl]; exact HTI.out
        have hws := HTI2.out.te.bel.size
        clear hn hl hbc HTI
        obtain ⟨t0', hi0, hy0, hy1, hy2⟩ := info_parts infFact8
        go_wp2_with (at_builtin; refine wpList_append_lies _ rfl _ _ 43 rfl w.heap.size 62 t0' (.agg #[.int .i64 0, .int .i64 0, .bool false, .int .i64 0, .int .u32 0]) 5 40 Tryz.underlying43 hi0 hy0 hy1 hy2 rfl (by decide) u5 l.length (l.flatMap factCs) rfl (World.ownsRow.alloc HTI2.out.te.own _) ⟨wr.heap.size, 0, none⟩ 1 1 [.int .i64 0, .int .i64 0, .bool true, .int .i64 (k : Int), .int .u32 n] rfl rfl ?c1 ?c2 (by decide) ?c3 ?c4 ?c5 _ rfl ?_)
        case c1 => exact World.news_of_block (cs := #[.int .i64 0, .int .i64 0, .bool true, .int .i64 (k : Int), .int .u32 n]) (t := 62) (fr := (0, 0)) (by have := heap_alloc_new wr (.cells #[.int .i64 0, .int .i64 0, .bool true, .int .i64 (k : Int), .int .u32 n] 62); simpa using this)
        case c2 => simp [Value.oneCell']
        case c3 => unfold maxLen; omega
        case c4 => omega
        case c5 => first | omega | (simp; omega)
        intro g9 cap9 w9 hown hgrow hat hlt9
        have hat2 : u5.ownBlock = some g9 ∨ g9 = (wr.alloc (.cells #[.int .i64 0, .int .i64 0, .bool true, .int .i64 (k : Int), .int .u32 n] 62)).heap.size := by simpa using hat
        have hP := (HTI2.out.below ((Below.refl _ _).alloc (Nat.le_refl _) (.cells #[.int .i64 0, .int .i64 0, .bool true, .int .i64 (k : Int), .int .u32 n] 62))).push (f := tFact k n) hown hgrow hat2
        have HP : Hid (TeF w w4 v5 (l ++ [tFact k n]) (.slice (some ⟨g9, 0, none⟩) (l.length + 1) cap9) w9) := hP
        clear hP hown hgrow hat hat2
        go_wp2
        have hgk := HGI.out
        go_roundg (gk - 1)
        case measure => omega
        case rel =>
          refine ⟨i + 1, by go_num, by omega, by omega, ?_⟩
          rw [take_one' hil, List.map_append, ← List.append_assoc, ← HLL.out, ← HN.out]
          exact HP.out
    obtain rfl : k = B.length := by omega
    have hkz : ¬ (B.length : Int) < (B.length : Int) := by omega
    have p3 := (HW.out.below HTE.out.bel).stat.p3
    have hgq2 : g.q < wr.heap.size := by omega
    have hb1 := HBL.out B.length (Nat.le_refl _)
    have htl := tellT_len N m B.length
    obtain ⟨l0, hl0⟩ : ∃ l, l = tellT N m B.length := ⟨_, rfl⟩
    have hl0l : l0.length ≤ 492 := by rw [hl0]; omega
    have HL0 : Hid (l0 = tellT N m B.length) := hl0
    have HT0 : Hid (TeS w l0 u5 wr) := by rw [hl0]; exact HTE.out
    clear hb1 htl hl0 HTE HGK
    go_wp2
    clear p3
    obtain ⟨wO, hwO⟩ : ∃ x, x = wr := ⟨_, rfl⟩
    obtain ⟨vO, hvO⟩ : ∃ x, x = u5 := ⟨_, rfl⟩
    obtain ⟨gX, hgX⟩ : ∃ x, x = gk := ⟨_, rfl⟩
    subst hwO hvO hgX
    go_loopg [5, 10, 11, 13, 14, 50] (A.length + 1) (fun gg x5 x10 x11 x13 x14 x wq => ∃ (j : Nat), x = .int .i64 j ∧ j ≤ A.length ∧ gg = A.length + 1 - j ∧ TeS w (l0 ++ tellP N m B.length A j) x5 wq)
    case atStart => exact ⟨0, rfl, by omega, by omega, by simpa [tellP] using HT0.out⟩
    case round =>
      obtain ⟨j, rfl, hj, hgk, hte⟩ := hrel
      have HGJ : Hid (gk = A.length + 1 - j) := hgk
      have hpl := tellP_len N m B.length A j hj
      have hal := HAL.out j hj
      obtain ⟨l1, hl1⟩ : ∃ l, l = l0 ++ tellP N m B.length A j := ⟨_, rfl⟩
      have hl1l : l1.length ≤ 2400 := by rw [hl1, List.length_append]; omega
      have HL1 : Hid (l1 = l0 ++ tellP N m B.length A j) := hl1
      have HT1 : Hid (TeS w l1 u5 wr) := by rw [hl1]; exact hte
      have hws := hte.bel.size
      clear hgk hte hpl hal hl1 HT0
      by_cases hjl : j < A.length
      case neg =>
        obtain rfl : j = A.length := by omega
        have hjz : ¬ (A.length : Int) < (A.length : Int) := by omega
        go_wp2
        go_ret
        refine ⟨_, rfl, ?_⟩
        unfold tellL
        rw [← HL0.out, ← HL1.out]
        exact HT1.out
      have hjz : (j : Int) < (A.length : Int) := by omega
      obtain ⟨a, ha⟩ : ∃ a, a = A.getD j .zero := ⟨_, rfl⟩
      obtain ⟨y0, y1⟩ := (HW.out.below HT1.out.bel).stat.plc j hjl
      rw [← ha] at y0 y1
      have hbl := cell_lt y0
      have ham : a ∈ A := by rw [ha]; simp [List.getD, hjl]
      have hwf : PlWf a := HD.out.wf ((HD.out.all _).1 ham)
      have HWF : Hid (PlWf a) := hwf
      have HA : Hid (a = A.getD j .zero) := ha
      obtain ⟨xh, hxh⟩ : ∃ x, x = m.has a := ⟨_, rfl⟩
      obtain ⟨yi, hyi⟩ : ∃ x, x = m.is a := ⟨_, rfl⟩
      have HXH : Hid (xh = m.has a) := hxh
      have HYI : Hid (yi = m.is a) := hyi
      clear hwf ha ham hxh hyi
      obtain ⟨wo, hwo⟩ : ∃ x, x = wr := ⟨_, rfl⟩
      obtain ⟨v5, hv5⟩ : ∃ x, x = u5 := ⟨_, rfl⟩
      obtain ⟨gO, hgO⟩ : ∃ x, x = gk := ⟨_, rfl⟩
      subst hwo hv5 hgO
      go_upto_region 14 with fail
      obtain ⟨wx, hwx⟩ : ∃ wx, wx = wo.alloc (.cells #[.int .i64 a.kind, .int .i64 a.n] 51) := ⟨_, rfl⟩
      have hbx : Below wo.heap.size wo wx := by rw [hwx]; exact (Below.refl _ _).alloc (Nat.le_refl _) _
      have x1 : wx.cell? ⟨wo.heap.size, 0, none⟩ = some (.int .i64 a.kind) := by rw [hwx]; simp [go_sem]
      have x2 : wx.cell? ⟨wo.heap.size, 1, none⟩ = some (.int .i64 a.n) := by rw [hwx]; simp [go_sem]
      have hzx : wx.heap.size = wo.heap.size + 1 := by rw [hwx]; simp
      have hfx := HF.out.below (step_below hbx HT1.out.bel)
      have x0 : wx.cell? ⟨q, 0, none⟩ = some (.map (some mp)) := hfx.c0
      have HLK : Hid (∀ w5, Below wx.heap.size wx w5 → (Instr.lookup 84 (.map (some mp)) (.agg #[.int .i64 a.kind, .int .i64 a.n]) false).run Tryz.prog w5 = .ok (.agg #[.int .u64 (bn xh), .int .u64 (bn yi)]) w5) := fun w5 hb => by
        have h := PMap.look (hfx.pm.below hb) HWF.out
        rw [← HXH.out, ← HYI.out] at h
        exact h
      have HBX : Hid (Below wo.heap.size wo wx) := hbx
      have HZX : Hid (wx.heap.size = wo.heap.size + 1) := hzx
      rw [← hwx]
      clear hwx hbx hzx hfx y0 y1
      refine wp_region_held_drew (S := (fun w' => Below wx.heap.size wx w' ∧ w'.cell? ⟨q, 0, none⟩ = some (.map (some mp)) ∧ w'.cell? ⟨wo.heap.size, 0, none⟩ = some (.int .i64 a.kind) ∧ w'.cell? ⟨wo.heap.size, 1, none⟩ = some (.int .i64 a.n))) (by rfl) ?_ (fun hHeld => ?_)
      · (exact ⟨(Below.refl _ _).drew, x0, x1, x2⟩)
      refine wpAnyH_take (i := 0) (v := ?_) rfl (by kernel_rfl) (by kernel_rfl) (by kernel_rfl) (fun _ _ _ h => h) (Or.inl ⟨by rfl, ?_⟩) (by assumption) ?_
      case refine_2 => (intro w hSw; (try dsimp only at hSw); go_simp; first | done | (with_reducible rfl))
      show wpAnyH _ _ _ _ _ _ _ (Act.put _ (some 54) _) _
      simp only [Act.put, List.setIfInBounds_toArray, List.set_cons_zero, List.set_cons_succ]
      refine wpAnyH_take (i := 1) (v := ?_) rfl (by kernel_rfl) (by kernel_rfl) (by kernel_rfl) (fun _ _ _ h => h) (Or.inl ⟨by rfl, ?_⟩) (by assumption) ?_
      case refine_2 => (intro w hSw; (try dsimp only at hSw); go_simp; first | done | (with_reducible rfl))
      show wpAnyH _ _ _ _ _ _ _ (Act.put _ (some 55) _) _
      simp only [Act.put, List.setIfInBounds_toArray, List.set_cons_zero, List.set_cons_succ]
      refine wpAnyH_take (i := 2) (v := ?_) rfl (by kernel_rfl) (by kernel_rfl) (by kernel_rfl) (fun _ _ _ h => h) (Or.inl ⟨by rfl, ?_⟩) (by assumption) ?_
      case refine_2 => (intro w hSw; (try dsimp only at hSw); go_simp; first | done | (with_reducible rfl))
      show wpAnyH _ _ _ _ _ _ _ (Act.put _ (some 56) _) _
      simp only [Act.put, List.setIfInBounds_toArray, List.set_cons_zero, List.set_cons_succ]
      refine wpAnyH_take (i := 3) (v := ?_) rfl (by kernel_rfl) (by kernel_rfl) (by kernel_rfl) (fun _ _ _ h => h) (Or.inl ⟨by rfl, ?_⟩) (by assumption) ?_
      case refine_2 => (intro w hSw; (try dsimp only at hSw); go_simp; first | done | (with_reducible rfl))
      show wpAnyH _ _ _ _ _ _ _ (Act.put _ (some 57) _) _
      simp only [Act.put, List.setIfInBounds_toArray, List.set_cons_zero, List.set_cons_succ]
      refine wpAnyH_take (i := 4) (v := ?_) rfl (by kernel_rfl) (by kernel_rfl) (by kernel_rfl) (fun _ _ _ h => h) (Or.inl ⟨by rfl, ?_⟩) (by assumption) ?_
      case refine_2 => (intro w hSw; (try dsimp only at hSw); go_simp; first | done | (with_reducible rfl))
      show wpAnyH _ _ _ _ _ _ _ (Act.put _ (some 58) _) _
      simp only [Act.put, List.setIfInBounds_toArray, List.set_cons_zero, List.set_cons_succ]
      refine wpAnyH_take (i := 5) (v := ?_) rfl (by kernel_rfl) (by kernel_rfl) (by kernel_rfl) (fun _ _ _ h => h) (Or.inl ⟨by rfl, ?_⟩) (by assumption) ?_
      case refine_2 => (intro w5 hSw; (try dsimp only at hSw); have hl := HLK.out w5 hSw.1; go_simp; first | done | (with_reducible rfl))
      show wpAnyH _ _ _ _ _ _ _ (Act.put _ (some 59) _) _
      simp only [Act.put, List.setIfInBounds_toArray, List.set_cons_zero, List.set_cons_succ]
      refine wpAnyH_ready (rs := [6]) (by kernel_rfl) (by simp) ?_
      refine (AllReadyH.cons rfl (fun K hK => ?_) AllReadyH.nil)
      have h8 := hHeld
      go_simp
      refine hK.out _ _ ?_ (fun hHeld => ?_)
      · (exact ⟨step_below ((Below.refl _ _).alloc (Nat.le_refl _) _) hHeld.1, step_cell ((Below.refl _ _).alloc (Nat.le_refl _) _) hHeld.2.1, step_cell ((Below.refl _ _).alloc (Nat.le_refl _) _) hHeld.2.2.1, step_cell ((Below.refl _ _).alloc (Nat.le_refl _) _) hHeld.2.2.2⟩)
      clear hK K
      try simp only [Act.put, List.setIfInBounds_toArray, List.set_cons_zero, List.set_cons_succ]
      refine wpAnyH_ready (rs := [7]) (by kernel_rfl) (by simp) ?_
      refine (AllReadyH.cons rfl (fun K hK => ?_) AllReadyH.nil)
      go_simp
      refine hK.out _ _ ?_ (fun hHeld => ?_)
      · (exact ⟨step_below ((Below.refl _ _).alloc (Nat.le_refl _) _) h8.1, step_cell ((Below.refl _ _).alloc (Nat.le_refl _) _) h8.2.1, step_cell ((Below.refl _ _).alloc (Nat.le_refl _) _) h8.2.2.1, step_cell ((Below.refl _ _).alloc (Nat.le_refl _) _) h8.2.2.2⟩)
      clear hK K
      try simp only [Act.put, List.setIfInBounds_toArray, List.set_cons_zero, List.set_cons_succ]
      refine wpAnyH_done (by kernel_rfl) ?_ _
      clear hHeld
      obtain ⟨wy, hwy⟩ : ∃ wy, wy = (wx.alloc (.cells #[.int .u64 (bn xh), .int .u64 (bn yi)] 89)).drew := ⟨_, rfl⟩
      have hbxy : Below wx.heap.size wx wy := by rw [hwy]; exact ((Below.refl _ _).alloc (Nat.le_refl _) _).drew
      have v3 : wy.cell? ⟨wx.heap.size, 0, none⟩ = some (.int .u64 (bn xh)) := by rw [hwy]; simp [go_sem]
      have v4 : wy.cell? ⟨wx.heap.size, 1, none⟩ = some (.int .u64 (bn yi)) := by rw [hwy]; simp [go_sem]
      rw [← hwy]
      clear hwy
      have v1 := step_cell hbxy x1
      have v2 := step_cell hbxy x2
      have HBY : Hid (Below wo.heap.size wo wy) := step_below hbxy HBX.out
      have c := HNU.out wy yi (step_below HBY.out HT1.out.bel)
      obtain ⟨L, hL⟩ : ∃ L, L = numIn N yi N.length := ⟨_, rfl⟩
      have HL : Hid (L = numIn N yi N.length) := hL
      have hLl : L.length ≤ 41 := by rw [hL]; have := numIn_len N yi N.length; omega
      rw [← hL] at c
      have hLz : (L.length : Int) ≤ 41 := by omega
      have hzy : wo.heap.size < wy.heap.size := cell_lt v1
      have hzy2 : wx.heap.size < wy.heap.size := cell_lt v3
      have hgy : g.q < wy.heap.size := by omega
      clear x0 x1 x2 hbxy hL HLK
      go_wp2_with (go_at_call 29; refine c.mono ?_; rintro e w4 ⟨ao, cap, rfl, hcs, hb4⟩; have HCS : Hid (0 < L.length → ∃ b, ao = some ⟨b, 0, none⟩ ∧ wy.heap.size ≤ b ∧ b < w4.heap.size ∧ ∀ j, j < L.length → w4.cell? ⟨b, j, none⟩ = some (.int .u32 (L.getD j 0))) := hcs; have HB4 : Hid (Below wy.heap.size wy w4) := hb4; clear hcs hb4)
      have HV1 : Hid (w4.cell? ⟨wo.heap.size, 0, none⟩ = some (.int .i64 a.kind)) := step_cell HB4.out v1
      have HV2 : Hid (w4.cell? ⟨wo.heap.size, 1, none⟩ = some (.int .i64 a.n)) := step_cell HB4.out v2
      have HV3 : Hid (w4.cell? ⟨wx.heap.size, 0, none⟩ = some (.int .u64 (bn xh))) := step_cell HB4.out v3
      have HT4 : Hid (TeS w l1 v5 w4) := HT1.out.below (step_below HB4.out HBY.out)
      have HTF : Hid (TeF w w4 v5 l1 v5 w4) := TeF.start HT4.out
      have HNE1 : Hid (v5.ownBlock ≠ some wo.heap.size) := HT1.out.ne (Nat.le_refl _)
      have HNE2 : Hid (v5.ownBlock ≠ some wx.heap.size) := HT1.out.ne HBX.out.size
      have HNE3 : Hid (∀ b, wy.heap.size ≤ b → v5.ownBlock ≠ some b) := fun b hb => HT1.out.ne (Nat.le_trans HBY.out.size hb)
      clear c v1 v2 v3 v4
      go_loopg [5, 13, 65] (L.length + 1) (fun gg x5 x13 x wq => ∃ (i : Nat), x = .int .i64 i ∧ i ≤ L.length ∧ gg = L.length + 1 - i ∧ TeF w w4 v5 (l1 ++ (L.take i).map (iFact a)) x5 wq)
      case atStart => exact ⟨0, rfl, by omega, by omega, by simpa using HTF.out⟩
      case round =>
        obtain ⟨i, rfl, hi, hgk, htf⟩ := hrel
        have HGI : Hid (gk = L.length + 1 - i) := hgk
        have HTI : Hid (TeF w w4 v5 (l1 ++ (L.take i).map (iFact a)) u5 wr) := htf
        clear hgk htf
        by_cases hil : i < L.length
        case pos =>
          have hiz : (i : Int) < (L.length : Int) := by omega
          obtain ⟨b, rfl, hbge, hblt, hbc⟩ := HCS.out (by omega)
          have d0 := HTI.out.cell (hbc i hil) (HNE3.out b hbge)
          have hbl := cell_lt d0
          have d1 := HTI.out.cell HV1.out HNE1.out
          have d2 := HTI.out.cell HV2.out HNE1.out
          have hbl2 := cell_lt d1
          obtain ⟨n, hn⟩ : ∃ n, n = L.getD i 0 := ⟨_, rfl⟩
          rw [← hn] at d0
          have HN : Hid (n = L.getD i 0) := hn
          obtain ⟨l, hl⟩ : ∃ l, l = l1 ++ (L.take i).map (iFact a) := ⟨_, rfl⟩
          have HLL : Hid (l = l1 ++ (L.take i).map (iFact a)) := hl
          have hll : l.length ≤ 2441 := by rw [hl]; simp; omega
          have HTI2 : Hid (TeF w w4 v5 l u5 wr) := by rw [hl]; exact HTI.out
          have hwsi := HTI2.out.te.bel.size
          clear hn hl hbc HTI
          obtain ⟨t0', hi0, hy0, hy1, hy2⟩ := info_parts infFact8
          go_wp2_with (at_builtin; refine wpList_append_lies _ rfl _ _ 43 rfl w.heap.size 62 t0' (.agg #[.int .i64 0, .int .i64 0, .bool false, .int .i64 0, .int .u32 0]) 5 40 Tryz.underlying43 hi0 hy0 hy1 hy2 rfl (by decide) u5 l.length (l.flatMap factCs) rfl (World.ownsRow.alloc HTI2.out.te.own _) ⟨wr.heap.size, 0, none⟩ 1 1 [.int .i64 a.kind, .int .i64 a.n, .bool false, .int .i64 0, .int .u32 n] rfl rfl ?c1 ?c2 (by decide) ?c3 ?c4 ?c5 _ rfl ?_)
          case c1 => exact World.news_of_block (cs := #[.int .i64 a.kind, .int .i64 a.n, .bool false, .int .i64 0, .int .u32 n]) (t := 62) (fr := (0, 0)) (by have := heap_alloc_new wr (.cells #[.int .i64 a.kind, .int .i64 a.n, .bool false, .int .i64 0, .int .u32 n] 62); simpa using this)
          case c2 => simp [Value.oneCell']
          case c3 => unfold maxLen; omega
          case c4 => omega
          case c5 => first | omega | (simp; omega)
          intro g9 cap9 w9 hown hgrow hat hlt9
          have hat2 : u5.ownBlock = some g9 ∨ g9 = (wr.alloc (.cells #[.int .i64 a.kind, .int .i64 a.n, .bool false, .int .i64 0, .int .u32 n] 62)).heap.size := by simpa using hat
          have hP := (HTI2.out.below ((Below.refl _ _).alloc (Nat.le_refl _) (.cells #[.int .i64 a.kind, .int .i64 a.n, .bool false, .int .i64 0, .int .u32 n] 62))).push (f := iFact a n) hown hgrow hat2
          have HP : Hid (TeF w w4 v5 (l ++ [iFact a n]) (.slice (some ⟨g9, 0, none⟩) (l.length + 1) cap9) w9) := hP
          clear hP hown hgrow hat hat2
          go_wp2
          have hgk := HGI.out
          go_roundg (gk - 1)
          case measure => omega
          case rel =>
            refine ⟨i + 1, by go_num, by omega, by omega, ?_⟩
            rw [take_one' hil, List.map_append, ← List.append_assoc, ← HLL.out, ← HN.out]
            exact HP.out
        obtain rfl : i = L.length := by omega
        have hiz : ¬ (L.length : Int) < (L.length : Int) := by omega
        obtain ⟨l2, hl2⟩ : ∃ l, l = l1 ++ tellI N m a := ⟨_, rfl⟩
        have HL2 : Hid (l2 = l1 ++ tellI N m a) := hl2
        have hl2l : l2.length ≤ 2441 := by rw [hl2, List.length_append]; have := tellI_len N m a; omega
        have HT2 : Hid (TeF w w4 v5 l2 u5 wr) := by
          have h := HTI.out
          rw [List.take_length, HL.out, HYI.out] at h
          rw [hl2]
          exact h
        have p0r := (HW.out.below HT2.out.te.bel).stat.p0
        have hgqr := cell_lt p0r
        clear hl2 HTI HGI
        go_wp2
        clear p0r
        obtain ⟨wp, hwp⟩ : ∃ x, x = wr := ⟨_, rfl⟩
        obtain ⟨vP, hvP⟩ : ∃ x, x = u5 := ⟨_, rfl⟩
        obtain ⟨gP, hgP⟩ : ∃ x, x = gk := ⟨_, rfl⟩
        subst hwp hvP hgP
        go_loopg [5, 14, 82] (B.length + 1) (fun gg x5 x14 x wq => ∃ (t : Nat), x = .int .i64 t ∧ t ≤ B.length ∧ gg = B.length + 1 - t ∧ TeF w w4 v5 (l2 ++ tellH m a t) x5 wq)
        case atStart => exact ⟨0, rfl, by omega, by omega, by simpa [tellH] using HT2.out⟩
        case round =>
          obtain ⟨t, rfl, ht, hgk, htf⟩ := hrel
          have HGI : Hid (gk = B.length + 1 - t) := hgk
          obtain ⟨l, hl⟩ : ∃ l, l = l2 ++ tellH m a t := ⟨_, rfl⟩
          have HLL : Hid (l = l2 ++ tellH m a t) := hl
          have hll : l.length ≤ 2453 := by rw [hl, List.length_append]; have := tellH_len m a t; omega
          have HTI : Hid (TeF w w4 v5 l u5 wr) := by rw [hl]; exact htf
          have hwsi := htf.te.bel.size
          clear hgk htf hl
          by_cases htl : t < B.length
          case neg =>
            obtain rfl : t = B.length := by omega
            have htz : ¬ (B.length : Int) < (B.length : Int) := by omega
            go_wp2
            have hgk := HGJ.out
            go_roundg (gO - 1)
            case measure => omega
            case rel =>
              refine ⟨j + 1, by go_num, by omega, by omega, ?_⟩
              have h := HTI.out.te
              rw [HLL.out, HL2.out, HL1.out] at h
              rw [tellP_step N m B.length hjl, ← HA.out]
              unfold tellP1
              simpa [List.append_assoc] using h
          have htz : (t : Int) < (B.length : Int) := by omega
          have d3 := HTI.out.cell HV3.out HNE2.out
          have d1 := HTI.out.cell HV1.out HNE1.out
          have d2 := HTI.out.cell HV2.out HNE1.out
          have hbl2 := cell_lt d1
          have hbl3 := cell_lt d3
          obtain ⟨z, hz⟩ : ∃ z, z = xh.getLsbD t := ⟨_, rfl⟩
          have HZ : Hid (z = (m.has a).getLsbD t) := by rw [← HXH.out]; exact hz
          have c := containsO xh t (by omega) wr
          rw [← hz] at c
          clear hz
          go_upto_if 88 with (go_at_call 30; refine c.mono ?_; rintro e w1 ⟨rfl, hw1⟩; obtain rfl := hw1.symm; clear hw1)
          clear c
          rcases Bool.eq_false_or_eq_true z with hz | hz
          · subst hz
            obtain ⟨t0', hi0, hy0, hy1, hy2⟩ := info_parts infFact8
            go_wp2_with (at_builtin; refine wpList_append_lies _ rfl _ _ 43 rfl w.heap.size 62 t0' (.agg #[.int .i64 0, .int .i64 0, .bool false, .int .i64 0, .int .u32 0]) 5 40 Tryz.underlying43 hi0 hy0 hy1 hy2 rfl (by decide) u5 l.length (l.flatMap factCs) rfl (World.ownsRow.alloc HTI.out.te.own _) ⟨wr.heap.size, 0, none⟩ 1 1 [.int .i64 a.kind, .int .i64 a.n, .bool true, .int .i64 (t : Int), .int .u32 0] rfl rfl ?c1 ?c2 (by decide) ?c3 ?c4 ?c5 _ rfl ?_)
            case c1 => exact World.news_of_block (cs := #[.int .i64 a.kind, .int .i64 a.n, .bool true, .int .i64 (t : Int), .int .u32 0]) (t := 62) (fr := (0, 0)) (by have := heap_alloc_new wr (.cells #[.int .i64 a.kind, .int .i64 a.n, .bool true, .int .i64 (t : Int), .int .u32 0] 62); simpa using this)
            case c2 => simp [Value.oneCell']
            case c3 => unfold maxLen; omega
            case c4 => omega
            case c5 => first | omega | (simp; omega)
            intro g9 cap9 w9 hown hgrow hat hlt9
            have hat2 : u5.ownBlock = some g9 ∨ g9 = (wr.alloc (.cells #[.int .i64 a.kind, .int .i64 a.n, .bool true, .int .i64 (t : Int), .int .u32 0] 62)).heap.size := by simpa using hat
            have hP := (HTI.out.below ((Below.refl _ _).alloc (Nat.le_refl _) (.cells #[.int .i64 a.kind, .int .i64 a.n, .bool true, .int .i64 (t : Int), .int .u32 0] 62))).push (f := hFact a t) hown hgrow hat2
            have HP : Hid (TeF w w4 v5 (l ++ [hFact a t]) (.slice (some ⟨g9, 0, none⟩) (l.length + 1) cap9) w9) := hP
            clear hP hown hgrow hat hat2
            go_wp2
            have hgk := HGI.out
            go_roundg (gk - 1)
            case measure => omega
            case rel =>
              refine ⟨t + 1, by go_num, by omega, by omega, ?_⟩
              rw [tellH_step, if_pos HZ.out.symm, ← List.append_assoc, ← HLL.out]
              exact HP.out
          · subst hz
            go_wp2
            have hgk := HGI.out
            go_roundg (gk - 1)
            case measure => omega
            case rel =>
              refine ⟨t + 1, by go_num, by omega, by omega, ?_⟩
              rw [tellH_step, ← HZ.out, if_neg (by simp), List.append_nil, ← HLL.out]
              exact HTI.out
end Go.Proofs.YtdbjklngnloibaaGreat.form
