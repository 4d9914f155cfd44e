/- What the document's function that reads moves out of bytes (loanbookref11.read) answers. -/
import Derived.Test.YtepfegfacdbhbabCodeRefRead
import Derived.Test.YtepfegfacdbhbabRunPlain
namespace Go.Proofs.Ytepfegfacdbhbab.form
open Go.RowKit
set_option linter.unusedVariables false
attribute [local go_sem ↓] Go.wp_at_zero Go.wp_at_succ

theorem drop_one {bs : List Int} {f : Nat} (h : f < bs.length) : bs.drop f = bs.getD f 0 :: bs.drop (f + 1) := by
  rw [List.drop_eq_getElem_cons h]
  simp [List.getD, h]
theorem drop_nine {bs : List Int} {f : Nat} (h : f + 9 ≤ bs.length) : bs.drop f = bs.getD f 0 :: bs.getD (f + 1) 0 :: bs.getD (f + 2) 0 :: bs.getD (f + 3) 0 :: bs.getD (f + 4) 0 :: bs.getD (f + 5) 0 :: bs.getD (f + 6) 0 :: bs.getD (f + 7) 0 :: bs.getD (f + 8) 0 :: bs.drop (f + 9) := by
  rw [drop_one (f := f) (by omega), drop_one (f := f + 1) (by omega), drop_one (f := f + 1 + 1) (by omega), drop_one (f := f + 1 + 1 + 1) (by omega), drop_one (f := f + 1 + 1 + 1 + 1) (by omega), drop_one (f := f + 1 + 1 + 1 + 1 + 1) (by omega), drop_one (f := f + 1 + 1 + 1 + 1 + 1 + 1) (by omega), drop_one (f := f + 1 + 1 + 1 + 1 + 1 + 1 + 1) (by omega), drop_one (f := f + 1 + 1 + 1 + 1 + 1 + 1 + 1 + 1) (by omega)]
theorem getMoves_short : ∀ (n : Nat) (b : List Int), b.length < 9 * n → getMoves n b = none
  | 0, b, h => absurd h (by omega)
  | n + 1, a0 :: a1 :: a2 :: a3 :: a4 :: a5 :: a6 :: a7 :: a8 :: b, h => by
    simp only [getMoves]
    split
    · rfl
    · rw [getMoves_short n b (by simp only [List.length_cons] at h; omega)]
  | n + 1, [], _ => rfl
  | n + 1, [_], _ => rfl
  | n + 1, [_, _], _ => rfl
  | n + 1, [_, _, _], _ => rfl
  | n + 1, [_, _, _, _], _ => rfl
  | n + 1, [_, _, _, _, _], _ => rfl
  | n + 1, [_, _, _, _, _, _], _ => rfl
  | n + 1, [_, _, _, _, _, _, _], _ => rfl
  | n + 1, [_, _, _, _, _, _, _, _], _ => rfl

theorem wrap64 {x : Int} (h0 : 0 ≤ x) (h1 : x ≤ 9223372036854775807) : IntKind.i64.wrap x = x := by
  unfold IntKind.wrap
  simp [IntKind.signed, IntKind.bits]
  omega

theorem idx_of {f n j : Nat} (h : f + j < n) (hn : n ≤ 9223372036854775807) : IntKind.i64.wrap ((f : Int) + (j : Int)) = ((f + j : Nat) : Int) := by
  rw [wrap64 (by omega) (by omega)]; omega

theorem idx_in {f n j : Nat} (h : f + j < n) : (0 : Int) ≤ (f : Int) + (j : Int) ∧ (f : Int) + (j : Int) < (n : Int) := by omega

theorem wrap32 {x : Int} (h0 : 0 ≤ x) (h1 : x < 4294967296) : IntKind.u32.wrap x = x := by
  unfold IntKind.wrap
  simp [IntKind.signed, IntKind.bits]
  omega
theorem idx_nat (f j : Nat) : ((f : Int) + (j : Int)).toNat = f + j := by omega

/-- What is read from a place on. -/
def ReadAns (w : World) (bs : List Int) (k : Nat) (e : Ending) (w' : World) : Prop :=
  Below w.heap.size w w' ∧ ((readMoves (bs.drop k) = none ∧ e = .returned (.tuple #[.slice none 0 0, .int .i64 (-1)])) ∨
    ∃ l mv k', readMoves (bs.drop k) = some (l, bs.drop k') ∧ k' = k + 1 + 9 * l.length ∧ l.length ≤ 255 ∧ k' ≤ bs.length ∧ e = .returned (.tuple #[mv, .int .i64 (k' : Nat)]) ∧ MW w w.heap.size l mv w')

set_option maxRecDepth 100000 in
set_option maxHeartbeats 2000000 in
theorem read11 (v : Value) (bs : List Int) (k : Nat) (w : World) (h : BytesIs w v bs) (hk : k ≤ 2199023255552) : Calls Try.prog 71 #[v, .int .i64 k] w fun e w' => ReadAns w bs k e w' := by
  have HBI : Hid (BytesIs w v bs) := h
  obtain ⟨ao, cap, rfl, -, hl, hbd, hc⟩ := h
  have HC : Hid _ := hc
  have HBD : Hid (∀ j, j < bs.length → 0 ≤ bs.getD j 0 ∧ bs.getD j 0 ≤ 255) := hbd
  clear hc hbd
  have z0 : (bs.length : Int) ≤ 9223372036854775807 := by omega
  have z2 : (k : Int) ≤ 2199023255552 := by omega
  have z3 : (0 : Int) ≤ (k : Int) := by omega
  by_cases hkl : k < bs.length
  case neg =>
    have HA : Hid (atB bs k = -1) := by show atB bs k = -1; unfold atB; rw [if_neg hkl]
    have HN : Hid (readMoves (bs.drop k) = none) := by show readMoves (bs.drop k) = none; rw [List.drop_eq_nil_of_le (by omega)]; rfl
    go_enter Try.func71, Try.ntmps71
    go_wp2_with (go_at_call 123; refine (at11 _ bs k _ HBI.out (by omega)).mono ?_; rw [HA.out]; rintro e w1 ⟨rfl, hw1⟩; obtain rfl := hw1.symm)
    refine bodyPost_ret (v := .tuple #[.slice none 0 0, .int .i64 (-1)]) ?_ rfl ⟨Below.refl _ _, Or.inl ⟨HN.out, rfl⟩⟩
    simp [results, Try.results71, go_sem]
  obtain ⟨n9, hn9⟩ : ∃ n9 : Nat, (n9 : Int) = bs.getD k 0 := ⟨(bs.getD k 0).toNat, by have := (HBD.out k hkl).1; omega⟩
  have hn255 : n9 ≤ 255 := by have := (HBD.out k hkl).2; omega
  have HA : Hid (atB bs k = n9) := by show atB bs k = n9; unfold atB; rw [if_pos hkl, hn9]
  have HRM : Hid (readMoves (bs.drop k) = getMoves n9 (bs.drop (k + 1))) := by
    show readMoves (bs.drop k) = _
    rw [drop_one hkl, ← hn9]
    simp only [readMoves, Int.toNat_natCast]
  have z4 : (n9 : Int) ≤ 255 := by omega
  have z5 : (0 : Int) ≤ (n9 : Int) := by omega
  clear hn9
  by_cases hroom : k + 1 + 9 * n9 ≤ bs.length
  case neg =>
    have y1 : (bs.length : Int) < (k : Int) + 1 + 9 * (n9 : Int) := by omega
    have HN : Hid (readMoves (bs.drop k) = none) := by show readMoves (bs.drop k) = none; rw [HRM.out]; exact getMoves_short _ _ (by rw [List.length_drop]; omega)
    go_enter Try.func71, Try.ntmps71
    go_wp2_with (go_at_call 123; refine (at11 _ bs k _ HBI.out (by omega)).mono ?_; rw [HA.out]; rintro e w1 ⟨rfl, hw1⟩; obtain rfl := hw1.symm)
    refine bodyPost_ret (v := .tuple #[.slice none 0 0, .int .i64 (-1)]) ?_ rfl ⟨Below.refl _ _, Or.inl ⟨HN.out, rfl⟩⟩
    simp [results, Try.results71, go_sem]
  have y1 : ¬ (bs.length : Int) < (k : Int) + 1 + 9 * (n9 : Int) := by omega
  have hi0 := info_parts (P := Try.prog) (e := 158) (z := .agg #[.int .i64 0, .int .i64 0, .int .i64 0, .int .i64 0, .bool false, .int .u32 0]) (size := 6) (bytes := 40) (by kernel_rfl)
  obtain ⟨t0', hi0, hy0, hy1, hy2⟩ := hi0
  obtain ⟨b, o, rfl, hbl, hcell⟩ := HC.out (by omega)
  have HCELL : Hid (∀ j, j < bs.length → w.cell? ⟨b, o + j, none⟩ = some (.int .u8 (bs.getD j 0))) := hcell
  clear HC hcell
  go_enter Try.func71, Try.ntmps71
  go_wp2_with (go_at_call 123; refine (at11 _ bs k _ HBI.out (by omega)).mono ?_; rw [HA.out]; rintro e w1 ⟨rfl, hw1⟩; obtain rfl := hw1.symm)
  go_loopw [7, 8] (fun u t wr => ∃ (i : Nat) (l : List LMove) (u0 : Value), u0 = u ∧ i ≤ n9 ∧ l.length = i ∧ t = .int .i64 i ∧ MW w w.heap.size l u wr ∧ getMoves n9 (bs.drop (k + 1)) = (getMoves (n9 - i) (bs.drop (k + 1 + 9 * i))).map (fun x => (l ++ x.1, x.2))) (fun _ t _ => n9 - (intOf t).toNat)
  case atStart =>
    refine ⟨0, [], _, rfl, by omega, rfl, rfl, ⟨Below.refl _ _, Nat.le_refl _, World.ownsRow_nil _ _ _ _⟩, ?_⟩
    simp
  case round =>
    obtain ⟨i, l, u, rfl, hi, hli, rfl, hmw, hgm⟩ := hrel
    have HMW : Hid (MW w w.heap.size l u wr) := hmw
    have HGM : Hid (getMoves n9 (bs.drop (k + 1)) = (getMoves (n9 - i) (bs.drop (k + 1 + 9 * i))).map (fun x => (l ++ x.1, x.2))) := hgm
    have HLI : Hid (l.length = i) := hli
    have hzz := hmw.bel.size
    have x3 : (0 : Int) ≤ (i : Int) := by omega
    obtain ⟨uo, uc, hu⟩ : ∃ uo uc, u = .slice uo l.length uc := by
      rcases hmw.own.2 with ⟨e, e2⟩ | ⟨g, cap, cur, e, -⟩
      · exact ⟨none, 0, by rw [e, e2]⟩
      · exact ⟨_, _, e⟩
    subst hu
    clear hgm hli
    by_cases hlt : i < n9
    case neg =>
      have x1 : ¬ (i : Int) < (n9 : Int) := by omega
      have HE : Hid (readMoves (bs.drop k) = some (l, bs.drop (k + 1 + 9 * l.length))) := by
        have hii : i = n9 := by omega
        show readMoves (bs.drop k) = _
        rw [HRM.out, HGM.out, hii, Nat.sub_self, HLI.out, hii]
        simp [getMoves]
      have HLN : Hid (l.length = n9) := by have := HLI.out; show l.length = n9; omega
      clear hmw
      go_wp2
      refine bodyPost_ret (v := .tuple #[.slice uo l.length uc, .int .i64 ((k + 1 + 9 * l.length : Nat) : Int)]) ?_ rfl ⟨HMW.out.bel, Or.inr ⟨l, _, k + 1 + 9 * l.length, HE.out, rfl, by have := HLN.out; omega, by have := HLN.out; omega, rfl, HMW.out⟩⟩
      simp [results, Try.results71, go_sem]
      have := HLN.out
      omega
    have x1 : (i : Int) < (n9 : Int) := by omega
    obtain ⟨f, hf⟩ : ∃ f : Nat, f = k + 1 + 9 * i := ⟨_, rfl⟩
    have hfl : f + 9 ≤ bs.length := by omega
    have hfi : (k : Int) + 1 + 9 * (i : Int) = (f : Int) := by omega
    have HF : Hid (f = k + 1 + 9 * i) := hf
    have HGS : Hid (bs.drop f = bs.getD f 0 :: bs.getD (f + 1) 0 :: bs.getD (f + 2) 0 :: bs.getD (f + 3) 0 :: bs.getD (f + 4) 0 :: bs.getD (f + 5) 0 :: bs.getD (f + 6) 0 :: bs.getD (f + 7) 0 :: bs.getD (f + 8) 0 :: bs.drop (f + 9)) := drop_nine hfl
    have c0 := step_cell hmw.bel (HCELL.out (f + 0) (by omega))
    obtain ⟨l0, r0⟩ := HBD.out (f + 0) (by omega)
    obtain ⟨a0, ha0⟩ : ∃ a0, a0 = bs.getD (f + 0) 0 := ⟨_, rfl⟩
    rw [← ha0] at c0 l0 r0
    have c1 := step_cell hmw.bel (HCELL.out (f + 1) (by omega))
    obtain ⟨l1, r1⟩ := HBD.out (f + 1) (by omega)
    obtain ⟨a1, ha1⟩ : ∃ a1, a1 = bs.getD (f + 1) 0 := ⟨_, rfl⟩
    rw [← ha1] at c1 l1 r1
    have c2 := step_cell hmw.bel (HCELL.out (f + 2) (by omega))
    obtain ⟨l2, r2⟩ := HBD.out (f + 2) (by omega)
    obtain ⟨a2, ha2⟩ : ∃ a2, a2 = bs.getD (f + 2) 0 := ⟨_, rfl⟩
    rw [← ha2] at c2 l2 r2
    have c3 := step_cell hmw.bel (HCELL.out (f + 3) (by omega))
    obtain ⟨l3, r3⟩ := HBD.out (f + 3) (by omega)
    obtain ⟨a3, ha3⟩ : ∃ a3, a3 = bs.getD (f + 3) 0 := ⟨_, rfl⟩
    rw [← ha3] at c3 l3 r3
    have c4 := step_cell hmw.bel (HCELL.out (f + 4) (by omega))
    obtain ⟨l4, r4⟩ := HBD.out (f + 4) (by omega)
    obtain ⟨a4, ha4⟩ : ∃ a4, a4 = bs.getD (f + 4) 0 := ⟨_, rfl⟩
    rw [← ha4] at c4 l4 r4
    have c5 := step_cell hmw.bel (HCELL.out (f + 5) (by omega))
    obtain ⟨l5, r5⟩ := HBD.out (f + 5) (by omega)
    obtain ⟨a5, ha5⟩ : ∃ a5, a5 = bs.getD (f + 5) 0 := ⟨_, rfl⟩
    rw [← ha5] at c5 l5 r5
    have c6 := step_cell hmw.bel (HCELL.out (f + 6) (by omega))
    obtain ⟨l6, r6⟩ := HBD.out (f + 6) (by omega)
    obtain ⟨a6, ha6⟩ : ∃ a6, a6 = bs.getD (f + 6) 0 := ⟨_, rfl⟩
    rw [← ha6] at c6 l6 r6
    have c7 := step_cell hmw.bel (HCELL.out (f + 7) (by omega))
    obtain ⟨l7, r7⟩ := HBD.out (f + 7) (by omega)
    obtain ⟨a7, ha7⟩ : ∃ a7, a7 = bs.getD (f + 7) 0 := ⟨_, rfl⟩
    rw [← ha7] at c7 l7 r7
    have c8 := step_cell hmw.bel (HCELL.out (f + 8) (by omega))
    obtain ⟨l8, r8⟩ := HBD.out (f + 8) (by omega)
    obtain ⟨a8, ha8⟩ : ∃ a8, a8 = bs.getD (f + 8) 0 := ⟨_, rfl⟩
    rw [← ha8] at c8 l8 r8
    rw [Nat.add_zero] at c0 ha0
    rw [← ha0, ← ha1, ← ha2, ← ha3, ← ha4, ← ha5, ← ha6, ← ha7, ← ha8] at HGS
    have hfl2 : (f : Int) + 9 ≤ (bs.length : Int) := by omega
    have hf0 : (0 : Int) ≤ (f : Int) := by omega
    have g0 : f < bs.length := by omega
    have hj1 : f + 1 < bs.length := by omega
    have hj2 : f + 2 < bs.length := by omega
    have hj3 : f + 3 < bs.length := by omega
    have hj4 : f + 4 < bs.length := by omega
    have hj5 : f + 5 < bs.length := by omega
    have hj6 : f + 6 < bs.length := by omega
    have hj7 : f + 7 < bs.length := by omega
    have hj8 : f + 8 < bs.length := by omega
    have hbl2 : b < wr.heap.size := by omega
    clear hf hmw ha0 ha1 ha2 ha3 ha4 ha5 ha6 ha7 ha8 y1 x1
    have x1 : (i : Int) < (n9 : Int) := by omega
    by_cases hfour : 1 < a4
    case pos =>
      have HN : Hid (readMoves (bs.drop k) = none) := by
        show readMoves (bs.drop k) = none
        rw [HRM.out, HGM.out, ← HF.out, HGS.out, show n9 - i = (n9 - i - 1) + 1 by omega]
        simp only [getMoves]
        rw [if_pos hfour]
        rfl
      go_wp2
      refine bodyPost_ret (v := .tuple #[.slice none 0 0, .int .i64 (-1)]) ?_ rfl ⟨HMW.out.bel, Or.inl ⟨HN.out, rfl⟩⟩
      simp [results, Try.results71, go_sem]
    go_wp2
    /-REGIONS-/
    have hw1x : IntKind.i64.wrap ((f : Int) + 1) = ((f + 1 : Nat) : Int) := idx_of hj1 hl
    have qx1 : (0 : Int) ≤ (f : Int) + 1 ∧ (f : Int) + 1 < (bs.length : Int) := idx_in hj1
    have qt1 : ((f : Int) + 1).toNat = f + 1 := idx_nat f 1
    have hw2x : IntKind.i64.wrap ((f : Int) + 2) = ((f + 2 : Nat) : Int) := idx_of hj2 hl
    have qx2 : (0 : Int) ≤ (f : Int) + 2 ∧ (f : Int) + 2 < (bs.length : Int) := idx_in hj2
    have qt2 : ((f : Int) + 2).toNat = f + 2 := idx_nat f 2
    have hw3x : IntKind.i64.wrap ((f : Int) + 3) = ((f + 3 : Nat) : Int) := idx_of hj3 hl
    have qx3 : (0 : Int) ≤ (f : Int) + 3 ∧ (f : Int) + 3 < (bs.length : Int) := idx_in hj3
    have qt3 : ((f : Int) + 3).toNat = f + 3 := idx_nat f 3
    have hw4x : IntKind.i64.wrap ((f : Int) + 4) = ((f + 4 : Nat) : Int) := idx_of hj4 hl
    have qx4 : (0 : Int) ≤ (f : Int) + 4 ∧ (f : Int) + 4 < (bs.length : Int) := idx_in hj4
    have qt4 : ((f : Int) + 4).toNat = f + 4 := idx_nat f 4
    have hw5x : IntKind.i64.wrap ((f : Int) + 5) = ((f + 5 : Nat) : Int) := idx_of hj5 hl
    have qx5 : (0 : Int) ≤ (f : Int) + 5 ∧ (f : Int) + 5 < (bs.length : Int) := idx_in hj5
    have qt5 : ((f : Int) + 5).toNat = f + 5 := idx_nat f 5
    have hw6x : IntKind.i64.wrap ((f : Int) + 6) = ((f + 6 : Nat) : Int) := idx_of hj6 hl
    have qx6 : (0 : Int) ≤ (f : Int) + 6 ∧ (f : Int) + 6 < (bs.length : Int) := idx_in hj6
    have qt6 : ((f : Int) + 6).toNat = f + 6 := idx_nat f 6
    have hw7x : IntKind.i64.wrap ((f : Int) + 7) = ((f + 7 : Nat) : Int) := idx_of hj7 hl
    have qx7 : (0 : Int) ≤ (f : Int) + 7 ∧ (f : Int) + 7 < (bs.length : Int) := idx_in hj7
    have qt7 : ((f : Int) + 7).toNat = f + 7 := idx_nat f 7
    have hw8x : IntKind.i64.wrap ((f : Int) + 8) = ((f + 8 : Nat) : Int) := idx_of hj8 hl
    have qx8 : (0 : Int) ≤ (f : Int) + 8 ∧ (f : Int) + 8 < (bs.length : Int) := idx_in hj8
    have qt8 : ((f : Int) + 8).toNat = f + 8 := idx_nat f 8
    have wa0 : IntKind.i64.wrap a0 = a0 := wrap64 l0 (Int.le_trans r0 (by decide))
    have wa1 : IntKind.i64.wrap a1 = a1 := wrap64 l1 (Int.le_trans r1 (by decide))
    have wa2 : IntKind.i64.wrap a2 = a2 := wrap64 l2 (Int.le_trans r2 (by decide))
    have wa3 : IntKind.i64.wrap a3 = a3 := wrap64 l3 (Int.le_trans r3 (by decide))
    refine wp_region_held_drew (S := (fun w' => Below wr.heap.size wr w' ∧ w'.cell? ⟨b, o + f, none⟩ = some (.int .u8 a0) ∧ w'.cell? ⟨b, o + (f + 1), none⟩ = some (.int .u8 a1) ∧ w'.cell? ⟨b, o + (f + 2), none⟩ = some (.int .u8 a2) ∧ w'.cell? ⟨b, o + (f + 3), none⟩ = some (.int .u8 a3) ∧ w'.cell? ⟨b, o + (f + 4), none⟩ = some (.int .u8 a4))) (by rfl) ?_ (fun hHeld => ?_)
    · (exact ⟨(Below.refl wr.heap.size wr).drew, step_cell ((Below.refl wr.heap.size wr).drew) c0, step_cell ((Below.refl wr.heap.size wr).drew) c1, step_cell ((Below.refl wr.heap.size wr).drew) c2, step_cell ((Below.refl wr.heap.size wr).drew) c3, step_cell ((Below.refl wr.heap.size wr).drew) c4⟩)
    refine wpAnyH_take (i := 0) (v := ?_) rfl (by kernel_rfl) (by kernel_rfl) (by kernel_rfl) (fun _ _ _ h => h) (Or.inl ⟨by rfl, ?_⟩) (by assumption) ?_
    case refine_2 => (intro w hSw; (try dsimp only at hSw); go_simp; first | done | (with_reducible rfl))
    show wpAnyH _ _ _ _ _ _ _ (Act.put _ (some 42) _) _
    simp only [Act.put, List.setIfInBounds_toArray, List.set_cons_zero, List.set_cons_succ]
    refine wpAnyH_take (i := 1) (v := ?_) rfl (by kernel_rfl) (by kernel_rfl) (by kernel_rfl) (fun _ _ _ h => h) (Or.inl ⟨by rfl, ?_⟩) (by assumption) ?_
    case refine_2 => (intro w hSw; (try dsimp only at hSw); go_simp; first | done | (with_reducible rfl))
    show wpAnyH _ _ _ _ _ _ _ (Act.put _ (some 43) _) _
    simp only [Act.put, List.setIfInBounds_toArray, List.set_cons_zero, List.set_cons_succ]
    refine wpAnyH_take (i := 2) (v := ?_) rfl (by kernel_rfl) (by kernel_rfl) (by kernel_rfl) (fun _ _ _ h => h) (Or.inl ⟨by rfl, ?_⟩) (by assumption) ?_
    case refine_2 => (intro w hSw; (try dsimp only at hSw); go_simp; first | done | (with_reducible rfl))
    show wpAnyH _ _ _ _ _ _ _ (Act.put _ (some 44) _) _
    simp only [Act.put, List.setIfInBounds_toArray, List.set_cons_zero, List.set_cons_succ]
    refine wpAnyH_take (i := 3) (v := ?_) rfl (by kernel_rfl) (by kernel_rfl) (by kernel_rfl) (fun _ _ _ h => h) (Or.inl ⟨by rfl, ?_⟩) (by assumption) ?_
    case refine_2 => (intro w hSw; (try dsimp only at hSw); go_simp; first | done | (with_reducible rfl))
    show wpAnyH _ _ _ _ _ _ _ (Act.put _ (some 45) _) _
    simp only [Act.put, List.setIfInBounds_toArray, List.set_cons_zero, List.set_cons_succ]
    refine wpAnyH_take (i := 4) (v := ?_) rfl (by kernel_rfl) (by kernel_rfl) (by kernel_rfl) (fun _ _ _ h => h) (Or.inl ⟨by rfl, ?_⟩) (by assumption) ?_
    case refine_2 => (intro w hSw; (try dsimp only at hSw); go_simp; first | done | (with_reducible rfl))
    show wpAnyH _ _ _ _ _ _ _ (Act.put _ (some 46) _) _
    simp only [Act.put, List.setIfInBounds_toArray, List.set_cons_zero, List.set_cons_succ]
    refine wpAnyH_take (i := 5) (v := ?_) rfl (by kernel_rfl) (by kernel_rfl) (by kernel_rfl) (fun _ _ _ h => h) (Or.inl ⟨by rfl, ?_⟩) (by assumption) ?_
    case refine_2 => (intro w hSw; (try dsimp only at hSw); go_simp; first | done | (with_reducible rfl))
    show wpAnyH _ _ _ _ _ _ _ (Act.put _ (some 47) _) _
    simp only [Act.put, List.setIfInBounds_toArray, List.set_cons_zero, List.set_cons_succ]
    refine wpAnyH_take (i := 6) (v := ?_) rfl (by kernel_rfl) (by kernel_rfl) (by kernel_rfl) (fun _ _ _ h => h) (Or.inl ⟨by rfl, ?_⟩) (by assumption) ?_
    case refine_2 => (intro w hSw; (try dsimp only at hSw); go_simp; first | done | (with_reducible rfl))
    show wpAnyH _ _ _ _ _ _ _ (Act.put _ (some 48) _) _
    simp only [Act.put, List.setIfInBounds_toArray, List.set_cons_zero, List.set_cons_succ]
    refine wpAnyH_take (i := 7) (v := ?_) rfl (by kernel_rfl) (by kernel_rfl) (by kernel_rfl) (fun _ _ _ h => h) (Or.inl ⟨by rfl, ?_⟩) (by assumption) ?_
    case refine_2 => (intro w hSw; (try dsimp only at hSw); go_simp; first | done | (with_reducible rfl))
    show wpAnyH _ _ _ _ _ _ _ (Act.put _ (some 49) _) _
    simp only [Act.put, List.setIfInBounds_toArray, List.set_cons_zero, List.set_cons_succ]
    refine wpAnyH_take (i := 8) (v := ?_) rfl (by kernel_rfl) (by kernel_rfl) (by kernel_rfl) (fun _ _ _ h => h) (Or.inl ⟨by rfl, ?_⟩) (by assumption) ?_
    case refine_2 => (intro w hSw; (try dsimp only at hSw); go_simp; first | done | (with_reducible rfl))
    show wpAnyH _ _ _ _ _ _ _ (Act.put _ (some 50) _) _
    simp only [Act.put, List.setIfInBounds_toArray, List.set_cons_zero, List.set_cons_succ]
    refine wpAnyH_take (i := 9) (v := ?_) rfl (by kernel_rfl) (by kernel_rfl) (by kernel_rfl) (fun _ _ _ h => h) (Or.inl ⟨by rfl, ?_⟩) (by assumption) ?_
    case refine_2 => (intro w hSw; (try dsimp only at hSw); go_simp; first | done | (with_reducible rfl))
    show wpAnyH _ _ _ _ _ _ _ (Act.put _ (some 51) _) _
    simp only [Act.put, List.setIfInBounds_toArray, List.set_cons_zero, List.set_cons_succ]
    refine wpAnyH_take (i := 10) (v := ?_) rfl (by kernel_rfl) (by kernel_rfl) (by kernel_rfl) (fun _ _ _ h => h) (Or.inl ⟨by rfl, ?_⟩) (by assumption) ?_
    case refine_2 => (intro w hSw; (try dsimp only at hSw); go_simp; first | done | (with_reducible rfl))
    show wpAnyH _ _ _ _ _ _ _ (Act.put _ (some 52) _) _
    simp only [Act.put, List.setIfInBounds_toArray, List.set_cons_zero, List.set_cons_succ]
    refine wpAnyH_take (i := 11) (v := ?_) rfl (by kernel_rfl) (by kernel_rfl) (by kernel_rfl) (fun _ _ _ h => h) (Or.inl ⟨by rfl, ?_⟩) (by assumption) ?_
    case refine_2 => (intro w hSw; (try dsimp only at hSw); go_simp; first | done | (with_reducible rfl))
    show wpAnyH _ _ _ _ _ _ _ (Act.put _ (some 53) _) _
    simp only [Act.put, List.setIfInBounds_toArray, List.set_cons_zero, List.set_cons_succ]
    refine wpAnyH_take (i := 12) (v := ?_) rfl (by kernel_rfl) (by kernel_rfl) (by kernel_rfl) (fun _ _ _ h => h) (Or.inl ⟨by rfl, ?_⟩) (by assumption) ?_
    case refine_2 => (intro w hSw; (try dsimp only at hSw); go_simp; first | done | (with_reducible rfl))
    show wpAnyH _ _ _ _ _ _ _ (Act.put _ (some 54) _) _
    simp only [Act.put, List.setIfInBounds_toArray, List.set_cons_zero, List.set_cons_succ]
    refine wpAnyH_take (i := 13) (v := ?_) rfl (by kernel_rfl) (by kernel_rfl) (by kernel_rfl) (fun _ _ _ h => h) (Or.inl ⟨by rfl, ?_⟩) (by assumption) ?_
    case refine_2 => (intro w hSw; (try dsimp only at hSw); go_simp; first | done | (with_reducible rfl))
    show wpAnyH _ _ _ _ _ _ _ (Act.put _ (some 55) _) _
    simp only [Act.put, List.setIfInBounds_toArray, List.set_cons_zero, List.set_cons_succ]
    refine wpAnyH_take (i := 14) (v := ?_) rfl (by kernel_rfl) (by kernel_rfl) (by kernel_rfl) (fun _ _ _ h => h) (Or.inl ⟨by rfl, ?_⟩) (by assumption) ?_
    case refine_2 => (intro w hSw; (try dsimp only at hSw); go_simp; first | done | (with_reducible rfl))
    show wpAnyH _ _ _ _ _ _ _ (Act.put _ (some 56) _) _
    simp only [Act.put, List.setIfInBounds_toArray, List.set_cons_zero, List.set_cons_succ]
    refine wpAnyH_take (i := 15) (v := ?_) rfl (by kernel_rfl) (by kernel_rfl) (by kernel_rfl) (fun _ _ _ h => h) (Or.inl ⟨by rfl, ?_⟩) (by assumption) ?_
    case refine_2 => (intro w hSw; (try dsimp only at hSw); go_simp; first | done | (with_reducible rfl))
    show wpAnyH _ _ _ _ _ _ _ (Act.put _ (some 57) _) _
    simp only [Act.put, List.setIfInBounds_toArray, List.set_cons_zero, List.set_cons_succ]
    refine wpAnyH_take (i := 16) (v := ?_) rfl (by kernel_rfl) (by kernel_rfl) (by kernel_rfl) (fun _ _ _ h => h) (Or.inl ⟨by rfl, ?_⟩) (by assumption) ?_
    case refine_2 => (intro w hSw; (try dsimp only at hSw); go_simp; first | done | (with_reducible rfl))
    show wpAnyH _ _ _ _ _ _ _ (Act.put _ (some 58) _) _
    simp only [Act.put, List.setIfInBounds_toArray, List.set_cons_zero, List.set_cons_succ]
    refine wpAnyH_take (i := 17) (v := ?_) rfl (by kernel_rfl) (by kernel_rfl) (by kernel_rfl) (fun _ _ _ h => h) (Or.inl ⟨by rfl, ?_⟩) (by assumption) ?_
    case refine_2 => (intro w hSw; (try dsimp only at hSw); go_simp; first | done | (with_reducible rfl))
    show wpAnyH _ _ _ _ _ _ _ (Act.put _ (some 59) _) _
    simp only [Act.put, List.setIfInBounds_toArray, List.set_cons_zero, List.set_cons_succ]
    refine wpAnyH_take (i := 18) (v := ?_) rfl (by kernel_rfl) (by kernel_rfl) (by kernel_rfl) (fun _ _ _ h => h) (Or.inl ⟨by rfl, ?_⟩) (by assumption) ?_
    case refine_2 => (intro w hSw; (try dsimp only at hSw); go_simp; first | done | (with_reducible rfl))
    show wpAnyH _ _ _ _ _ _ _ (Act.put _ (some 60) _) _
    simp only [Act.put, List.setIfInBounds_toArray, List.set_cons_zero, List.set_cons_succ]
    refine wpAnyH_take (i := 19) (v := ?_) rfl (by kernel_rfl) (by kernel_rfl) (by kernel_rfl) (fun _ _ _ h => h) (Or.inl ⟨by rfl, ?_⟩) (by assumption) ?_
    case refine_2 => (intro w hSw; (try dsimp only at hSw); go_simp; first | done | (with_reducible rfl))
    show wpAnyH _ _ _ _ _ _ _ (Act.put _ (some 61) _) _
    simp only [Act.put, List.setIfInBounds_toArray, List.set_cons_zero, List.set_cons_succ]
    refine wpAnyH_take (i := 20) (v := ?_) rfl (by kernel_rfl) (by kernel_rfl) (by kernel_rfl) (fun _ _ _ h => h) (Or.inl ⟨by rfl, ?_⟩) (by assumption) ?_
    case refine_2 => (intro w hSw; (try dsimp only at hSw); go_simp; first | done | (with_reducible rfl))
    show wpAnyH _ _ _ _ _ _ _ (Act.put _ (some 62) _) _
    simp only [Act.put, List.setIfInBounds_toArray, List.set_cons_zero, List.set_cons_succ]
    refine wpAnyH_take (i := 21) (v := ?_) rfl (by kernel_rfl) (by kernel_rfl) (by kernel_rfl) (fun _ _ _ h => h) (Or.inl ⟨by rfl, ?_⟩) (by assumption) ?_
    case refine_2 => (intro w hSw; (try dsimp only at hSw); go_simp; first | done | (with_reducible rfl))
    show wpAnyH _ _ _ _ _ _ _ (Act.put _ (some 63) _) _
    simp only [Act.put, List.setIfInBounds_toArray, List.set_cons_zero, List.set_cons_succ]
    refine wpAnyH_take (i := 22) (v := ?_) rfl (by kernel_rfl) (by kernel_rfl) (by kernel_rfl) (fun _ _ _ h => h) (Or.inl ⟨by rfl, ?_⟩) (by assumption) ?_
    case refine_2 => (intro w hSw; (try dsimp only at hSw); go_simp; first | done | (with_reducible rfl))
    show wpAnyH _ _ _ _ _ _ _ (Act.put _ (some 64) _) _
    simp only [Act.put, List.setIfInBounds_toArray, List.set_cons_zero, List.set_cons_succ]
    refine wpAnyH_take (i := 23) (v := ?_) rfl (by kernel_rfl) (by kernel_rfl) (by kernel_rfl) (fun _ _ _ h => h) (Or.inl ⟨by rfl, ?_⟩) (by assumption) ?_
    case refine_2 => (intro w hSw; (try dsimp only at hSw); go_simp; first | done | (with_reducible rfl))
    show wpAnyH _ _ _ _ _ _ _ (Act.put _ (some 65) _) _
    simp only [Act.put, List.setIfInBounds_toArray, List.set_cons_zero, List.set_cons_succ]
    refine wpAnyH_take (i := 24) (v := ?_) rfl (by kernel_rfl) (by kernel_rfl) (by kernel_rfl) (fun _ _ _ h => h) (Or.inl ⟨by rfl, ?_⟩) (by assumption) ?_
    case refine_2 => (intro w hSw; (try dsimp only at hSw); go_simp; first | done | (with_reducible rfl))
    show wpAnyH _ _ _ _ _ _ _ (Act.put _ (some 66) _) _
    simp only [Act.put, List.setIfInBounds_toArray, List.set_cons_zero, List.set_cons_succ]
    refine wpAnyH_take (i := 25) (v := ?_) rfl (by kernel_rfl) (by kernel_rfl) (by kernel_rfl) (fun _ _ _ h => h) (Or.inl ⟨by rfl, ?_⟩) (by assumption) ?_
    case refine_2 => (intro w hSw; (try dsimp only at hSw); go_simp; first | done | (with_reducible rfl))
    show wpAnyH _ _ _ _ _ _ _ (Act.put _ (some 67) _) _
    simp only [Act.put, List.setIfInBounds_toArray, List.set_cons_zero, List.set_cons_succ]
    refine wpAnyH_take (i := 26) (v := ?_) rfl (by kernel_rfl) (by kernel_rfl) (by kernel_rfl) (fun _ _ _ h => h) (Or.inl ⟨by rfl, ?_⟩) (by assumption) ?_
    case refine_2 => (intro w hSw; (try dsimp only at hSw); go_simp; first | done | (with_reducible rfl))
    show wpAnyH _ _ _ _ _ _ _ (Act.put _ (some 68) _) _
    simp only [Act.put, List.setIfInBounds_toArray, List.set_cons_zero, List.set_cons_succ]
    refine wpAnyH_take (i := 27) (v := ?_) rfl (by kernel_rfl) (by kernel_rfl) (by kernel_rfl) (fun _ _ _ h => h) (Or.inl ⟨by rfl, ?_⟩) (by assumption) ?_
    case refine_2 => (intro w hSw; (try dsimp only at hSw); go_simp; first | done | (with_reducible rfl))
    show wpAnyH _ _ _ _ _ _ _ (Act.put _ (some 69) _) _
    simp only [Act.put, List.setIfInBounds_toArray, List.set_cons_zero, List.set_cons_succ]
    refine wpAnyH_take (i := 28) (v := ?_) rfl (by kernel_rfl) (by kernel_rfl) (by kernel_rfl) (fun _ _ _ h => h) (Or.inl ⟨by rfl, ?_⟩) (by assumption) ?_
    case refine_2 => (intro w hSw; (try dsimp only at hSw); go_simp; first | done | (with_reducible rfl))
    show wpAnyH _ _ _ _ _ _ _ (Act.put _ (some 70) _) _
    simp only [Act.put, List.setIfInBounds_toArray, List.set_cons_zero, List.set_cons_succ]
    refine wpAnyH_take (i := 29) (v := ?_) rfl (by kernel_rfl) (by kernel_rfl) (by kernel_rfl) (fun _ _ _ h => h) (Or.inl ⟨by rfl, ?_⟩) (by assumption) ?_
    case refine_2 => (intro w hSw; (try dsimp only at hSw); go_simp; first | done | (with_reducible rfl))
    show wpAnyH _ _ _ _ _ _ _ (Act.put _ (some 71) _) _
    simp only [Act.put, List.setIfInBounds_toArray, List.set_cons_zero, List.set_cons_succ]
    refine wpAnyH_take (i := 30) (v := ?_) rfl (by kernel_rfl) (by kernel_rfl) (by kernel_rfl) (fun _ _ _ h => h) (Or.inl ⟨by rfl, ?_⟩) (by assumption) ?_
    case refine_2 => (intro w hSw; (try dsimp only at hSw); go_simp; first | done | (with_reducible rfl))
    show wpAnyH _ _ _ _ _ _ _ (Act.put _ (some 72) _) _
    simp only [Act.put, List.setIfInBounds_toArray, List.set_cons_zero, List.set_cons_succ]
    refine wpAnyH_take (i := 31) (v := ?_) rfl (by kernel_rfl) (by kernel_rfl) (by kernel_rfl) (fun _ _ _ h => h) (Or.inl ⟨by rfl, ?_⟩) (by assumption) ?_
    case refine_2 => (intro w hSw; (try dsimp only at hSw); go_simp; first | done | (with_reducible rfl))
    show wpAnyH _ _ _ _ _ _ _ (Act.put _ (some 73) _) _
    simp only [Act.put, List.setIfInBounds_toArray, List.set_cons_zero, List.set_cons_succ]
    refine wpAnyH_ready (rs := [32]) (by kernel_rfl) (by simp) ?_
    refine (AllReadyH.cons rfl (fun K hK => ?_) AllReadyH.nil)
    go_simp
    refine hK.out _ _ ?_ (fun hHeld => ?_)
    · (exact ⟨((Below.refl wr.heap.size wr).drew).alloc (Nat.le_refl _) _, step_cell (((Below.refl wr.heap.size wr).drew).alloc (Nat.le_refl _) _) c0, step_cell (((Below.refl wr.heap.size wr).drew).alloc (Nat.le_refl _) _) c1, step_cell (((Below.refl wr.heap.size wr).drew).alloc (Nat.le_refl _) _) c2, step_cell (((Below.refl wr.heap.size wr).drew).alloc (Nat.le_refl _) _) c3, step_cell (((Below.refl wr.heap.size wr).drew).alloc (Nat.le_refl _) _) c4⟩)
    clear hK K
    try simp only [Act.put, List.setIfInBounds_toArray, List.set_cons_zero, List.set_cons_succ]
    refine wpAnyH_ready (rs := [33]) (by kernel_rfl) (by simp) ?_
    refine (AllReadyH.cons rfl (fun K hK => ?_) AllReadyH.nil)
    go_simp
    refine hK.out _ _ ?_ (fun hHeld => ?_)
    · (exact ⟨((Below.refl wr.heap.size wr).drew).alloc (Nat.le_refl _) _, step_cell (((Below.refl wr.heap.size wr).drew).alloc (Nat.le_refl _) _) c0, step_cell (((Below.refl wr.heap.size wr).drew).alloc (Nat.le_refl _) _) c1, step_cell (((Below.refl wr.heap.size wr).drew).alloc (Nat.le_refl _) _) c2, step_cell (((Below.refl wr.heap.size wr).drew).alloc (Nat.le_refl _) _) c3, step_cell (((Below.refl wr.heap.size wr).drew).alloc (Nat.le_refl _) _) c4⟩)
    clear hK K
    try simp only [Act.put, List.setIfInBounds_toArray, List.set_cons_zero, List.set_cons_succ]
    refine wpAnyH_done (by kernel_rfl) ?_ _
    clear hHeld
    clear hw1x hw2x hw3x hw4x hw5x hw6x hw7x hw8x qx1 qx2 qx3 qx4 qx5 qx6 qx7 qx8 qt1 qt2 qt3 qt4 qt5 qt6 qt7 qt8 wa0 wa1 wa2 wa3
    obtain ⟨wy, hwy⟩ : ∃ wy, wy = (wr.alloc (.cells #[.int .i64 a0, .int .i64 a1, .int .i64 a2, .int .i64 a3, .bool (a4 == 1), .int .u32 0] 158)).drew := ⟨_, rfl⟩
    rw [← hwy]
    have HBY : Hid (Below wr.heap.size wr wy) := by rw [hwy]; exact ((Below.refl _ _).alloc (Nat.le_refl _) _).drew
    have HRY : Hid (Row wy wr.heap.size 158 [.int .i64 a0, .int .i64 a1, .int .i64 a2, .int .i64 a3, .bool (a4 == 1), .int .u32 0]) := by rw [hwy]; exact (Row.new wr _ [.int .i64 a0, .int .i64 a1, .int .i64 a2, .int .i64 a3, .bool (a4 == 1), .int .u32 0]).drew
    have hzy : wr.heap.size < wy.heap.size := HRY.out.lt
    have c5 := step_cell HBY.out c5
    have c6 := step_cell HBY.out c6
    have c7 := step_cell HBY.out c7
    have c8 := step_cell HBY.out c8
    have x5 : wy.cell? ⟨wr.heap.size, 5, none⟩ = some (.int .u32 0) := HRY.out.cell 5
    have f5 := HRY.out.frozen 5
    have hbne : b ≠ wr.heap.size := by omega
    clear hwy c0 c1 c2 c3 c4
    go_wp2
    have hw5x : IntKind.i64.wrap ((f : Int) + 5) = ((f + 5 : Nat) : Int) := idx_of hj5 hl
    have hw6x : IntKind.i64.wrap ((f : Int) + 6) = ((f + 6 : Nat) : Int) := idx_of hj6 hl
    have hw7x : IntKind.i64.wrap ((f : Int) + 7) = ((f + 7 : Nat) : Int) := idx_of hj7 hl
    have hw8x : IntKind.i64.wrap ((f : Int) + 8) = ((f + 8 : Nat) : Int) := idx_of hj8 hl
    have qx5 : (0 : Int) ≤ (f : Int) + 5 ∧ (f : Int) + 5 < (bs.length : Int) := idx_in hj5
    have qx6 : (0 : Int) ≤ (f : Int) + 6 ∧ (f : Int) + 6 < (bs.length : Int) := idx_in hj6
    have qx7 : (0 : Int) ≤ (f : Int) + 7 ∧ (f : Int) + 7 < (bs.length : Int) := idx_in hj7
    have qx8 : (0 : Int) ≤ (f : Int) + 8 ∧ (f : Int) + 8 < (bs.length : Int) := idx_in hj8
    have ub5 : IntKind.u32.wrap a5 = a5 := wrap32 l5 (by omega)
    have ub6 : IntKind.u32.wrap a6 = a6 := wrap32 l6 (by omega)
    have ub7 : IntKind.u32.wrap a7 = a7 := wrap32 l7 (by omega)
    have ub8 : IntKind.u32.wrap a8 = a8 := wrap32 l8 (by omega)
    have um5 : IntKind.u32.wrap (a5 * 16777216) = a5 * 16777216 := wrap32 (by omega) (by omega)
    have um6 : IntKind.u32.wrap (a6 * 65536) = a6 * 65536 := wrap32 (by omega) (by omega)
    have um7 : IntKind.u32.wrap (a7 * 256) = a7 * 256 := wrap32 (by omega) (by omega)
    have us1 : IntKind.u32.wrap (a5 * 16777216 + a6 * 65536) = a5 * 16777216 + a6 * 65536 := wrap32 (by omega) (by omega)
    have us2 : IntKind.u32.wrap (a5 * 16777216 + a6 * 65536 + a7 * 256) = a5 * 16777216 + a6 * 65536 + a7 * 256 := wrap32 (by omega) (by omega)
    have us3 : IntKind.u32.wrap (a5 * 16777216 + a6 * 65536 + a7 * 256 + a8) = a5 * 16777216 + a6 * 65536 + a7 * 256 + a8 := wrap32 (by omega) (by omega)
    have qt5 : ((f : Int) + 5).toNat = f + 5 := idx_nat f 5
    have qt6 : ((f : Int) + 6).toNat = f + 6 := idx_nat f 6
    have qt7 : ((f : Int) + 7).toNat = f + 7 := idx_nat f 7
    have qt8 : ((f : Int) + 8).toNat = f + 8 := idx_nat f 8
    refine wp_region_held_drew (S := (fun w' => Below wr.heap.size wr w' ∧ w'.cell? ⟨b, o + (f + 5), none⟩ = some (.int .u8 a5) ∧ w'.cell? ⟨b, o + (f + 6), none⟩ = some (.int .u8 a6) ∧ w'.cell? ⟨b, o + (f + 7), none⟩ = some (.int .u8 a7) ∧ w'.cell? ⟨b, o + (f + 8), none⟩ = some (.int .u8 a8))) (by rfl) ?_ (fun hHeld => ?_)
    · (exact ⟨(HBY.out).drew, step_cell ((Below.refl _ _).drew) c5, step_cell ((Below.refl _ _).drew) c6, step_cell ((Below.refl _ _).drew) c7, step_cell ((Below.refl _ _).drew) c8⟩)
    refine wpAnyH_take (i := 0) (v := ?_) rfl (by kernel_rfl) (by kernel_rfl) (by kernel_rfl) (fun _ _ _ h => h) (Or.inl ⟨by rfl, ?_⟩) (by assumption) ?_
    case refine_2 => (intro w hSw; (try dsimp only at hSw); go_simp; first | done | (with_reducible rfl))
    show wpAnyH _ _ _ _ _ _ _ (Act.put _ (some 74) _) _
    simp only [Act.put, List.setIfInBounds_toArray, List.set_cons_zero, List.set_cons_succ]
    refine wpAnyH_take (i := 1) (v := ?_) rfl (by kernel_rfl) (by kernel_rfl) (by kernel_rfl) (fun _ _ _ h => h) (Or.inl ⟨by rfl, ?_⟩) (by assumption) ?_
    case refine_2 => (intro w hSw; (try dsimp only at hSw); go_simp; first | done | (with_reducible rfl))
    show wpAnyH _ _ _ _ _ _ _ (Act.put _ (some 75) _) _
    simp only [Act.put, List.setIfInBounds_toArray, List.set_cons_zero, List.set_cons_succ]
    refine wpAnyH_take (i := 2) (v := ?_) rfl (by kernel_rfl) (by kernel_rfl) (by kernel_rfl) (fun _ _ _ h => h) (Or.inl ⟨by rfl, ?_⟩) (by assumption) ?_
    case refine_2 => (intro w hSw; (try dsimp only at hSw); go_simp; first | done | (with_reducible rfl))
    show wpAnyH _ _ _ _ _ _ _ (Act.put _ (some 76) _) _
    simp only [Act.put, List.setIfInBounds_toArray, List.set_cons_zero, List.set_cons_succ]
    refine wpAnyH_take (i := 3) (v := ?_) rfl (by kernel_rfl) (by kernel_rfl) (by kernel_rfl) (fun _ _ _ h => h) (Or.inl ⟨by rfl, ?_⟩) (by assumption) ?_
    case refine_2 => (intro w hSw; (try dsimp only at hSw); go_simp; first | done | (with_reducible rfl))
    show wpAnyH _ _ _ _ _ _ _ (Act.put _ (some 77) _) _
    simp only [Act.put, List.setIfInBounds_toArray, List.set_cons_zero, List.set_cons_succ]
    refine wpAnyH_take (i := 4) (v := ?_) rfl (by kernel_rfl) (by kernel_rfl) (by kernel_rfl) (fun _ _ _ h => h) (Or.inl ⟨by rfl, ?_⟩) (by assumption) ?_
    case refine_2 => (intro w hSw; (try dsimp only at hSw); go_simp; first | done | (with_reducible rfl))
    show wpAnyH _ _ _ _ _ _ _ (Act.put _ (some 78) _) _
    simp only [Act.put, List.setIfInBounds_toArray, List.set_cons_zero, List.set_cons_succ]
    refine wpAnyH_take (i := 5) (v := ?_) rfl (by kernel_rfl) (by kernel_rfl) (by kernel_rfl) (fun _ _ _ h => h) (Or.inl ⟨by rfl, ?_⟩) (by assumption) ?_
    case refine_2 => (intro w hSw; (try dsimp only at hSw); go_simp; first | done | (with_reducible rfl))
    show wpAnyH _ _ _ _ _ _ _ (Act.put _ (some 79) _) _
    simp only [Act.put, List.setIfInBounds_toArray, List.set_cons_zero, List.set_cons_succ]
    refine wpAnyH_take (i := 6) (v := ?_) rfl (by kernel_rfl) (by kernel_rfl) (by kernel_rfl) (fun _ _ _ h => h) (Or.inl ⟨by rfl, ?_⟩) (by assumption) ?_
    case refine_2 => (intro w hSw; (try dsimp only at hSw); go_simp; first | done | (with_reducible rfl))
    show wpAnyH _ _ _ _ _ _ _ (Act.put _ (some 80) _) _
    simp only [Act.put, List.setIfInBounds_toArray, List.set_cons_zero, List.set_cons_succ]
    refine wpAnyH_take (i := 7) (v := ?_) rfl (by kernel_rfl) (by kernel_rfl) (by kernel_rfl) (fun _ _ _ h => h) (Or.inl ⟨by rfl, ?_⟩) (by assumption) ?_
    case refine_2 => (intro w hSw; (try dsimp only at hSw); go_simp; first | done | (with_reducible rfl))
    show wpAnyH _ _ _ _ _ _ _ (Act.put _ (some 81) _) _
    simp only [Act.put, List.setIfInBounds_toArray, List.set_cons_zero, List.set_cons_succ]
    refine wpAnyH_take (i := 8) (v := ?_) rfl (by kernel_rfl) (by kernel_rfl) (by kernel_rfl) (fun _ _ _ h => h) (Or.inl ⟨by rfl, ?_⟩) (by assumption) ?_
    case refine_2 => (intro w hSw; (try dsimp only at hSw); go_simp; first | done | (with_reducible rfl))
    show wpAnyH _ _ _ _ _ _ _ (Act.put _ (some 82) _) _
    simp only [Act.put, List.setIfInBounds_toArray, List.set_cons_zero, List.set_cons_succ]
    refine wpAnyH_take (i := 9) (v := ?_) rfl (by kernel_rfl) (by kernel_rfl) (by kernel_rfl) (fun _ _ _ h => h) (Or.inl ⟨by rfl, ?_⟩) (by assumption) ?_
    case refine_2 => (intro w hSw; (try dsimp only at hSw); go_simp; first | done | (with_reducible rfl))
    show wpAnyH _ _ _ _ _ _ _ (Act.put _ (some 83) _) _
    simp only [Act.put, List.setIfInBounds_toArray, List.set_cons_zero, List.set_cons_succ]
    refine wpAnyH_take (i := 10) (v := ?_) rfl (by kernel_rfl) (by kernel_rfl) (by kernel_rfl) (fun _ _ _ h => h) (Or.inl ⟨by rfl, ?_⟩) (by assumption) ?_
    case refine_2 => (intro w hSw; (try dsimp only at hSw); go_simp; first | done | (with_reducible rfl))
    show wpAnyH _ _ _ _ _ _ _ (Act.put _ (some 84) _) _
    simp only [Act.put, List.setIfInBounds_toArray, List.set_cons_zero, List.set_cons_succ]
    refine wpAnyH_take (i := 11) (v := ?_) rfl (by kernel_rfl) (by kernel_rfl) (by kernel_rfl) (fun _ _ _ h => h) (Or.inl ⟨by rfl, ?_⟩) (by assumption) ?_
    case refine_2 => (intro w hSw; (try dsimp only at hSw); go_simp; first | done | (with_reducible rfl))
    show wpAnyH _ _ _ _ _ _ _ (Act.put _ (some 85) _) _
    simp only [Act.put, List.setIfInBounds_toArray, List.set_cons_zero, List.set_cons_succ]
    refine wpAnyH_take (i := 12) (v := ?_) rfl (by kernel_rfl) (by kernel_rfl) (by kernel_rfl) (fun _ _ _ h => h) (Or.inl ⟨by rfl, ?_⟩) (by assumption) ?_
    case refine_2 => (intro w hSw; (try dsimp only at hSw); go_simp; first | done | (with_reducible rfl))
    show wpAnyH _ _ _ _ _ _ _ (Act.put _ (some 86) _) _
    simp only [Act.put, List.setIfInBounds_toArray, List.set_cons_zero, List.set_cons_succ]
    refine wpAnyH_take (i := 13) (v := ?_) rfl (by kernel_rfl) (by kernel_rfl) (by kernel_rfl) (fun _ _ _ h => h) (Or.inl ⟨by rfl, ?_⟩) (by assumption) ?_
    case refine_2 => (intro w hSw; (try dsimp only at hSw); go_simp; first | done | (with_reducible rfl))
    show wpAnyH _ _ _ _ _ _ _ (Act.put _ (some 87) _) _
    simp only [Act.put, List.setIfInBounds_toArray, List.set_cons_zero, List.set_cons_succ]
    refine wpAnyH_take (i := 14) (v := ?_) rfl (by kernel_rfl) (by kernel_rfl) (by kernel_rfl) (fun _ _ _ h => h) (Or.inl ⟨by rfl, ?_⟩) (by assumption) ?_
    case refine_2 => (intro w hSw; (try dsimp only at hSw); go_simp; first | done | (with_reducible rfl))
    show wpAnyH _ _ _ _ _ _ _ (Act.put _ (some 88) _) _
    simp only [Act.put, List.setIfInBounds_toArray, List.set_cons_zero, List.set_cons_succ]
    refine wpAnyH_take (i := 15) (v := ?_) rfl (by kernel_rfl) (by kernel_rfl) (by kernel_rfl) (fun _ _ _ h => h) (Or.inl ⟨by rfl, ?_⟩) (by assumption) ?_
    case refine_2 => (intro w hSw; (try dsimp only at hSw); go_simp; first | done | (with_reducible rfl))
    show wpAnyH _ _ _ _ _ _ _ (Act.put _ (some 89) _) _
    simp only [Act.put, List.setIfInBounds_toArray, List.set_cons_zero, List.set_cons_succ]
    refine wpAnyH_take (i := 16) (v := ?_) rfl (by kernel_rfl) (by kernel_rfl) (by kernel_rfl) (fun _ _ _ h => h) (Or.inl ⟨by rfl, ?_⟩) (by assumption) ?_
    case refine_2 => (intro w hSw; (try dsimp only at hSw); go_simp; first | done | (with_reducible rfl))
    show wpAnyH _ _ _ _ _ _ _ (Act.put _ (some 90) _) _
    simp only [Act.put, List.setIfInBounds_toArray, List.set_cons_zero, List.set_cons_succ]
    refine wpAnyH_take (i := 17) (v := ?_) rfl (by kernel_rfl) (by kernel_rfl) (by kernel_rfl) (fun _ _ _ h => h) (Or.inl ⟨by rfl, ?_⟩) (by assumption) ?_
    case refine_2 => (intro w hSw; (try dsimp only at hSw); go_simp; first | done | (with_reducible rfl))
    show wpAnyH _ _ _ _ _ _ _ (Act.put _ (some 91) _) _
    simp only [Act.put, List.setIfInBounds_toArray, List.set_cons_zero, List.set_cons_succ]
    refine wpAnyH_take (i := 18) (v := ?_) rfl (by kernel_rfl) (by kernel_rfl) (by kernel_rfl) (fun _ _ _ h => h) (Or.inl ⟨by rfl, ?_⟩) (by assumption) ?_
    case refine_2 => (intro w hSw; (try dsimp only at hSw); go_simp; first | done | (with_reducible rfl))
    show wpAnyH _ _ _ _ _ _ _ (Act.put _ (some 92) _) _
    simp only [Act.put, List.setIfInBounds_toArray, List.set_cons_zero, List.set_cons_succ]
    refine wpAnyH_take (i := 19) (v := ?_) rfl (by kernel_rfl) (by kernel_rfl) (by kernel_rfl) (fun _ _ _ h => h) (Or.inl ⟨by rfl, ?_⟩) (by assumption) ?_
    case refine_2 => (intro w hSw; (try dsimp only at hSw); go_simp; first | done | (with_reducible rfl))
    show wpAnyH _ _ _ _ _ _ _ (Act.put _ (some 93) _) _
    simp only [Act.put, List.setIfInBounds_toArray, List.set_cons_zero, List.set_cons_succ]
    refine wpAnyH_take (i := 20) (v := ?_) rfl (by kernel_rfl) (by kernel_rfl) (by kernel_rfl) (fun _ _ _ h => h) (Or.inl ⟨by rfl, ?_⟩) (by assumption) ?_
    case refine_2 => (intro w hSw; (try dsimp only at hSw); go_simp; first | done | (with_reducible rfl))
    show wpAnyH _ _ _ _ _ _ _ (Act.put _ (some 94) _) _
    simp only [Act.put, List.setIfInBounds_toArray, List.set_cons_zero, List.set_cons_succ]
    refine wpAnyH_take (i := 21) (v := ?_) rfl (by kernel_rfl) (by kernel_rfl) (by kernel_rfl) (fun _ _ _ h => h) (Or.inl ⟨by rfl, ?_⟩) (by assumption) ?_
    case refine_2 => (intro w hSw; (try dsimp only at hSw); go_simp; first | done | (with_reducible rfl))
    show wpAnyH _ _ _ _ _ _ _ (Act.put _ (some 95) _) _
    simp only [Act.put, List.setIfInBounds_toArray, List.set_cons_zero, List.set_cons_succ]
    refine wpAnyH_take (i := 22) (v := ?_) rfl (by kernel_rfl) (by kernel_rfl) (by kernel_rfl) (fun _ _ _ h => h) (Or.inl ⟨by rfl, ?_⟩) (by assumption) ?_
    case refine_2 => (intro w hSw; (try dsimp only at hSw); go_simp; first | done | (with_reducible rfl))
    show wpAnyH _ _ _ _ _ _ _ (Act.put _ (some 96) _) _
    simp only [Act.put, List.setIfInBounds_toArray, List.set_cons_zero, List.set_cons_succ]
    refine wpAnyH_take (i := 23) (v := ?_) rfl (by kernel_rfl) (by kernel_rfl) (by kernel_rfl) (fun _ _ _ h => h) (Or.inl ⟨by rfl, ?_⟩) (by assumption) ?_
    case refine_2 => (intro w hSw; (try dsimp only at hSw); go_simp; first | done | (with_reducible rfl))
    show wpAnyH _ _ _ _ _ _ _ (Act.put _ (some 97) _) _
    simp only [Act.put, List.setIfInBounds_toArray, List.set_cons_zero, List.set_cons_succ]
    refine wpAnyH_take (i := 24) (v := ?_) rfl (by kernel_rfl) (by kernel_rfl) (by kernel_rfl) (fun _ _ _ h => h) (Or.inl ⟨by rfl, ?_⟩) (by assumption) ?_
    case refine_2 => (intro w hSw; (try dsimp only at hSw); go_simp; first | done | (with_reducible rfl))
    show wpAnyH _ _ _ _ _ _ _ (Act.put _ (some 98) _) _
    simp only [Act.put, List.setIfInBounds_toArray, List.set_cons_zero, List.set_cons_succ]
    refine wpAnyH_take (i := 25) (v := ?_) rfl (by kernel_rfl) (by kernel_rfl) (by kernel_rfl) (fun _ _ _ h => h) (Or.inl ⟨by rfl, ?_⟩) (by assumption) ?_
    case refine_2 => (intro w hSw; (try dsimp only at hSw); go_simp; first | done | (with_reducible rfl))
    show wpAnyH _ _ _ _ _ _ _ (Act.put _ (some 99) _) _
    simp only [Act.put, List.setIfInBounds_toArray, List.set_cons_zero, List.set_cons_succ]
    refine wpAnyH_take (i := 26) (v := ?_) rfl (by kernel_rfl) (by kernel_rfl) (by kernel_rfl) (fun _ _ _ h => h) (Or.inl ⟨by rfl, ?_⟩) (by assumption) ?_
    case refine_2 => (intro w hSw; (try dsimp only at hSw); go_simp; first | done | (with_reducible rfl))
    show wpAnyH _ _ _ _ _ _ _ (Act.put _ (some 100) _) _
    simp only [Act.put, List.setIfInBounds_toArray, List.set_cons_zero, List.set_cons_succ]
    refine wpAnyH_take (i := 27) (v := ?_) rfl (by kernel_rfl) (by kernel_rfl) (by kernel_rfl) (fun _ _ _ h => h) (Or.inl ⟨by rfl, ?_⟩) (by assumption) ?_
    case refine_2 => (intro w hSw; (try dsimp only at hSw); go_simp; first | done | (with_reducible rfl))
    show wpAnyH _ _ _ _ _ _ _ (Act.put _ (some 101) _) _
    simp only [Act.put, List.setIfInBounds_toArray, List.set_cons_zero, List.set_cons_succ]
    refine wpAnyH_take (i := 28) (v := ?_) rfl (by kernel_rfl) (by kernel_rfl) (by kernel_rfl) (fun _ _ _ h => h) (Or.inl ⟨by rfl, ?_⟩) (by assumption) ?_
    case refine_2 => (intro w hSw; (try dsimp only at hSw); go_simp; first | done | (with_reducible rfl))
    show wpAnyH _ _ _ _ _ _ _ (Act.put _ (some 102) _) _
    simp only [Act.put, List.setIfInBounds_toArray, List.set_cons_zero, List.set_cons_succ]
    refine wpAnyH_take (i := 29) (v := ?_) rfl (by kernel_rfl) (by kernel_rfl) (by kernel_rfl) (fun _ _ _ h => h) (Or.inl ⟨by rfl, ?_⟩) (by assumption) ?_
    case refine_2 => (intro w hSw; (try dsimp only at hSw); go_simp; first | done | (with_reducible rfl))
    show wpAnyH _ _ _ _ _ _ _ (Act.put _ (some 103) _) _
    simp only [Act.put, List.setIfInBounds_toArray, List.set_cons_zero, List.set_cons_succ]
    refine wpAnyH_take (i := 30) (v := ?_) rfl (by kernel_rfl) (by kernel_rfl) (by kernel_rfl) (fun _ _ _ h => h) (Or.inl ⟨by rfl, ?_⟩) (by assumption) ?_
    case refine_2 => (intro w hSw; (try dsimp only at hSw); go_simp; first | done | (with_reducible rfl))
    show wpAnyH _ _ _ _ _ _ _ (Act.put _ (some 104) _) _
    simp only [Act.put, List.setIfInBounds_toArray, List.set_cons_zero, List.set_cons_succ]
    refine wpAnyH_ready (rs := [31]) (by kernel_rfl) (by simp) ?_
    refine (AllReadyH.cons rfl (fun K hK => ?_) AllReadyH.nil)
    go_simp
    refine hK.out _ _ ?_ (fun hHeld => ?_)
    · (exact ⟨(HBY.out.drew).setCell (Nat.le_refl _) _, by simp [go_sem]; exact c5, by simp [go_sem]; exact c6, by simp [go_sem]; exact c7, by simp [go_sem]; exact c8⟩)
    clear hK K
    try simp only [Act.put, List.setIfInBounds_toArray, List.set_cons_zero, List.set_cons_succ]
    refine wpAnyH_done (by kernel_rfl) ?_ _
    clear hHeld
    clear hw5x hw6x hw7x hw8x qx5 qx6 qx7 qx8 ub5 ub6 ub7 ub8 um5 um6 um7 us1 us2 us3 qt5 qt6 qt7 qt8
    obtain ⟨N9, hN9⟩ : ∃ N9, N9 = a5 * 16777216 + a6 * 65536 + a7 * 256 + a8 := ⟨_, rfl⟩
    rw [← hN9]
    have HN9 : Hid (N9 = a5 * 16777216 + a6 * 65536 + a7 * 256 + a8) := hN9
    obtain ⟨wz, hwz⟩ : ∃ wz, wz = (wy.setCell ⟨wr.heap.size, 5, none⟩ (.int .u32 N9)).drew := ⟨_, rfl⟩
    rw [← hwz]
    have HBZ : Hid (Below wr.heap.size wr wz) := by rw [hwz]; exact (HBY.out.setCell (Nat.le_refl _) _).drew
    have hrz : Row wz wr.heap.size 158 [.int .i64 a0, .int .i64 a1, .int .i64 a2, .int .i64 a3, .bool (a4 == 1), .int .u32 N9] := by rw [hwz]; exact (HRY.out.set 5 (.int .u32 N9)).drew
    have e0 : wz.cell? ⟨wr.heap.size, 0, none⟩ = some (.int .i64 a0) := hrz.cell 0
    have e1 : wz.cell? ⟨wr.heap.size, 1, none⟩ = some (.int .i64 a1) := hrz.cell 1
    have e2 : wz.cell? ⟨wr.heap.size, 2, none⟩ = some (.int .i64 a2) := hrz.cell 2
    have e3 : wz.cell? ⟨wr.heap.size, 3, none⟩ = some (.int .i64 a3) := hrz.cell 3
    have e4 : wz.cell? ⟨wr.heap.size, 4, none⟩ = some (.bool (a4 == 1)) := hrz.cell 4
    have e5 : wz.cell? ⟨wr.heap.size, 5, none⟩ = some (.int .u32 N9) := hrz.cell 5
    have hzz9 : wr.heap.size < wz.heap.size := hrz.lt
    have HMZ : Hid (MW w w.heap.size l (.slice uo l.length uc) wz) := HMW.out.below HBZ.out
    obtain ⟨q4, hq4⟩ : ∃ q4, q4 = (a4 == 1) := ⟨_, rfl⟩
    rw [← hq4] at e4
    have HQ4 : Hid (q4 = (a4 == 1)) := hq4
    clear hwz hrz x5 f5 c5 c6 c7 c8 hN9 hq4 HRY HBY
    go_wp2_with (at_builtin; refine wpList_append_lies _ rfl _ _ 90 rfl w.heap.size 158 t0' (.agg #[.int .i64 0, .int .i64 0, .int .i64 0, .int .i64 0, .bool false, .int .u32 0]) 6 40 Try.underlying90 hi0 hy0 hy1 hy2 rfl (by decide) (.slice uo l.length uc) l.length (l.flatMap mvC) rfl (World.ownsRow.alloc HMZ.out.own _) ⟨wz.heap.size, 0, none⟩ 1 1 [.int .i64 a0, .int .i64 a1, .int .i64 a2, .int .i64 a3, .bool q4, .int .u32 N9] rfl rfl ?c1 ?c2 (by decide) ?c3 ?c4 ?c5 _ rfl ?c6)
    case c1 => exact World.news_of_block (cs := #[.int .i64 a0, .int .i64 a1, .int .i64 a2, .int .i64 a3, .bool q4, .int .u32 N9]) (t := 158) (fr := (0, 0)) (by have := heap_alloc_new wz (.cells #[.int .i64 a0, .int .i64 a1, .int .i64 a2, .int .i64 a3, .bool q4, .int .u32 N9] 158); simpa using this)
    case c2 => simp [Value.oneCell']
    case c3 => (have := HLI.out; unfold maxLen; omega)
    case c4 => (have := HLI.out; omega)
    case c5 => (simp; omega)
    case c6 =>
      intro g9 cap9 w9 hown hgrow hat hlt9
      have hr9 : MW w w.heap.size (l ++ [mkMove a0 a1 a2 a3 a4 a5 a6 a7 a8]) (.slice (some ⟨g9, 0, none⟩) (l.length + 1) cap9) w9 := by
        refine (HMZ.out.below ((Below.refl _ _).alloc (Nat.le_refl _) _)).push (m := mkMove a0 a1 a2 a3 a4 a5 a6 a7 a8) ?_ hgrow
        have e : mvC (mkMove a0 a1 a2 a3 a4 a5 a6 a7 a8) = [.int .i64 a0, .int .i64 a1, .int .i64 a2, .int .i64 a3, .bool q4, .int .u32 N9] := by
          unfold mvC mkMove
          rw [HN9.out, HQ4.out]
          simp only [List.cons.injEq, Value.bool.injEq, true_and, and_true]
          rw [Bool.eq_iff_iff]; simp
        rw [e]
        exact hown
      have HR9 : Hid (MW w w.heap.size (l ++ [mkMove a0 a1 a2 a3 a4 a5 a6 a7 a8]) (.slice (some ⟨g9, 0, none⟩) (l.length + 1) cap9) w9) := hr9
      clear hown hgrow hat hr9 e0 e1 e2 e3 e4 e5
      go_wp2
      refine ⟨⟨i + 1, _, _, rfl, by omega, by simp [HLI.out], by go_num, HR9.out, ?_⟩, by simp [intOf]; omega⟩
      rw [HGM.out, ← HF.out, HGS.out, show n9 - i = (n9 - (i + 1)) + 1 by omega]
      simp only [getMoves]
      rw [if_neg (by omega), show k + 1 + 9 * (i + 1) = f + 9 by have := HF.out; omega]
      cases getMoves (n9 - (i + 1)) (bs.drop (f + 9)) with
      | none => rfl
      | some x => simp

end Go.Proofs.Ytepfegfacdbhbab.form
