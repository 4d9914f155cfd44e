/- Whether an instruction gives the one where the other one is needed behind it (loanbookref5.gives). -/
import Derived.Test.YtgeimilnddpdmabNearPlain
import Derived.Test.YtgeimilnddpdmabLiveOf
namespace Go.Proofs.Ytgeimilnddpdmab.form
open Go.RowKit
set_option linter.unusedVariables false
attribute [local go_sem ↓] Go.wp_at_zero Go.wp_at_succ

set_option maxRecDepth 100000 in
set_option maxHeartbeats 1000000 in
theorem gives5 (b0 o0 c0 b1 o1 c1 : Nat) (B : List Bool) (C : List LIns) (v : Value) (R : List (List Bool)) (k a b : Nat) (w : World) (hB : B.length ≤ 12) (hC : C.length ≤ 40) (h : Held w b0 o0 b1 o1 B C) (hok : ∀ k, k < C.length → InsOk B.length C.length (C.getD k .zero))
    (hM : MatIs w v R) (hR : R.length = C.length) (hrow : ∀ k, k < C.length → (R.getD k []).length = B.length) (hk : k < C.length) (ha : a < B.length) (hb : b < B.length) :
    Calls Try.prog 27 #[progV b0 o0 B.length c0 b1 o1 C.length c1, v, .int .i64 k, .int .i64 a, .int .i64 b] w fun e w' => e = .returned (.bool (nearG C R k a b)) ∧ Below w.heap.size w w' := by
  obtain ⟨d0, d1, d2, d3, d4, d5⟩ := h.code k hk
  obtain ⟨ao, cap, rfl, -, hcell⟩ := hM
  obtain ⟨mb, mo, rfl, hmb, hcells⟩ := hcell (by omega)
  have HCE : Hid (∀ j, j < R.length → ∃ rv, w.cell? ⟨mb, mo + j, none⟩ = some rv ∧ BRowIs w rv (R.getD j [])) := hcells
  have HBD : Hid (∀ x, x ∈ nextsI (C.getD k .zero) k → 0 ≤ x ∧ x ≤ C.length) := nexts_bd (hok k hk) hk
  have hst : nearG C R k a b = (givesB (C.getD k .zero).op && ((C.getD k .zero).dest == (a : Int)) && !(((C.getD k .zero).op == 2) && ((C.getD k .zero).a == (b : Int))) && (nextsI (C.getD k .zero) k).any fun x => decide (x < (C.length : Int)) && (R.getD x.toNat []).getD b false) := rfl
  have hnl := nexts_len (C.getD k .zero) k
  obtain ⟨i, hi⟩ : ∃ i, i = C.getD k .zero := ⟨_, rfl⟩
  rw [← hi] at d0 d1 d2 d3 d4 d5 hst HBD hnl
  clear hi hcell hcells
  rw [hst]
  have hlt1 := h.lt1
  have y0 : (0 : Int) ≤ (k : Int) := by omega
  have y1 : (k : Int) < (C.length : Int) := by omega
  have y2 : (C.length : Int) ≤ 40 := by omega
  have x0 : (0 : Int) ≤ (b : Int) := by omega
  have x1 : (b : Int) < (B.length : Int) := by omega
  have x2 : (B.length : Int) ≤ 12 := by omega
  have x3 : (R.length : Int) = (C.length : Int) := by omega
  clear hok hst h
  obtain ⟨P0, hP0⟩ : ∃ x, x = givesB i.op := ⟨_, rfl⟩
  have HG : Hid (∀ wx : World, Calls Try.prog 30 #[.int .i64 i.op] wx fun e w' => e = .returned (.bool P0) ∧ w' = wx) := fun wx => by rw [hP0]; exact gives i.op wx
  rw [← hP0]
  clear hP0
  unfold progV
  rcases (show P0 = false ∨ (P0 = true ∧ (i.dest == (a : Int)) = false) ∨ (P0 = true ∧ (i.dest == (a : Int)) = true ∧ (i.op == 2) = true ∧ (i.a == (b : Int)) = true) ∨ (P0 = true ∧ (i.dest == (a : Int)) = true ∧ ((i.op == 2) = false ∨ ((i.op == 2) = true ∧ (i.a == (b : Int)) = false))) by
    cases P0 <;> cases (i.dest == (a : Int)) <;> cases (i.op == 2) <;> cases (i.a == (b : Int)) <;> simp) with rfl | ⟨rfl, e1⟩ | ⟨rfl, e1, e2, e3⟩ | ⟨rfl, e1, e2⟩
  · go_enter Try.func27, Try.ntmps27
    go_wp2_with (go_at_call 30; refine (HG.out _).mono ?_; rintro e w' ⟨rfl, hw'⟩; obtain rfl := hw'.symm)
    go_ret
    exact ⟨ret_bool (by simp), ((Below.refl _ _).alloc (Nat.le_refl _) _).alloc (by simp) _⟩
  · rw [e1]
    have f1 : (i.dest != (a : Int)) = true := by simp [bne, e1]
    go_enter Try.func27, Try.ntmps27
    go_wp2_with (go_at_call 30; refine (HG.out _).mono ?_; rintro e w' ⟨rfl, hw'⟩; obtain rfl := hw'.symm)
    go_ret
    exact ⟨ret_bool (by simp), ((Below.refl _ _).alloc (Nat.le_refl _) _).alloc (by simp) _⟩
  · rw [e1, e2, e3]
    have f1 : (i.dest != (a : Int)) = false := by simp [bne, e1]
    go_enter Try.func27, Try.ntmps27
    go_wp2_with (go_at_call 30; refine (HG.out _).mono ?_; rintro e w' ⟨rfl, hw'⟩; obtain rfl := hw'.symm)
    go_ret
    exact ⟨ret_bool (by simp), ((Below.refl _ _).alloc (Nat.le_refl _) _).alloc (by simp) _⟩
  · have hm : ((i.op == 2) && (i.a == (b : Int))) = false := by rcases e2 with e2 | ⟨e2, e3⟩ <;> simp [*]
    rw [e1, hm]
    simp only [Bool.true_and, Bool.not_false]
    have f1 : (i.dest != (a : Int)) = false := by simp [bne, e1]
    have HN2 : Hid (∀ wx : World, Calls Try.prog 62 #[i.val, .int .i64 k] wx fun e w' => (∃ v, e = .returned v ∧ IntsAt wx.heap.size w' v (nextsI i k)) ∧ Below wx.heap.size wx w') := fun wx => nexts2 i k (by omega) wx
    obtain ⟨N, hN⟩ : ∃ N, N = nextsI i k := ⟨_, rfl⟩
    rw [← hN] at HN2 HBD hnl ⊢
    clear hN hm
    rcases e2 with e2 | ⟨e2, e3⟩
    all_goals
      go_enter Try.func27, Try.ntmps27
      go_wp2_with (first
        | (go_at_call 30; refine (HG.out _).mono ?_; rintro e w' ⟨rfl, hw'⟩; obtain rfl := hw'.symm)
        | (go_at_call 62; refine (HN2.out _).mono ?_; rintro e w3 ⟨⟨nv, rfl, hnv⟩, hb3⟩; have HNV : Hid _ := hnv; obtain ⟨nao, ncap, rfl, -⟩ := hnv; have p1 : w3.cell? ⟨w.heap.size, 1, none⟩ = some (.slice (some ⟨b1, o1, none⟩) C.length c1) := step_cell hb3 (by simp [go_sem]); have HB3 : Hid (Below w.heap.size w w3) := ((((Below.refl _ _).alloc (Nat.le_refl _) _).alloc (by simp) _).trans (hb3.mono (by simp; omega))); clear hb3))
      have HW3 : Hid (0 < N.length → ∃ gb, nao = some ⟨gb, 0, none⟩ ∧ gb < w3.heap.size ∧ ∀ q, q < N.length → w3.cell? ⟨gb, q, none⟩ = some (.int .i64 (N.getD q 0))) := by
        intro h0
        obtain ⟨_, _, he, hh⟩ := HNV.out
        simp at he
        obtain ⟨rfl, rfl⟩ := he
        obtain ⟨gb, e1, e2, e3, e4⟩ := hh h0
        exact ⟨gb, e1, e3, e4⟩
      have z3 : (N.length : Int) ≤ 2 := by omega
      have HP1 : Hid (w3.cell? ⟨w.heap.size, 1, none⟩ = some (.slice (some ⟨b1, o1, none⟩) C.length c1)) := p1
      clear HNV d0 d1 d2 d3 d4 d5 p1
      go_loopw [13] (fun jv wr => ∃ (j : Nat), jv = .int .i64 j ∧ j ≤ N.length ∧ Below w3.heap.size w3 wr ∧ ∀ q, q < j → (decide (N.getD q 0 < (C.length : Int)) && (R.getD (N.getD q 0).toNat []).getD b false) = false) (fun jv _ => N.length - (intOf jv).toNat)
      case atStart => exact ⟨0, rfl, by omega, Below.refl _ _, fun q hq => absurd hq (by omega)⟩
      case round =>
        obtain ⟨j, rfl, hj, hbw, hall⟩ := hrel
        have HBW : Hid (Below w3.heap.size w3 wr) := hbw
        have HALL : Hid (∀ q, q < j → (decide (N.getD q 0 < (C.length : Int)) && (R.getD (N.getD q 0).toNat []).getD b false) = false) := hall
        have p1 := step_cell hbw HP1.out
        clear hall hbw
        by_cases hjl : j < N.length
        case neg =>
          have y9 : ¬ (j : Int) < (N.length : Int) := by omega
          go_wp2
          go_ret
          refine ⟨ret_bool ?_, step_below HBW.out HB3.out⟩
          obtain rfl : j = N.length := by omega
          rw [eq_comm, List.any_eq_false]
          intro x hx
          obtain ⟨q, hq, rfl⟩ := List.getElem_of_mem hx
          have := HALL.out q hq
          rw [show N.getD q 0 = N[q] by simp [List.getD, hq]] at this
          show ¬ (decide (N[q] < (C.length : Int)) && (R.getD N[q].toNat []).getD b false) = true
          rw [this]
          simp
        obtain ⟨gb, rfl, hgb2, hgbc⟩ := HW3.out (by omega)
        have nj := step_cell HBW.out (hgbc j hjl)
        have hmem : N.getD j 0 ∈ N := by simp [List.getD, hjl]
        have hyb := HBD.out _ hmem
        obtain ⟨Y, hY⟩ : ∃ Y : Nat, N.getD j 0 = Y := Int.eq_ofNat_of_zero_le hyb.1
        rw [hY] at nj hmem hyb
        have HY : Hid (N.getD j 0 = (Y : Int)) := hY
        have HME : Hid ((Y : Int) ∈ N) := hmem
        clear hgbc hY hmem
        have y8 : (j : Int) < (N.length : Int) := by omega
        have y7 : (0 : Int) ≤ (j : Int) := by omega
        have y6 : (0 : Int) ≤ (Y : Int) := by omega
        by_cases hYl : Y < C.length
        case neg =>
          have y5 : ¬ (Y : Int) < (C.length : Int) := by omega
          go_wp2
          go_quiet (fail)
          go_wp2
          refine ⟨⟨j + 1, by go_num, by omega, below_drewN HBW.out _, fun q hq => ?_⟩, by simp [intOf]; omega⟩
          by_cases hqj : q < j
          · exact HALL.out q hqj
          · obtain rfl : q = j := by omega
            rw [HY.out]
            simp only [Bool.and_eq_false_iff, decide_eq_false_iff_not]
            exact Or.inl (by omega)
        have y5 : (Y : Int) < (C.length : Int) := by omega
        obtain ⟨rv, hrv, hbr⟩ := HCE.out Y (by omega)
        obtain ⟨rao, rcap, rfl, -, hrc⟩ := hbr
        have hrl := hrow Y hYl
        obtain ⟨rb, ro, rfl, _, hrcell⟩ := hrc (by omega)
        have m1 := step_cell HBW.out (step_cell HB3.out hrv)
        have m2 := step_cell HBW.out (step_cell HB3.out (hrcell b (by omega)))
        rw [hrl] at m1
        obtain ⟨u, hu⟩ : ∃ u, u = (R.getD Y []).getD b false := ⟨_, rfl⟩
        rw [← hu] at m2
        have HU : Hid ((R.getD Y []).getD b false = u) := hu.symm
        clear hu hrc hrcell hrl hrv
        cases u with
        | true =>
          go_wp2
          go_quiet (fail)
          go_wp2
          go_ret
          refine ⟨ret_bool ?_, below_drewN (step_below HBW.out HB3.out) _⟩
          rw [eq_comm, List.any_eq_true]
          exact ⟨(Y : Int), HME.out, by simp only [Bool.and_eq_true, decide_eq_true_eq, Int.toNat_natCast]; exact ⟨y5, HU.out⟩⟩
        | false =>
          go_wp2
          go_quiet (fail)
          go_wp2
          refine ⟨⟨j + 1, by go_num, by omega, below_drewN HBW.out _, fun q hq => ?_⟩, by simp [intOf]; omega⟩
          by_cases hqj : q < j
          · exact HALL.out q hqj
          · obtain rfl : q = j := by omega
            rw [HY.out]
            simp only [Bool.and_eq_false_iff, Int.toNat_natCast]
            exact Or.inr HU.out

end Go.Proofs.Ytgeimilnddpdmab.form
