/- For every program and any ins: what comes out in few steps is the beginning of what comes out in more; where it does not run any more in few, it ends just so in more. No condition. -/
import Derived.Test.YtolhnlbgohobkaaRunOpen
import Derived.Test.YtolhnlbgohobkaaRunRunYes
import Derived.ShutString
namespace Go.Proofs.Ytolhnlbgohobkaa.runLonger
open Go.ChangeShapes Go.WideShapes Go.ChangeAt Go.RowKit
open Go.Proofs.Ytolhnlbgohobkaa.form
set_option linter.unusedVariables false

theorem own : ownKnob Try.prog.godebug = none := by kernel_rfl
theorem laidOut : laidOutB Try.prog = true := by kernel_rfl

/-- What is shown in few steps, and in more. -/
theorem facts (B : List Bool) (C : List LIns) (I : List Int) (n m : Nat) (h : n ≤ m) :
    (playM B C I n).out.length ≤ (playM B C I m).out.length ∧ (∀ j, j < (playM B C I n).out.length → (playM B C I n).out.getD j 0 = (playM B C I m).out.getD j 0) ∧
    (¬ (playM B C I n).state = 0 → playM B C I m = playM B C I n) ∧ (playM B C I n).steps ≤ n ∧ (playM B C I m).steps ≤ m ∧ ((playM B C I n).state = 0 → (playM B C I n).steps = n) := by
  have e : playM B C I m = Mac.go C I (m - n) (playM B C I n) := by
    unfold playM
    rw [← go_add, show n + (m - n) = m by omega]
  have hp : (playM B C I n).out <+: (playM B C I m).out := by rw [e]; exact go_prefix _ _ _ _
  have s1 := go_steps C I n (Mac.start B.length)
  have s2 := go_steps C I m (Mac.start B.length)
  have z : (Mac.start B.length).steps = 0 := rfl
  rw [z] at s1 s2
  refine ⟨hp.length_le, fun j hj => ?_, fun h0 => by rw [e, Mac.go_stop h0], ?_, ?_, fun h0 => ?_⟩
  · obtain ⟨r, hr⟩ := hp
    rw [← hr]
    simp [List.getD, List.getElem?_append_left hj]
  · have := s1.1; unfold playM; omega
  · have := s2.1; unfold playM; omega
  · have := s1.2 h0; unfold playM; omega

set_option maxRecDepth 100000 in
set_option maxHeartbeats 2000000 in
theorem walk (v : Value) (B : List Bool) (C : List LIns) (iv : Value) (I : List Int) (few more : Int) (w : World) (h : ProgIs w v B C) (hI : InArg w iv I) :
    Calls Try.prog 7 #[v, iv, .int .i64 few, .int .i64 more] w fun e w' => e = .returned (.bool true) ∧ Below w.heap.size w w' := by
  have HIA : Hid (InArg w iv I) := hI
  have h0 := h
  obtain ⟨⟨a0, c0, a1, c1, rfl, hh⟩, -, -, hnum⟩ := h0
  have HP : Hid (ProgIs w (.agg #[.slice a0 B.length c0, .slice a1 C.length c1]) B C) := h
  obtain ⟨ai, ci, rfl, hcap, -, -, -⟩ := hI
  clear h hh hnum hcap
  have HW : Hid (Below w.heap.size w (w.alloc (.cells #[.slice a0 B.length c0, .slice a1 C.length c1] 31))) := (Below.refl _ _).alloc (Nat.le_refl _) _
  by_cases hfm : few > more
  case pos =>
    go_enter Try.func7, Try.ntmps7
    go_wp2
    go_ret
    exact ⟨rfl, HW.out⟩
  obtain ⟨x, hx⟩ : ∃ x, x = wrongI B C I.length few := ⟨_, rfl⟩
  obtain ⟨y, hy⟩ : ∃ y, y = wrongI B C I.length more := ⟨_, rfl⟩
  have HX : Hid (wrongI B C I.length few = x) := hx.symm
  have HY : Hid (wrongI B C I.length more = y) := hy.symm
  clear hx hy
  obtain ⟨M, hM⟩ : ∃ M, M = resM B C I few := ⟨_, rfl⟩
  have HM : Hid (resM B C I few = M) := hM.symm
  obtain ⟨T, hT⟩ : ∃ T, T = resM B C I more := ⟨_, rfl⟩
  have HT : Hid (resM B C I more = T) := hT.symm
  have e1 : few ≤ more := by omega
  clear hM hT hfm
  by_cases hxy : x = 0 ∧ y = 0
  case neg =>
    rcases (show (x != 0) = true ∨ ((x != 0) = false ∧ (y != 0) = true) by
      by_cases ex : x = 0
      · exact Or.inr ⟨by simp [ex], by simp; exact fun ey => hxy ⟨ex, ey⟩⟩
      · exact Or.inl (by simp [ex])) with e2 | ⟨e2, e3⟩
    all_goals
      clear hxy
      go_enter Try.func7, Try.ntmps7
      go_wp2_with (first
        | (go_at_call_of 20 (Value.int IntKind.i64 few); refine (runRun _ B C _ I few _ (HP.out.later HW.out) (HIA.out.later HW.out)).mono ?_; rw [HX.out, HM.out]; rintro e w1 ⟨⟨sv, rfl, hsh⟩, hb1⟩; obtain ⟨ov, rfl, ao, cap, rfl, -, -⟩ := hsh; have p0 : w1.cell? ⟨w.heap.size, 0, none⟩ = some (.slice a0 B.length c0) := step_cell hb1 (by simp [go_sem]); have p1 : w1.cell? ⟨w.heap.size, 1, none⟩ = some (.slice a1 C.length c1) := step_cell hb1 (by simp [go_sem]); have hz : w.heap.size < w1.heap.size := (by have := hb1.size; simp at this; omega); have HB1 : Hid (Below w.heap.size w w1) := over_alloc hb1; clear hb1)
        | (go_at_call_of 20 (Value.int IntKind.i64 more); refine (runRun _ B C _ I more _ (HP.out.later (HB1.out.alloc (by omega) _)) (HIA.out.later (HB1.out.alloc (by omega) _))).mono ?_; rw [HY.out, HT.out]; rintro e w2 ⟨⟨sv, rfl, hsh⟩, hb2⟩; obtain ⟨ov, rfl, ao2, cap2, rfl, -, -⟩ := hsh; have HB2 : Hid (Below w.heap.size w w2) := step_below (over_alloc hb2) HB1.out; clear hb2))
      go_ret
      exact ⟨rfl, HB2.out.alloc HB2.out.size _⟩
  obtain ⟨rfl, rfl⟩ := hxy
  obtain ⟨-, -, hs0, hs1⟩ := wrong_zero HX.out
  obtain ⟨-, -, hs2, hs3⟩ := wrong_zero HY.out
  obtain ⟨n, hn⟩ : ∃ n : Nat, few = n := Int.eq_ofNat_of_zero_le hs0
  subst hn
  obtain ⟨m, hm⟩ : ∃ m : Nat, more = m := Int.eq_ofNat_of_zero_le hs2
  subst hm
  have hnm : n ≤ m := by omega
  obtain ⟨f1, f2, f3, f4, f5, f6⟩ := facts B C I n m hnm
  have hMn : resM B C I n = playM B C I n := by unfold resM; rw [if_pos HX.out]; simp
  have hTm : resM B C I m = playM B C I m := by unfold resM; rw [if_pos HY.out]; simp
  rw [HM.out] at hMn
  rw [HT.out] at hTm
  rw [← hMn] at f2 f3 f4 f6
  rw [← hMn, ← hTm] at f1
  rw [← hTm] at f2 f3 f5
  have HLE : Hid (M.out.length ≤ T.out.length) := f1
  have HPRE : Hid (∀ j, j < M.out.length → M.out.getD j 0 = T.out.getD j 0) := f2
  have g4 : (M.steps : Int) ≤ (n : Int) := by omega
  have g5 : (T.steps : Int) ≤ (m : Int) := by omega
  have g1 : (M.out.length : Int) ≤ (T.out.length : Int) := by omega
  clear hMn hTm f1 f2 f4 f5 hs0 hs1 hs2 hs3 hnm
  by_cases hst : M.state = 0
  · have g6 : ((M.steps : Int) == (n : Int)) = true := by simp; have := f6 hst; omega
    have HST : Hid (M.state = 0) := hst
    clear f3 f6 hst
    go_enter Try.func7, Try.ntmps7
    go_wp2_with (first
      | (go_at_call_of 20 (Value.int IntKind.i64 (n : Int)); refine (runRun _ B C _ I n _ (HP.out.later HW.out) (HIA.out.later HW.out)).mono ?_; rw [HX.out, HM.out]; rintro e w1 ⟨⟨sv, rfl, hsh⟩, hb1⟩; rw [HST.out] at hsh; obtain ⟨ov, rfl, ho1⟩ := hsh; have HO1 : Hid (OutIs w1 ov M.out) := ho1; obtain ⟨ao, cap, rfl, -, -⟩ := ho1; have p0 : w1.cell? ⟨w.heap.size, 0, none⟩ = some (.slice a0 B.length c0) := step_cell hb1 (by simp [go_sem]); have p1 : w1.cell? ⟨w.heap.size, 1, none⟩ = some (.slice a1 C.length c1) := step_cell hb1 (by simp [go_sem]); have hz : w.heap.size < w1.heap.size := (by have := hb1.size; simp at this; omega); have HB1 : Hid (Below w.heap.size w w1) := over_alloc hb1; clear hb1)
      | (go_at_call_of 20 (Value.int IntKind.i64 (m : Int)); refine (runRun _ B C _ I m _ (HP.out.later (HB1.out.alloc (by omega) _)) (HIA.out.later (HB1.out.alloc (by omega) _))).mono ?_; rw [HY.out, HT.out]; rintro e w2 ⟨⟨sv, rfl, hsh⟩, hb2⟩; obtain ⟨ov, rfl, ho2⟩ := hsh; have HO2 : Hid (OutIs w2 ov T.out) := ho2; obtain ⟨ao2, cap2, rfl, -, -⟩ := ho2; have s0 : w2.cell? ⟨w1.heap.size, 0, none⟩ = some (.int .i64 0) := step_cell hb2 (by simp [go_sem]); have s1 : w2.cell? ⟨w1.heap.size, 1, none⟩ = some (.slice ao M.out.length cap) := step_cell hb2 (by simp [go_sem]); have s2 : w2.cell? ⟨w1.heap.size, 2, none⟩ = some (.int .i64 M.steps) := step_cell hb2 (by simp [go_sem]); have HB2 : Hid (Below w1.heap.size w1 w2) := over_alloc hb2; have hz2 : w1.heap.size < w2.heap.size := (by have := hb2.size; simp at this; omega); clear hb2))
    go_loopw [13] (fun t wr => ∃ k : Nat, k ≤ M.out.length ∧ t = .int .i64 k ∧ Below w.heap.size w wr ∧ wr.cell? ⟨w1.heap.size, 0, none⟩ = some (.int .i64 0) ∧ wr.cell? ⟨w1.heap.size, 1, none⟩ = some (.slice ao M.out.length cap) ∧ wr.cell? ⟨w1.heap.size, 2, none⟩ = some (.int .i64 M.steps) ∧
        wr.cell? ⟨w2.heap.size, 1, none⟩ = some (.slice ao2 T.out.length cap2) ∧ wr.cell? ⟨w2.heap.size, 2, none⟩ = some (.int .i64 T.steps) ∧ Below w2.heap.size w2 wr) (fun t _ => M.out.length - (intOf t).toNat)
    case atStart =>
      have hal : ∀ o : Obj, Below w2.heap.size w2 (w2.alloc o) := fun o => (Below.refl _ _).alloc (Nat.le_refl _) _
      exact ⟨0, by omega, rfl, step_below (hal _) (step_below HB2.out HB1.out), step_cell (hal _) s0, step_cell (hal _) s1, step_cell (hal _) s2, by simp [go_sem], by simp [go_sem], hal _⟩
    case round =>
      obtain ⟨k, hk, rfl, hbel, t0, t1, t2, u1, u2, hbw⟩ := hrel
      have HBEL : Hid (Below w.heap.size w wr) := hbel
      have HBW : Hid (Below w2.heap.size w2 wr) := hbw
      clear hbel hbw
      by_cases hlt : k < M.out.length
      · obtain ⟨_, _, he1, _, hc1⟩ := HO1.out
        simp at he1
        obtain ⟨rfl, rfl⟩ := he1
        obtain ⟨ba, oa, rfl, hba, hcell1⟩ := hc1 (by omega)
        obtain ⟨_, _, he2, _, hc2⟩ := HO2.out
        simp at he2
        obtain ⟨rfl, rfl⟩ := he2
        obtain ⟨bb, ob, rfl, hbb, hcell2⟩ := hc2 (by have := HLE.out; omega)
        have x1 := step_cell HBW.out (step_cell HB2.out (hcell1 k hlt))
        have x2 := step_cell HBW.out (hcell2 k (by have := HLE.out; omega))
        rw [← HPRE.out k hlt] at x2
        generalize M.out.getD k 0 = u at x1 x2
        have y1 : (0 : Int) ≤ (k : Int) := by omega
        have y2 : (k : Int) < (M.out.length : Int) := by omega
        have y3 : (k : Int) < (T.out.length : Int) := by have := HLE.out; omega
        clear hcell1 hcell2 hc1 hc2
        go_wp2
        go_quiet (fail)
        go_wp2
        exact ⟨⟨k + 1, by omega, by go_num, below_drewN HBEL.out _, t0, t1, t2, u1, u2, below_drewN HBW.out _⟩, by simp [intOf]; omega⟩
      · have y2 : ¬ (k : Int) < (M.out.length : Int) := by omega
        go_wp2
        go_ret
        exact ⟨rfl, HBEL.out⟩
  · have hTM : T = M := f3 hst
    have g6 : (M.state != 0) = true := by simp [hst]
    subst hTM
    clear f3 f6 hst
    go_enter Try.func7, Try.ntmps7
    go_wp2_with (first
      | (go_at_call_of 20 (Value.int IntKind.i64 (n : Int)); refine (runRun _ B C _ I n _ (HP.out.later HW.out) (HIA.out.later HW.out)).mono ?_; rw [HX.out, HM.out]; rintro e w1 ⟨⟨sv, rfl, hsh⟩, hb1⟩; obtain ⟨ov, rfl, ho1⟩ := hsh; have HO1 : Hid (OutIs w1 ov T.out) := ho1; obtain ⟨ao, cap, rfl, -, -⟩ := ho1; have p0 : w1.cell? ⟨w.heap.size, 0, none⟩ = some (.slice a0 B.length c0) := step_cell hb1 (by simp [go_sem]); have p1 : w1.cell? ⟨w.heap.size, 1, none⟩ = some (.slice a1 C.length c1) := step_cell hb1 (by simp [go_sem]); have hz : w.heap.size < w1.heap.size := (by have := hb1.size; simp at this; omega); have HB1 : Hid (Below w.heap.size w w1) := over_alloc hb1; clear hb1)
      | (go_at_call_of 20 (Value.int IntKind.i64 (m : Int)); refine (runRun _ B C _ I m _ (HP.out.later (HB1.out.alloc (by omega) _)) (HIA.out.later (HB1.out.alloc (by omega) _))).mono ?_; rw [HY.out, HT.out]; rintro e w2 ⟨⟨sv, rfl, hsh⟩, hb2⟩; obtain ⟨ov, rfl, ho2⟩ := hsh; have HO2 : Hid (OutIs w2 ov T.out) := ho2; obtain ⟨ao2, cap2, rfl, -, -⟩ := ho2; have s0 : w2.cell? ⟨w1.heap.size, 0, none⟩ = some (.int .i64 T.state) := step_cell hb2 (by simp [go_sem]); have s1 : w2.cell? ⟨w1.heap.size, 1, none⟩ = some (.slice ao T.out.length cap) := step_cell hb2 (by simp [go_sem]); have s2 : w2.cell? ⟨w1.heap.size, 2, none⟩ = some (.int .i64 T.steps) := step_cell hb2 (by simp [go_sem]); have HB2 : Hid (Below w1.heap.size w1 w2) := over_alloc hb2; have hz2 : w1.heap.size < w2.heap.size := (by have := hb2.size; simp at this; omega); clear hb2))
    go_loopw [13] (fun t wr => ∃ k : Nat, k ≤ T.out.length ∧ t = .int .i64 k ∧ Below w.heap.size w wr ∧ wr.cell? ⟨w1.heap.size, 0, none⟩ = some (.int .i64 T.state) ∧ wr.cell? ⟨w1.heap.size, 1, none⟩ = some (.slice ao T.out.length cap) ∧ wr.cell? ⟨w1.heap.size, 2, none⟩ = some (.int .i64 T.steps) ∧
        wr.cell? ⟨w2.heap.size, 1, none⟩ = some (.slice ao2 T.out.length cap2) ∧ wr.cell? ⟨w2.heap.size, 2, none⟩ = some (.int .i64 T.steps) ∧ Below w2.heap.size w2 wr) (fun t _ => T.out.length - (intOf t).toNat)
    case atStart =>
      have hal : ∀ o : Obj, Below w2.heap.size w2 (w2.alloc o) := fun o => (Below.refl _ _).alloc (Nat.le_refl _) _
      exact ⟨0, by omega, rfl, step_below (hal _) (step_below HB2.out HB1.out), step_cell (hal _) s0, step_cell (hal _) s1, step_cell (hal _) s2, by simp [go_sem], by simp [go_sem], hal _⟩
    case round =>
      obtain ⟨k, hk, rfl, hbel, t0, t1, t2, u1, u2, hbw⟩ := hrel
      have HBEL : Hid (Below w.heap.size w wr) := hbel
      have HBW : Hid (Below w2.heap.size w2 wr) := hbw
      clear hbel hbw
      by_cases hlt : k < T.out.length
      · obtain ⟨_, _, he1, _, hc1⟩ := HO1.out
        simp at he1
        obtain ⟨rfl, rfl⟩ := he1
        obtain ⟨ba, oa, rfl, hba, hcell1⟩ := hc1 (by omega)
        obtain ⟨_, _, he2, _, hc2⟩ := HO2.out
        simp at he2
        obtain ⟨rfl, rfl⟩ := he2
        obtain ⟨bb, ob, rfl, hbb, hcell2⟩ := hc2 (by have := HLE.out; omega)
        have x1 := step_cell HBW.out (step_cell HB2.out (hcell1 k hlt))
        have x2 := step_cell HBW.out (hcell2 k (by have := HLE.out; omega))
        generalize T.out.getD k 0 = u at x1 x2
        have y1 : (0 : Int) ≤ (k : Int) := by omega
        have y2 : (k : Int) < (T.out.length : Int) := by omega
        have y3 : (k : Int) < (T.out.length : Int) := by have := HLE.out; omega
        clear hcell1 hcell2 hc1 hc2
        go_wp2
        go_quiet (fail)
        go_wp2
        exact ⟨⟨k + 1, by omega, by go_num, below_drewN HBEL.out _, t0, t1, t2, u1, u2, below_drewN HBW.out _⟩, by simp [intOf]; omega⟩
      · have y2 : ¬ (k : Int) < (T.out.length : Int) := by omega
        go_wp2
        go_ret
        exact ⟨rfl, HBEL.out⟩

set_option maxRecDepth 100000 in
theorem lifted (os : Os) (started : os.Started) (H : Type) (enc : TypeId × Value → H) :
    ReturnsInHanded {} Try.checked os 7 .any (Rows.runLongerSpec.pre6 enc Try.prog Try.f7 Rows.runLongerRow.domain false) (Rows.runLongerSpec.post enc Try.prog Try.f7 false true false false) := by
  refine returnsInHanded_of_change (C := Try.checked) own started (by kernel_rfl) Try.func7
    (ChangeSpec.witness6 (enc := enc) (C := Try.checked) false ⟨#[], #[.agg #[.slice none 0 0, .slice none 0 0], .slice none 0 0, .int .i64 0, .int .i64 0], []⟩ 8 (by kernel_rfl) (by kernel_rfl) (by kernel_rfl) (by kernel_rfl)) ?_
  intro W base args ds gs before hval0 hW hcnd _
  have hval : ∀ (j : Nat) t v, Try.f7.params[j]? = some t → args[j]? = some v → Value.okWide Try.prog W .any base t v := hval0
  have hW' := hW
  obtain ⟨p, q, hA0, hV, rfl, hfz, hnd⟩ := hW
  have hA : DataW.TrodAll enc Try.prog W 0 (fun _ => true) true Try.f7.params.toList args.toList ds p := hA0
  rw [Try.params7] at hA hval
  obtain ⟨v0, vs0, d0, ds0, p0, q0, hargs, rfl, rfl, h0, r0⟩ := trodAll_cons hA
  obtain ⟨v1, vs1, d1, ds1, p1, q1, rfl, rfl, rfl, h1, r1⟩ := trodAll_cons r0
  obtain ⟨v2, vs2, d2, ds2, p2, q2, rfl, rfl, rfl, h2, r2⟩ := trodAll_cons r1
  obtain ⟨v3, vs3, d3, ds3, p3, q3, rfl, rfl, rfl, h3, r3⟩ := trodAll_cons r2
  obtain ⟨rfl, rfl, rfl⟩ := trodAll_nil r3
  obtain rfl : args = #[v0, v1, v2, v3] := by cases args; simp_all
  obtain ⟨rfl, rfl⟩ := trodVars_none hV
  have k0 := h0
  have k1 := h1
  have k2 := h2
  have k3 := h3
  have lt0 : ∀ x ∈ p0, x.block < W.heap.size := by obtain ⟨m, hm⟩ := k0; exact DataW.trod_lt m _ _ _ hm
  have lt1 : ∀ x ∈ p1, x.block < W.heap.size := by obtain ⟨m, hm⟩ := k1; exact DataW.trod_lt m _ _ _ hm
  have lt2 : ∀ x ∈ p2, x.block < W.heap.size := by obtain ⟨m, hm⟩ := k2; exact DataW.trod_lt m _ _ _ hm
  have lt3 : ∀ x ∈ p3, x.block < W.heap.size := by obtain ⟨m, hm⟩ := k3; exact DataW.trod_lt m _ _ _ hm
  obtain ⟨B, C, hP⟩ := prog_is (hval 0 31 v0 rfl rfl) h0
  obtain ⟨I, hI⟩ := ins_is (hval 1 33 v1 rfl rfl) h1
  obtain ⟨a2, rfl, -, -, -⟩ := open_int Try.underlying3 (hval 2 3 v2 rfl rfl) h2
  obtain ⟨a3, rfl, -, -, -⟩ := open_int Try.underlying3 (hval 3 3 v3 rfl rfl) h3
  clear hA0 hval0
  refine (walk v0 B C v1 I a2 a3 W hP hI).mono fun e W' ⟨he, bel⟩ => ?_
  subst he
  exact ⟨_, rfl, _, _, _, [], _, [], hW', trodAll_mk1 (shut_bool Try.underlying4 _),
    (trodAll_cons_mk (Below.trod laidOut (by kernel_rfl) (of_decide_eq_true (by kernel_rfl)) k0 bel lt0) (trodAll_cons_mk (Below.trod laidOut (by kernel_rfl) (of_decide_eq_true (by kernel_rfl)) k1 bel lt1) (trodAll_cons_mk (Below.trod laidOut (by kernel_rfl) (of_decide_eq_true (by kernel_rfl)) k2 bel lt2) (trodAll_cons_mk (Below.trod laidOut (by kernel_rfl) (of_decide_eq_true (by kernel_rfl)) k3 bel lt3) trodAll_mk0)))), rfl, bel.frame _, fun h => by cases h⟩

theorem over : Rows.runLongerRow.holds Try.pinned (OpenSpec.ofChange Rows.runLongerSpec) :=
  OpenClaim.holds_of_wide 7 Try.f7 rfl rfl rfl rfl rfl rfl rfl ⟨rfl, rfl, rfl, rfl, rfl⟩ rfl rfl rfl rfl rfl (by kernel_rfl) Try.func7 (by kernel_rfl)
    (of_decide_eq_true (by kernel_rfl)) (by unfold Func.isWrapper; first | (rw [if_pos (by decide +kernel)]; kernel_rfl) | (rw [if_neg (by decide +kernel)]; exact ⟨rfl, rfl⟩))
    (fun os started H enc _ => lifted os started H enc)

end Go.Proofs.Ytolhnlbgohobkaa.runLonger
namespace Go.Proofs.Ytolhnlbgohobkaa
theorem runLonger_holds : Rows.RunLongerSaid := runLonger.over
#print axioms runLonger_holds
end Go.Proofs.Ytolhnlbgohobkaa
