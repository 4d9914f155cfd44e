/- For every program, such as may not be among them, any ins and steps, what the program tells of how it runs, or of what is wrong, is what the document's chapter on runs says. No condition. -/
import Derived.Test.YtolhnlbgohobkaaRunOpen
import Derived.Test.YtolhnlbgohobkaaRunRunYes
import Derived.ShutString
namespace Go.Proofs.Ytolhnlbgohobkaa.runRuns
open Go.ChangeShapes Go.WideShapes Go.ChangeAt Go.RowKit
open Go.Proofs.Ytolhnlbgohobkaa.form
set_option linter.unusedVariables false

theorem own : ownKnob Try.prog.godebug = none := by kernel_rfl
theorem laidOut : laidOutB Try.prog = true := by kernel_rfl

set_option maxRecDepth 100000 in
set_option maxHeartbeats 1000000 in
theorem walk (v : Value) (B : List Bool) (C : List LIns) (iv : Value) (I : List Int) (steps : Int) (w : World) (h : ProgIs w v B C) (hI : InArg w iv I) :
    Calls Try.prog 6 #[v, iv, .int .i64 steps] w fun e w' => e = .returned (.bool true) ∧ Below w.heap.size w w' := by
  have HIA : Hid (InArg w iv I) := hI
  have h0 := h
  obtain ⟨⟨a0, c0, a1, c1, rfl, hh⟩, -, -, hnum⟩ := h0
  have HNUM : Hid _ := hnum
  have HH : Hid _ := hh
  have HP : Hid (ProgIs w (.agg #[.slice a0 B.length c0, .slice a1 C.length c1]) B C) := h
  obtain ⟨ai, ci, rfl, hcap, -, -, -⟩ := hI
  clear h hh hnum hcap
  obtain ⟨x, hx⟩ : ∃ x, x = wrongI B C I.length steps := ⟨_, rfl⟩
  have HX : Hid (wrongI B C I.length steps = x) := hx.symm
  clear hx
  have HW : Hid (Below w.heap.size w (w.alloc (.cells #[.slice a0 B.length c0, .slice a1 C.length c1] 31))) := (Below.refl _ _).alloc (Nat.le_refl _) _
  obtain ⟨M, hM⟩ : ∃ M, M = resM B C I steps := ⟨_, rfl⟩
  have HM : Hid (resM B C I steps = M) := hM.symm
  by_cases hx0 : x = 0
  case neg =>
    have e1 : (x != 0) = true := by simp [hx0]
    have hMz : M = ⟨0, [], 0, [], 0, 0⟩ := by rw [hM]; unfold resM; rw [HX.out, if_neg hx0]
    have HMZ : Hid (M = ⟨0, [], 0, [], 0, 0⟩) := hMz
    clear hMz hM
    go_enter Try.func6, Try.ntmps6
    go_wp2_with (first
      | (go_at_call 20; refine (runRun _ B C _ I steps _ (HP.out.later HW.out) (HIA.out.later HW.out)).mono ?_; rw [HX.out, HM.out]; rintro e w1 ⟨⟨sv, rfl, hsh⟩, hb1⟩; have HS1 : Hid (ShownIs w1 sv M.state M.out M.steps) := hsh; obtain ⟨ov, rfl, ao, cap, rfl, -, -⟩ := hsh; have p0 : w1.cell? ⟨w.heap.size, 0, none⟩ = some (.slice a0 B.length c0) := step_cell hb1 (by simp [go_sem]); have p1 : w1.cell? ⟨w.heap.size, 1, none⟩ = some (.slice a1 C.length c1) := step_cell hb1 (by simp [go_sem]); have hz : w.heap.size < w1.heap.size := (by have := hb1.size; simp at this; omega); have HB1 : Hid (Below w.heap.size w w1) := over_alloc hb1; clear hb1)
      | (go_at_call 21; refine (wrong _ B C _ _ _ _ _ (HP.out.later (HB1.out.alloc (by omega) _))).mono ?_; rw [HX.out]; rintro e w2 ⟨rfl, hb2⟩; have s0 : w2.cell? ⟨w1.heap.size, 0, none⟩ = some (.int .i64 M.state) := step_cell hb2 (by simp [go_sem]); have s1 : w2.cell? ⟨w1.heap.size, 1, none⟩ = some (.slice ao M.out.length cap) := step_cell hb2 (by simp [go_sem]); have s2 : w2.cell? ⟨w1.heap.size, 2, none⟩ = some (.int .i64 M.steps) := step_cell hb2 (by simp [go_sem]); have q0 : w2.cell? ⟨w.heap.size, 0, none⟩ = some (.slice a0 B.length c0) := step_cell hb2 (step_cell ((Below.refl _ _).alloc (Nat.le_refl _) _) p0); have q1 : w2.cell? ⟨w.heap.size, 1, none⟩ = some (.slice a1 C.length c1) := step_cell hb2 (step_cell ((Below.refl _ _).alloc (Nat.le_refl _) _) p1); have HB2 : Hid (Below w1.heap.size w1 w2) := over_alloc hb2; have hz2 : w1.heap.size < w2.heap.size := (by have := hb2.size; simp at this; omega); clear hb2)
      | (go_at_call 22; refine (same _ _ M.state M.steps 0 0 M.out [] _ (HS1.out.later HB2.out) ⟨_, rfl, none, 0, rfl, by simp, fun hh => absurd hh (by simp)⟩).mono ?_; rintro e w3 ⟨rfl, hb3⟩))
    go_ret
    exact ⟨ret_bool (by rw [HMZ.out]; rfl), step_below hb3 (step_below HB2.out HB1.out)⟩
  subst hx0
  obtain ⟨hmay, h40, hs0, hs1⟩ := wrong_zero HX.out
  have hsz : sizesB B C = true := by unfold refMayB at hmay; simp only [Bool.and_eq_true] at hmay; exact hmay.1
  obtain ⟨s1, s2, s3, s4⟩ := sizes_of hsz
  obtain ⟨b0, o0, b1, o1, rfl, rfl, hheld⟩ := HH.out s1 s3
  have HHE : Hid (Held w b0 o0 b1 o1 B C) := hheld
  have HIB : Hid (∀ j, j < I.length → 0 ≤ I.getD j 0 ∧ I.getD j 0 < 4294967296) := by
    obtain ⟨_, _, _, _, _, h3, _⟩ := HIA.out
    exact h3
  obtain ⟨n, hn⟩ : ∃ n : Nat, steps = n := Int.eq_ofNat_of_zero_le hs0
  subst hn
  have hres : playM B C I n = M := by rw [hM]; unfold resM; rw [if_pos HX.out]; simp
  have HRES : Hid (playM B C I n = M) := hres
  have HMAY : Hid (refMayB B C = true) := hmay
  have hn3 : n ≤ 3000 := by omega
  clear hmay hsz hheld hres hM s1 s2 s3 s4 HH hs0 hs1
  go_enter Try.func6, Try.ntmps6
  go_wp2_with (first
    | (go_at_call 20; refine (runRun _ B C _ I n _ (HP.out.later HW.out) (HIA.out.later HW.out)).mono ?_; rw [HX.out, HM.out]; rintro e w1 ⟨⟨sv, rfl, hsh⟩, hb1⟩; have HS1 : Hid (ShownIs w1 sv M.state M.out M.steps) := hsh; obtain ⟨ov, rfl, ao, cap, rfl, -, -⟩ := hsh; have p0 : w1.cell? ⟨w.heap.size, 0, none⟩ = some (.slice (some ⟨b0, o0, none⟩) B.length c0) := step_cell hb1 (by simp [go_sem]); have p1 : w1.cell? ⟨w.heap.size, 1, none⟩ = some (.slice (some ⟨b1, o1, none⟩) C.length c1) := step_cell hb1 (by simp [go_sem]); have hz : w.heap.size < w1.heap.size := (by have := hb1.size; simp at this; omega); have HB1 : Hid (Below w.heap.size w w1) := over_alloc hb1; clear hb1)
    | (go_at_call 21; refine (wrong _ B C _ _ _ _ _ (HP.out.later (HB1.out.alloc (by omega) _))).mono ?_; rw [HX.out]; rintro e w2 ⟨rfl, hb2⟩; have s0 : w2.cell? ⟨w1.heap.size, 0, none⟩ = some (.int .i64 M.state) := step_cell hb2 (by simp [go_sem]); have s1 : w2.cell? ⟨w1.heap.size, 1, none⟩ = some (.slice ao M.out.length cap) := step_cell hb2 (by simp [go_sem]); have s2 : w2.cell? ⟨w1.heap.size, 2, none⟩ = some (.int .i64 M.steps) := step_cell hb2 (by simp [go_sem]); have q0 : w2.cell? ⟨w.heap.size, 0, none⟩ = some (.slice (some ⟨b0, o0, none⟩) B.length c0) := step_cell hb2 (step_cell ((Below.refl _ _).alloc (Nat.le_refl _) _) p0); have q1 : w2.cell? ⟨w.heap.size, 1, none⟩ = some (.slice (some ⟨b1, o1, none⟩) C.length c1) := step_cell hb2 (step_cell ((Below.refl _ _).alloc (Nat.le_refl _) _) p1); have HB2 : Hid (Below w1.heap.size w1 w2) := over_alloc hb2; have hz2 : w1.heap.size < w2.heap.size := (by have := hb2.size; simp at this; omega); clear hb2)
    | (go_at_call 23; refine (play b0 o0 c0 b1 o1 c1 B C _ I n _ HMAY.out (HHE.out.later (step_below HB2.out HB1.out)) HNUM.out ((HIA.out.out h40).later (step_below HB2.out HB1.out)) HIB.out hn3).mono ?_; rw [HRES.out]; rintro e w3 ⟨rv, rfl, hsh3, hb3⟩; have HS3 : Hid (ShownIs w3 rv M.state M.out M.steps) := hsh3; obtain ⟨ov3, rfl, ao3, cap3, rfl, -, -⟩ := hsh3; have HB3 : Hid (Below w2.heap.size w2 w3) := hb3; have s0 := step_cell hb3 s0; have s1 := step_cell hb3 s1; have s2 := step_cell hb3 s2; have hz3 : w1.heap.size < w3.heap.size := Nat.lt_of_lt_of_le hz2 hb3.size; clear hb3)
    | (go_at_call 22; refine (same _ _ M.state M.steps M.state M.steps M.out M.out _ (HS1.out.later ((step_below HB3.out HB2.out).alloc (by omega) _)) (HS3.out.later ((Below.refl _ _).alloc (Nat.le_refl _) _))).mono ?_; rintro e w4 ⟨rfl, hb4⟩))
  go_ret
  refine ⟨ret_bool (by unfold sameB; simp), ?_⟩
  exact step_below (over_alloc hb4) (step_below HB3.out (step_below HB2.out HB1.out))

set_option maxRecDepth 100000 in
theorem lifted (os : Os) (started : os.Started) (H : Type) (enc : TypeId × Value → H) :
    ReturnsInHanded {} Try.checked os 6 .any (Rows.runRunsSpec.pre6 enc Try.prog Try.f6 Rows.runRunsRow.domain false) (Rows.runRunsSpec.post enc Try.prog Try.f6 false true false false) := by
  refine returnsInHanded_of_change (C := Try.checked) own started (by kernel_rfl) Try.func6
    (ChangeSpec.witness6 (enc := enc) (C := Try.checked) false ⟨#[], #[.agg #[.slice none 0 0, .slice none 0 0], .slice none 0 0, .int .i64 0], []⟩ 8 (by kernel_rfl) (by kernel_rfl) (by kernel_rfl) (by kernel_rfl)) ?_
  intro W base args ds gs before hval0 hW hcnd _
  have hval : ∀ (j : Nat) t v, Try.f6.params[j]? = some t → args[j]? = some v → Value.okWide Try.prog W .any base t v := hval0
  have hW' := hW
  obtain ⟨p, q, hA0, hV, rfl, hfz, hnd⟩ := hW
  have hA : DataW.TrodAll enc Try.prog W 0 (fun _ => true) true Try.f6.params.toList args.toList ds p := hA0
  rw [Try.params6] at hA hval
  obtain ⟨v0, vs0, d0, ds0, p0, q0, hargs, rfl, rfl, h0, r0⟩ := trodAll_cons hA
  obtain ⟨v1, vs1, d1, ds1, p1, q1, rfl, rfl, rfl, h1, r1⟩ := trodAll_cons r0
  obtain ⟨v2, vs2, d2, ds2, p2, q2, rfl, rfl, rfl, h2, r2⟩ := trodAll_cons r1
  obtain ⟨rfl, rfl, rfl⟩ := trodAll_nil r2
  obtain rfl : args = #[v0, v1, v2] := by cases args; simp_all
  obtain ⟨rfl, rfl⟩ := trodVars_none hV
  have k0 := h0
  have k1 := h1
  have k2 := h2
  have lt0 : ∀ x ∈ p0, x.block < W.heap.size := by obtain ⟨m, hm⟩ := k0; exact DataW.trod_lt m _ _ _ hm
  have lt1 : ∀ x ∈ p1, x.block < W.heap.size := by obtain ⟨m, hm⟩ := k1; exact DataW.trod_lt m _ _ _ hm
  have lt2 : ∀ x ∈ p2, x.block < W.heap.size := by obtain ⟨m, hm⟩ := k2; exact DataW.trod_lt m _ _ _ hm
  obtain ⟨B, C, hP⟩ := prog_is (hval 0 31 v0 rfl rfl) h0
  obtain ⟨I, hI⟩ := ins_is (hval 1 33 v1 rfl rfl) h1
  obtain ⟨a2, rfl, -, -, -⟩ := open_int Try.underlying3 (hval 2 3 v2 rfl rfl) h2
  clear hA0 hval0
  refine (walk v0 B C v1 I a2 W hP hI).mono fun e W' ⟨he, bel⟩ => ?_
  subst he
  exact ⟨_, rfl, _, _, _, [], _, [], hW', trodAll_mk1 (shut_bool Try.underlying4 _),
    (trodAll_cons_mk (Below.trod laidOut (by kernel_rfl) (of_decide_eq_true (by kernel_rfl)) k0 bel lt0) (trodAll_cons_mk (Below.trod laidOut (by kernel_rfl) (of_decide_eq_true (by kernel_rfl)) k1 bel lt1) (trodAll_cons_mk (Below.trod laidOut (by kernel_rfl) (of_decide_eq_true (by kernel_rfl)) k2 bel lt2) trodAll_mk0))), rfl, bel.frame _, fun h => by cases h⟩

theorem over : Rows.runRunsRow.holds Try.pinned (OpenSpec.ofChange Rows.runRunsSpec) :=
  OpenClaim.holds_of_wide 6 Try.f6 rfl rfl rfl rfl rfl rfl rfl ⟨rfl, rfl, rfl, rfl, rfl⟩ rfl rfl rfl rfl rfl (by kernel_rfl) Try.func6 (by kernel_rfl)
    (of_decide_eq_true (by kernel_rfl)) (by unfold Func.isWrapper; first | (rw [if_pos (by decide +kernel)]; kernel_rfl) | (rw [if_neg (by decide +kernel)]; exact ⟨rfl, rfl⟩))
    (fun os started H enc _ => lifted os started H enc)

end Go.Proofs.Ytolhnlbgohobkaa.runRuns
namespace Go.Proofs.Ytolhnlbgohobkaa
theorem runRuns_holds : Rows.RunRunsSaid := runRuns.over
#print axioms runRuns_holds
end Go.Proofs.Ytolhnlbgohobkaa
