/- For every program, such as may not be among them, what the program tells of what may not be in one place, or that it may not be, is what the document's chapter on what is near says. No condition. -/
import Derived.Test.YthhbekcmbdllaaaFormOpen
import Derived.Test.YthhbekcmbdllaaaNearOwn
import Derived.Test.YthhbekcmbdllaaaNearOf
import Derived.Test.YthhbekcmbdllaaaLiveSame
import Derived.ShutString
namespace Go.Proofs.Ythhbekcmbdllaaa.nearTells
open Go.ChangeShapes Go.WideShapes Go.ChangeAt Go.RowKit
open Go.Proofs.Ythhbekcmbdllaaa.form (LIns ProgIs prog_is refMay refMayB over_alloc step_below step_cell near_yes near_no OwnNear NearAns MatIs NearMat of5 same4 sizesB sizes_of all_insOk progV Held)
set_option linter.unusedVariables false

theorem own : ownKnob Try.prog.godebug = none := by kernel_rfl
theorem laidOut : laidOutB Try.prog = true := by kernel_rfl

theorem walk_no (v : Value) (B : List Bool) (C : List LIns) (w : World) (h : ProgIs w v B C) (hm : refMayB B C = false) :
    Calls Try.prog 9 #[v] w fun e w' => e = .returned (.bool true) ∧ Below w.heap.size w w' := by
  have HM : Hid (refMayB B C = false) := hm
  clear hm
  have h0 := h
  obtain ⟨⟨a0, c0, a1, c1, rfl, -⟩, -, -, -⟩ := h0
  have HP : Hid (ProgIs w (.agg #[.slice a0 B.length c0, .slice a1 C.length c1]) B C) := h
  clear h
  go_enter Try.func9, Try.ntmps9
  go_wp2_with (first
    | (go_at_call 24; refine (near_no _ B C _ (HP.out.later ?_) HM.out).mono ?_; (exact (Below.refl _ _).alloc (Nat.le_refl _) _); rintro e w1 ⟨rfl, hb1⟩; have p0 : w1.cell? ⟨w.heap.size, 0, none⟩ = some (.slice a0 B.length c0) := step_cell hb1 (by simp [go_sem]); have p1 : w1.cell? ⟨w.heap.size, 1, none⟩ = some (.slice a1 C.length c1) := step_cell hb1 (by simp [go_sem]); have HB : Hid (Below w.heap.size w w1) := over_alloc hb1; clear hb1)
    | (go_at_call 16; refine (refMay _ B C _ (HP.out.later HB.out)).mono ?_; rw [HM.out]; rintro e w2 ⟨rfl, hb2⟩; have HB2 : Hid (Below w.heap.size w w2) := step_below hb2 HB.out; clear hb2))
  go_ret
  exact ⟨rfl, HB2.out⟩

set_option maxRecDepth 100000 in
theorem walk_yes (b0 o0 c0 b1 o1 c1 : Nat) (B : List Bool) (C : List LIns) (w : World) (h : Held w b0 o0 b1 o1 B C) (hn : ∀ i, i < C.length → 0 ≤ (C.getD i .zero).n ∧ (C.getD i .zero).n < 4294967296) (hm : refMayB B C = true) :
    Calls Try.prog 9 #[progV b0 o0 B.length c0 b1 o1 C.length c1] w fun e w' => e = .returned (.bool true) ∧ Below w.heap.size w w' := by
  have hs : sizesB B C = true := by unfold refMayB at hm; simp only [Bool.and_eq_true] at hm; exact hm.1
  obtain ⟨s1, s2, s3, s4⟩ := sizes_of hs
  have HOWN : Hid (∀ wx : World, Below w.heap.size w wx → Calls Try.prog 24 #[progV b0 o0 B.length c0 b1 o1 C.length c1] wx fun e w' => OwnNear B.length C e w' ∧ Below wx.heap.size wx w') := fun wx hb => near_yes b0 o0 c0 b1 o1 c1 B C wx (h.later hb) hn hm
  have HREF : Hid (∀ wx : World, Below w.heap.size w wx → Calls Try.prog 25 #[progV b0 o0 B.length c0 b1 o1 C.length c1] wx fun e w' => NearAns B.length C e w' ∧ Below wx.heap.size wx w') := fun wx hb => of5 b0 o0 c0 b1 o1 c1 B C wx s2 s4 s3 (h.later hb) (all_insOk hm hn)
  have HMAY : Hid (∀ wx : World, Below w.heap.size w wx → Calls Try.prog 16 #[progV b0 o0 B.length c0 b1 o1 C.length c1] wx fun e w' => e = .returned (.bool true) ∧ Below wx.heap.size wx w') := fun wx hb => by
    have := refMay (progV b0 o0 B.length c0 b1 o1 C.length c1) B C wx ⟨⟨_, _, _, _, rfl, fun _ _ => ⟨b0, o0, b1, o1, rfl, rfl, h.later hb⟩⟩, by omega, by omega, hn⟩
    rwa [hm] at this
  clear h hn hm hs
  unfold progV
  go_enter Try.func9, Try.ntmps9
  go_wp2_with (first
    | (go_at_call 24; refine (HOWN.out _ ?_).mono ?_; (exact (Below.refl _ _).alloc (Nat.le_refl _) _); rintro e w1 ⟨⟨gn, L1, rfl, hF1, hT1⟩, hb1⟩; have hM1 := hF1.mat s1 (by omega) s2 (cap := B.length); have hN1 := hT1.truth; obtain ⟨R1, hR1⟩ : ∃ R1, R1 = (List.range B.length).map (Go.Proofs.Ythhbekcmbdllaaa.form.rowF B.length L1) := ⟨_, rfl⟩; rw [← hR1] at hM1 hN1; obtain ⟨v1, hv1⟩ : ∃ v1, v1 = Value.slice (some ⟨gn, 0, none⟩) B.length B.length := ⟨_, rfl⟩; rw [← hv1] at hM1; have p0 : w1.cell? ⟨w.heap.size, 0, none⟩ = some (.slice (some ⟨b0, o0, none⟩) B.length c0) := step_cell hb1 (by simp [go_sem]); have p1 : w1.cell? ⟨w.heap.size, 1, none⟩ = some (.slice (some ⟨b1, o1, none⟩) C.length c1) := step_cell hb1 (by simp [go_sem]); have HB : Hid (Below w.heap.size w w1) := over_alloc hb1; have HM1 : Hid (MatIs w1 v1 R1) := hM1; have HN1 : Hid (NearMat B.length C R1) := hN1; clear hb1 hM1 hN1 hF1 hT1 hR1; rw [← hv1]; clear hv1)
    | (go_at_call 16; refine (HMAY.out _ HB.out).mono ?_; rintro e w2 ⟨rfl, hb2⟩; have q0 := step_cell hb2 p0; have q1 := step_cell hb2 p1; have HB2 : Hid (Below w.heap.size w w2) := step_below hb2 HB.out; have HM2 : Hid (MatIs w2 v1 R1) := HM1.out.later hb2; clear hb2 p0 p1)
    | (go_at_call 25; refine (HREF.out _ HB2.out).mono ?_; rintro e w3 ⟨⟨v2, R2, rfl, hM2, hN2⟩, hb3⟩; have hRR := hN2.only HN1.out; subst hRR; have HM3 : Hid (MatIs w3 v1 R2) := HM2.out.later hb3; have HM4 : Hid (MatIs w3 v2 R2) := hM2; have HB3 : Hid (Below w.heap.size w w3) := step_below hb3 HB2.out; clear hb3 hN2 hM2)
    | (go_at_call 22; refine (same4 _ _ R2 _ HM3.out HM4.out).mono ?_; rintro e w4 ⟨rfl, hb4⟩; have HB4 : Hid (Below w.heap.size w w4) := step_below hb4 HB3.out; clear hb4))
  go_ret
  exact ⟨rfl, HB4.out⟩

theorem walk (v : Value) (B : List Bool) (C : List LIns) (w : World) (h : ProgIs w v B C) :
    Calls Try.prog 9 #[v] w fun e w' => e = .returned (.bool true) ∧ Below w.heap.size w w' := by
  cases hm : refMayB B C with
  | false => exact walk_no v B C w h hm
  | true =>
    have hs : sizesB B C = true := by unfold refMayB at hm; simp only [Bool.and_eq_true] at hm; exact hm.1
    obtain ⟨s1, s2, s3, s4⟩ := sizes_of hs
    obtain ⟨⟨a0, c0, a1, c1, rfl, hh⟩, l0, l1, hn⟩ := h
    obtain ⟨b0, o0, b1, o1, rfl, rfl, hH⟩ := hh s1 s3
    exact walk_yes b0 o0 c0 b1 o1 c1 B C w hH hn hm

set_option maxRecDepth 100000 in
theorem lifted (os : Os) (started : os.Started) (H : Type) (enc : TypeId × Value → H) :
    ReturnsInHanded {} Try.checked os 9 .any (Rows.nearTellsSpec.pre6 enc Try.prog Try.f9 Rows.nearTellsRow.domain false) (Rows.nearTellsSpec.post enc Try.prog Try.f9 false true false false) := by
  refine returnsInHanded_of_change (C := Try.checked) own started (by kernel_rfl) Try.func9
    (ChangeSpec.witness6 (enc := enc) (C := Try.checked) false ⟨#[], #[.agg #[.slice none 0 0, .slice none 0 0]], []⟩ 8 (by kernel_rfl) (by kernel_rfl) (by kernel_rfl) (by kernel_rfl)) ?_
  intro W base args ds gs before hval0 hW hcnd _
  have hval : ∀ (j : Nat) t v, Try.f9.params[j]? = some t → args[j]? = some v → Value.okWide Try.prog W .any base t v := hval0
  have hW' := hW
  obtain ⟨p, q, hA0, hV, rfl, hfz, hnd⟩ := hW
  have hA : DataW.TrodAll enc Try.prog W 0 (fun _ => true) true Try.f9.params.toList args.toList ds p := hA0
  rw [Try.params9] at hA hval
  obtain ⟨v0, vs0, d0, ds0, p0, q0, hargs, rfl, rfl, h0, r0⟩ := trodAll_cons hA
  obtain ⟨rfl, rfl, rfl⟩ := trodAll_nil r0
  obtain rfl : args = #[v0] := by cases args; simp_all
  obtain ⟨rfl, rfl⟩ := trodVars_none hV
  have k0 := h0
  have lt0 : ∀ x ∈ p0, x.block < W.heap.size := by obtain ⟨m, hm⟩ := k0; exact DataW.trod_lt m _ _ _ hm
  obtain ⟨B, C, hP⟩ := prog_is (hval 0 31 v0 rfl rfl) h0
  clear hA0 hval0
  refine (walk v0 B C W hP).mono fun e W' ⟨he, bel⟩ => ?_
  subst he
  exact ⟨_, rfl, _, _, _, [], _, [], hW', trodAll_mk1 (shut_bool Try.underlying4 _), (trodAll_cons_mk (Below.trod laidOut (by kernel_rfl) (of_decide_eq_true (by kernel_rfl)) k0 bel lt0) trodAll_mk0), rfl, bel.frame _, fun h => by cases h⟩

theorem over : Rows.nearTellsRow.holds Try.pinned (OpenSpec.ofChange Rows.nearTellsSpec) :=
  OpenClaim.holds_of_wide 9 Try.f9 rfl rfl rfl rfl rfl rfl rfl ⟨rfl, rfl, rfl, rfl, rfl⟩ rfl rfl rfl rfl rfl (by kernel_rfl) Try.func9 (by kernel_rfl)
    (of_decide_eq_true (by kernel_rfl)) (by unfold Func.isWrapper; first | (rw [if_pos (by decide +kernel)]; kernel_rfl) | (rw [if_neg (by decide +kernel)]; exact ⟨rfl, rfl⟩))
    (fun os started H enc _ => lifted os started H enc)

end Go.Proofs.Ythhbekcmbdllaaa.nearTells
namespace Go.Proofs.Ythhbekcmbdllaaa
theorem nearTells_holds : Rows.NearTellsSaid := nearTells.over
#print axioms nearTells_holds
end Go.Proofs.Ythhbekcmbdllaaa
