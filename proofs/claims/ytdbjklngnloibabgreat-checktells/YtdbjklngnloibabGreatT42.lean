/- For every program, target and places, such as may not be among them, what the program tells of whether they are taken is what the document's chapter on what is known says. No condition. -/
import Derived.Test.YtdbjklngnloibabGreatRows
import Derived.ShutString
import Derived.Test.YtdbjklngnloibabGreatT37
import Derived.Test.YtdbjklngnloibabGreatT41
import Derived.Test.YtdbjklngnloibabGreatT34

namespace Go.Proofs.YtdbjklngnloibabGreat.form
open Go.RowKit Go.Proofs.YtdbjklngnloibabGreat.num
set_option linter.unusedVariables false

theorem ofSpec8 {b0 o0 c0 b1 o1 c1 : Nat} {B : List Bool} {C : List LIns} {s slots : Nat} {R : List LRow} {w : World} (h : Held w b0 o0 b1 o1 B C) (hmay : placeMayB B C s slots R = true) : OfSpec w b0 o0 c0 b1 o1 c1 B C s slots := by
  intro wx hb
  have hm2 := hmay
  unfold placeMayB at hm2
  simp only [Bool.and_eq_true, Bool.not_eq_true', decide_eq_true_eq, decide_eq_false_iff_not, List.all_eq_true, List.mem_range] at hm2
  obtain ⟨⟨⟨⟨⟨h1, h2⟩, h3⟩, h4⟩, h5⟩, h6⟩ := hm2
  have hs := target_of h2
  have hsz : sizesB B C = true := by unfold refMayB at h1; simp only [Bool.and_eq_true] at h1; exact h1.1
  obtain ⟨s1, s2, s3, s4⟩ := sizes_of hsz
  exact of8 b0 o0 c0 b1 o1 c1 B C s slots wx (h.later hb) s1 s2 s4 (by omega) (by omega) (by omega) (by omega)

/-- Whether places are taken, for every program, target and places. -/
theorem takes8 (pv lv : Value) (B : List Bool) (C : List LIns) (s slots : Int) (R : List LRow) (w : World) (hp : ProgIs w pv B C) (hl : PlacedIs w lv slots R) :
    Calls Tryz.prog 6 #[pv, targetV s, lv] w fun e w' => TakesAns B C s slots R e ∧ Below w.heap.size w w' := by
  rcases Bool.eq_false_or_eq_true (placeMayB B C s slots R) with hmay | hmay
  case inr =>
    refine (takes8_no pv lv B C s slots R w hp hl hmay).mono ?_
    rintro e w' ⟨rfl, hb⟩
    exact ⟨⟨false, rfl, ⟨fun h => absurd h (by simp), fun h => absurd h.1 (by rw [hmay]; simp)⟩⟩, hb⟩
  have hm2 := hmay
  unfold placeMayB at hm2
  simp only [Bool.and_eq_true, Bool.not_eq_true', decide_eq_true_eq, decide_eq_false_iff_not, List.all_eq_true, List.mem_range] at hm2
  obtain ⟨⟨⟨⟨⟨h1, h2⟩, h3⟩, h4⟩, h5⟩, h6⟩ := hm2
  have hs := target_of h2
  have hsz : sizesB B C = true := by unfold refMayB at h1; simp only [Bool.and_eq_true] at h1; exact h1.1
  obtain ⟨s1, s2, s3, s4⟩ := sizes_of hsz
  obtain ⟨⟨a0, c0, a1, c1, rfl, hh⟩, l0, l1, hn⟩ := hp
  obtain ⟨b0, o0, b1, o1, rfl, rfl, hH⟩ := hh s1 s3
  obtain ⟨ao, cap, rfl, hRl, hrr⟩ := hl
  obtain ⟨b2, o2, rfl, hr⟩ := hrr (by omega)
  obtain ⟨s', rfl⟩ := Int.eq_ofNat_of_zero_le (show 0 ≤ s by omega)
  obtain ⟨slots', rfl⟩ := Int.eq_ofNat_of_zero_le (show 0 ≤ slots by omega)
  exact takes8_yes b0 o0 c0 b1 o1 c1 b2 o2 cap B C s' slots' R w hH hr hn hRl hmay (ofSpec8 hH hmay)

end Go.Proofs.YtdbjklngnloibabGreat.form

/- loanbooklaw.CheckTells, out of what the program's own check.Takes answers. -/
namespace Go.Proofs.YtdbjklngnloibabGreat.checkTells
open Go.ChangeShapes Go.WideShapes Go.ChangeAt Go.RowKit
open Go.Proofs.YtdbjklngnloibabGreat.form
set_option linter.unusedVariables false

theorem own : ownKnob Tryz.prog.godebug = none := by kernel_rfl
theorem laidOut : laidOutB Tryz.prog = true := by kernel_rfl

set_option maxRecDepth 100000 in
theorem walk (takesO : TakesSpec) (pv lv : Value) (B : List Bool) (C : List LIns) (s slots : Int) (R : List LRow) (w : World) (hp : ProgIs w pv B C) (hl : PlacedIs w lv slots R) (hR : RowsOk R) :
    Calls Tryz.prog 3 #[pv, targetV s, lv] w fun e w' => e = .returned (.bool true) ∧ Below w.heap.size w w' := by
  have HTO : Hid TakesSpec := takesO
  have HRO : Hid (RowsOk R) := hR
  have h0 := hp
  obtain ⟨⟨a0, c0, a1, c1, rfl, -⟩, -, -, -⟩ := h0
  have h1 := hl
  obtain ⟨ao, cap, rfl, -, -⟩ := h1
  have HP : Hid (ProgIs w (.agg #[.slice a0 B.length c0, .slice a1 C.length c1]) B C) := hp
  have HL : Hid (PlacedIs w (.agg #[.int .i64 slots, .slice ao R.length cap]) slots R) := hl
  have HW : Hid (∀ o1 o2 o3 : Obj, Below w.heap.size w (((w.alloc o1).alloc o2).alloc o3)) := fun o1 o2 o3 => (((Below.refl _ _).alloc (Nat.le_refl _) _).alloc (by simp) _).alloc (by simp; omega) _
  clear hp hl takesO hR
  unfold targetV
  go_enter Tryz.func3, Tryz.ntmps3
  go_wp2_with fail
  go_at_call 5
  refine (HTO.out _ _ B C s slots R _ (HP.out.later (HW.out _ _ _)) (HL.out.later (HW.out _ _ _)) HRO.out).mono ?_
  rintro e w1 ⟨⟨b, rfl, hb⟩, hb1⟩
  have HB : Hid (b = true ↔ TakenP B C s slots R) := hb
  have y0 : w1.cell? ⟨w.heap.size, 0, none⟩ = some (.slice a0 B.length c0) := step_cell hb1 (by simp [go_sem])
  have y1 : w1.cell? ⟨w.heap.size, 1, none⟩ = some (.slice a1 C.length c1) := step_cell hb1 (by simp [go_sem])
  have y2 : w1.cell? ⟨w.heap.size + 1, 0, none⟩ = some (.int .i64 s) := step_cell hb1 (by simp [go_sem])
  have y3 : w1.cell? ⟨w.heap.size + 1 + 1, 0, none⟩ = some (.int .i64 slots) := step_cell hb1 (by simp [go_sem])
  have y4 : w1.cell? ⟨w.heap.size + 1 + 1, 1, none⟩ = some (.slice ao R.length cap) := step_cell hb1 (by simp [go_sem])
  have HB1 : Hid (Below w.heap.size w w1) := step_below hb1 (HW.out _ _ _)
  clear hb hb1
  go_wp2_with fail
  go_at_call 6
  refine (takes8 _ _ B C s slots R _ (HP.out.later HB1.out) (HL.out.later HB1.out)).mono ?_
  rintro e w2 ⟨⟨b', rfl, hb'⟩, hb2⟩
  obtain rfl := takes_one HB.out hb'
  clear hb'
  go_wp2
  go_ret
  exact ⟨ret_bool (by simp), step_below hb2 HB1.out⟩

set_option maxRecDepth 100000 in
theorem lifted (takesO : TakesSpec) (os : Os) (started : os.Started) (H : Type) (enc : TypeId × Value → H) :
    ReturnsInHanded {} Tryz.checked os 3 .any (Rows.checkTellsSpec.pre6 enc Tryz.prog Tryz.f3 Rows.checkTellsRow.domain false) (Rows.checkTellsSpec.post enc Tryz.prog Tryz.f3 false true false false) := by
  refine returnsInHanded_of_change (C := Tryz.checked) own started (by kernel_rfl) Tryz.func3
    (ChangeSpec.witness6 (enc := enc) (C := Tryz.checked) false ⟨#[], #[.agg #[.slice none 0 0, .slice none 0 0], .agg #[.int .i64 0], .agg #[.int .i64 0, .slice none 0 0]], []⟩ 8 (by kernel_rfl) (by kernel_rfl) (by kernel_rfl) (by kernel_rfl)) ?_
  intro W base args ds gs before hval0 hW hcnd _
  have hval : ∀ (j : Nat) t v, Tryz.f3.params[j]? = some t → args[j]? = some v → Value.okWide Tryz.prog W .any base t v := hval0
  have hW' := hW
  obtain ⟨p, q, hA0, hV, rfl, hfz, hnd⟩ := hW
  have hA : DataW.TrodAll enc Tryz.prog W 0 (fun _ => true) true Tryz.f3.params.toList args.toList ds p := hA0
  rw [Tryz.params3] at hA hval
  obtain ⟨v0, vs0, d0, ds0, p0, q0, hargs, rfl, rfl, h0, r0⟩ := trodAll_cons hA
  obtain ⟨v1, vs1, d1, ds1, p1, q1, rfl, rfl, rfl, h1, r1⟩ := trodAll_cons r0
  obtain ⟨v2, vs2, d2, ds2, p2, q2, rfl, rfl, rfl, h2, r2⟩ := trodAll_cons r1
  obtain ⟨rfl, rfl, rfl⟩ := trodAll_nil r2
  obtain rfl : args = #[v0, v1, v2] := by cases args; simp_all
  obtain ⟨rfl, rfl⟩ := trodVars_none hV
  have k0 := h0
  have k1 := h1
  have k2 := h2
  have lt0 : ∀ x ∈ p0, x.block < W.heap.size := by obtain ⟨m, hm⟩ := k0; exact DataW.trod_lt m _ _ _ hm
  have lt1 : ∀ x ∈ p1, x.block < W.heap.size := by obtain ⟨m, hm⟩ := k1; exact DataW.trod_lt m _ _ _ hm
  have lt2 : ∀ x ∈ p2, x.block < W.heap.size := by obtain ⟨m, hm⟩ := k2; exact DataW.trod_lt m _ _ _ hm
  obtain ⟨B, C, hP⟩ := prog_is (hval 0 25 v0 rfl rfl) h0
  obtain ⟨s, rfl, -, -⟩ := target_is (hval 1 27 v1 rfl rfl) h1
  obtain ⟨slots, R, hL, hR, -, -⟩ := placed_is (hval 2 30 v2 rfl rfl) h2
  clear hA0 hval0
  refine (walk takesO v0 v2 B C s slots R W hP hL hR).mono fun e W' ⟨he, bel⟩ => ?_
  subst he
  exact ⟨_, rfl, _, _, _, [], _, [], hW', trodAll_mk1 (shut_bool Tryz.underlying4 _),
    (trodAll_cons_mk (Below.trod laidOut (by kernel_rfl) (of_decide_eq_true (by kernel_rfl)) k0 bel lt0) (trodAll_cons_mk (Below.trod laidOut (by kernel_rfl) (of_decide_eq_true (by kernel_rfl)) k1 bel lt1) (trodAll_cons_mk (Below.trod laidOut (by kernel_rfl) (of_decide_eq_true (by kernel_rfl)) k2 bel lt2) trodAll_mk0))), rfl, bel.frame _, fun h => by cases h⟩

theorem over (takesO : TakesSpec) : Rows.checkTellsRow.holds Tryz.pinned (OpenSpec.ofChange Rows.checkTellsSpec) :=
  OpenClaim.holds_of_wide 3 Tryz.f3 rfl rfl rfl rfl rfl rfl rfl ⟨rfl, rfl, rfl, rfl, rfl⟩ rfl rfl rfl rfl rfl (by kernel_rfl) Tryz.func3 (by kernel_rfl)
    (of_decide_eq_true (by kernel_rfl)) (by unfold Func.isWrapper; first | (rw [if_pos (by decide +kernel)]; kernel_rfl) | (rw [if_neg (by decide +kernel)]; exact ⟨rfl, rfl⟩))
    (fun os started H enc _ => lifted takesO os started H enc)

end Go.Proofs.YtdbjklngnloibabGreat.checkTells

namespace Go.Proofs.YtdbjklngnloibabGreat

theorem checkTells_holds : Rows.CheckTellsSaid := checkTells.over form.takesO
#print axioms checkTells_holds

end Go.Proofs.YtdbjklngnloibabGreat
