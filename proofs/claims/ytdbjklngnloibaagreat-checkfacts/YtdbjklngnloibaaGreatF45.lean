/- loanbooklaw.CheckFacts, out of what the program's own check.Facts answers. -/
import Derived.Test.YtdbjklngnloibaaGreatRows
import Derived.ShutString
import Derived.Test.YtdbjklngnloibaaGreatF36
import Derived.Test.YtdbjklngnloibaaGreatF44
import Derived.Test.YtdbjklngnloibaaGreatF11

namespace Go.Proofs.YtdbjklngnloibaaGreat.checkFacts
open Go.ChangeShapes Go.WideShapes Go.ChangeAt Go.RowKit
open Go.Proofs.YtdbjklngnloibaaGreat.form
set_option linter.unusedVariables false

theorem own : ownKnob Tryz.prog.godebug = none := by kernel_rfl
theorem laidOut : laidOutB Tryz.prog = true := by kernel_rfl

/-- What check.Facts must answer. -/
def FactsSpec : Prop := ∀ (pv lv : Value) (B : List Bool) (C : List LIns) (s slots : Int) (R : List LRow) (w : World), ProgIs w pv B C → PlacedIs w lv slots R → RowsOk R →
  Calls Tryz.prog 4 #[pv, targetV s, lv] w fun e w' => ((placeMayB B C s slots R = false ∧ ∃ fo fc, e = .returned (.tuple #[.slice fo 0 fc, .int .i64 2])) ∨ (placeMayB B C s slots R = true ∧ ∃ fv Rs, e = .returned (.tuple #[fv, .int .i64 0]) ∧ FMatIs w' fv Rs ∧ FactsMat B C s slots R Rs)) ∧ Below w.heap.size w w'

theorem FMatIs.later {w w' : World} {v : Value} {R : List (List LFact)} (h : FMatIs w v R) (hb : Below w.heap.size w w') : FMatIs w' v R := by
  obtain ⟨ao, cap, e, h1, h2⟩ := h
  refine ⟨ao, cap, e, h1, fun hx => ?_⟩
  obtain ⟨b, o, e1, e2, e3⟩ := h2 hx
  refine ⟨b, o, e1, Nat.lt_of_lt_of_le e2 hb.size, fun k hk => ?_⟩
  obtain ⟨rv, c0, ro, rc, er, r1, r2⟩ := e3 k hk
  refine ⟨rv, step_cell hb c0, ro, rc, er, r1, fun hy => ?_⟩
  obtain ⟨bb, oo, f1, f2, f3⟩ := r2 hy
  refine ⟨bb, oo, f1, Nat.lt_of_lt_of_le f2 hb.size, fun j hj => ?_⟩
  obtain ⟨g0, g1, g2, g3, g4⟩ := f3 j hj
  exact ⟨step_cell hb g0, step_cell hb g1, step_cell hb g2, step_cell hb g3, step_cell hb g4⟩

set_option maxRecDepth 100000 in
theorem walk (factsO : FactsSpec) (pv lv : Value) (B : List Bool) (C : List LIns) (s slots : Int) (R : List LRow) (w : World) (hp : ProgIs w pv B C) (hl : PlacedIs w lv slots R) (hR : RowsOk R) :
    Calls Tryz.prog 3 #[pv, targetV s, lv] w fun e w' => e = .returned (.bool true) ∧ Below w.heap.size w w' := by
  have HTO : Hid FactsSpec := factsO
  have HRO : Hid (RowsOk R) := hR
  have h0 := hp
  obtain ⟨⟨a0, c0, a1, c1, rfl, hh⟩, -, -, hnum⟩ := h0
  have h1 := hl
  obtain ⟨ao, cap, rfl, hRl, hrr⟩ := h1
  have HH : Hid _ := hh
  have HRR : Hid _ := hrr
  have HN : Hid _ := hnum
  have HP : Hid (ProgIs w (.agg #[.slice a0 B.length c0, .slice a1 C.length c1]) B C) := hp
  have HL : Hid (PlacedIs w (.agg #[.int .i64 slots, .slice ao R.length cap]) slots R) := hl
  have HW : Hid (∀ o1 o2 o3 : Obj, Below w.heap.size w (((w.alloc o1).alloc o2).alloc o3)) := fun o1 o2 o3 => (((Below.refl _ _).alloc (Nat.le_refl _) _).alloc (by simp) _).alloc (by simp; omega) _
  clear hp hl factsO hR hh hrr hnum
  unfold targetV
  go_enter Tryz.func3, Tryz.ntmps3
  go_wp2_with fail
  go_at_call 4
  refine (HTO.out _ _ B C s slots R _ (HP.out.later (HW.out _ _ _)) (HL.out.later (HW.out _ _ _)) HRO.out).mono ?_
  rintro e w1 ⟨hans, hb1⟩
  have y0 : w1.cell? ⟨w.heap.size, 0, none⟩ = some (.slice a0 B.length c0) := step_cell hb1 (by simp [go_sem])
  have y1 : w1.cell? ⟨w.heap.size, 1, none⟩ = some (.slice a1 C.length c1) := step_cell hb1 (by simp [go_sem])
  have y2 : w1.cell? ⟨w.heap.size + 1, 0, none⟩ = some (.int .i64 s) := step_cell hb1 (by simp [go_sem])
  have y3 : w1.cell? ⟨w.heap.size + 1 + 1, 0, none⟩ = some (.int .i64 slots) := step_cell hb1 (by simp [go_sem])
  have y4 : w1.cell? ⟨w.heap.size + 1 + 1, 1, none⟩ = some (.slice ao R.length cap) := step_cell hb1 (by simp [go_sem])
  have HB1 : Hid (Below w.heap.size w w1) := step_below hb1 (HW.out _ _ _)
  clear hb1
  rcases hans with ⟨hm, fo, fc, rfl⟩ | ⟨hm, fv, Rs, rfl, hfm, hft⟩
  · have HM : Hid (placeMayB B C s slots R = false) := hm
    clear hm
    go_wp2_with (go_at_call 5; refine (may6 _ _ B C s slots R _ (HP.out.later HB1.out) (HL.out.later HB1.out)).mono ?_; rw [HM.out]; rintro e w2 ⟨rfl, hb2⟩)
    go_ret
    exact ⟨rfl, step_below hb2 HB1.out⟩
  have HFM : Hid (FMatIs w1 fv Rs) := hfm
  have HFT : Hid (FactsMat B C s slots R Rs) := hft
  have HM : Hid (placeMayB B C s slots R = true) := hm
  have hm2 := hm
  unfold placeMayB at hm2
  simp only [Bool.and_eq_true, Bool.not_eq_true', decide_eq_true_eq, decide_eq_false_iff_not] at hm2
  obtain ⟨⟨⟨⟨⟨hmm, htg⟩, hs0⟩, hs1⟩, hlen⟩, -⟩ := hm2
  have hsz : sizesB B C = true := by unfold refMayB at hmm; simp only [Bool.and_eq_true] at hmm; exact hmm.1
  obtain ⟨z1, z2, z3, z4⟩ := sizes_of hsz
  obtain ⟨u1, u2, u3⟩ := target_of htg
  obtain ⟨b0, o0, b1, o1, rfl, rfl, hheld⟩ := HH.out z1 z3
  obtain ⟨b2, o2, rfl, hrows⟩ := HRR.out (by omega)
  obtain ⟨ns, rfl⟩ : ∃ ns : Nat, s = ns := Int.eq_ofNat_of_zero_le (by omega)
  obtain ⟨nl, rfl⟩ : ∃ nl : Nat, slots = nl := Int.eq_ofNat_of_zero_le (by omega)
  have HHE : Hid (Held w b0 o0 b1 o1 B C) := hheld
  have HRW : Hid (RowsHeld w b2 o2 R) := hrows
  obtain ⟨fo, fc, rfl, -, -⟩ := hfm
  clear hm hft hheld hrows hmm htg hs0 hs1 hlen hsz
  go_wp2_with fail
  go_at_call 5
  refine (may6 _ _ B C ns nl R _ (HP.out.later HB1.out) (HL.out.later HB1.out)).mono ?_
  rw [HM.out]
  rintro e w2 ⟨rfl, hb2⟩
  have y0 := step_cell hb2 y0
  have y1 := step_cell hb2 y1
  have y2 := step_cell hb2 y2
  have y3 := step_cell hb2 y3
  have y4 := step_cell hb2 y4
  have HB2 : Hid (Below w1.heap.size w1 w2) := hb2
  have HBW : Hid (Below w.heap.size w w2) := step_below hb2 HB1.out
  clear hb2
  go_wp2_with fail
  go_at_call 7
  refine (facts8 b0 o0 c0 b1 o1 c1 b2 o2 cap B C ns nl R _ (HHE.out.later HBW.out) (HRW.out.later HBW.out) HN.out hRl HM.out (ofSpec8 (HHE.out.later HBW.out) HM.out)).mono ?_
  rintro e w3 ⟨⟨v3, Rs3, rfl, hfm3, hft3⟩, hb3⟩
  obtain rfl := HFT.out.only hft3
  have HFM3 : Hid (FMatIs w3 v3 Rs) := hfm3
  obtain ⟨fo3, fc3, rfl, -, -⟩ := hfm3
  have HB3 : Hid (Below w2.heap.size w2 w3) := hb3
  clear hft3 hb3 y0 y1 y2 y3 y4
  go_wp2_with (go_at_call 6; refine (same8 _ _ Rs _ (FMatIs.later HFM.out (step_below HB3.out HB2.out)) HFM3.out).mono ?_; rintro e w4 ⟨rfl, hb4⟩)
  go_ret
  exact ⟨rfl, step_below hb4 (step_below HB3.out HBW.out)⟩

set_option maxRecDepth 100000 in
theorem lifted (factsO : FactsSpec) (os : Os) (started : os.Started) (H : Type) (enc : TypeId × Value → H) :
    ReturnsInHanded {} Tryz.checked os 3 .any (Rows.checkFactsSpec.pre6 enc Tryz.prog Tryz.f3 Rows.checkFactsRow.domain false) (Rows.checkFactsSpec.post enc Tryz.prog Tryz.f3 false true false false) := by
  refine returnsInHanded_of_change (C := Tryz.checked) own started (by kernel_rfl) Tryz.func3
    (ChangeSpec.witness6 (enc := enc) (C := Tryz.checked) false ⟨#[], #[.agg #[.slice none 0 0, .slice none 0 0], .agg #[.int .i64 0], .agg #[.int .i64 0, .slice none 0 0]], []⟩ 8 (by kernel_rfl) (by kernel_rfl) (by kernel_rfl) (by kernel_rfl)) ?_
  intro W base args ds gs before hval0 hW hcnd _
  have hval : ∀ (j : Nat) t v, Tryz.f3.params[j]? = some t → args[j]? = some v → Value.okWide Tryz.prog W .any base t v := hval0
  have hW' := hW
  obtain ⟨p, q, hA0, hV, rfl, hfz, hnd⟩ := hW
  have hA : DataW.TrodAll enc Tryz.prog W 0 (fun _ => true) true Tryz.f3.params.toList args.toList ds p := hA0
  rw [Tryz.params3] at hA hval
  obtain ⟨v0, vs0, d0, ds0, p0, q0, hargs, rfl, rfl, h0, r0⟩ := trodAll_cons hA
  obtain ⟨v1, vs1, d1, ds1, p1, q1, rfl, rfl, rfl, h1, r1⟩ := trodAll_cons r0
  obtain ⟨v2, vs2, d2, ds2, p2, q2, rfl, rfl, rfl, h2, r2⟩ := trodAll_cons r1
  obtain ⟨rfl, rfl, rfl⟩ := trodAll_nil r2
  obtain rfl : args = #[v0, v1, v2] := by cases args; simp_all
  obtain ⟨rfl, rfl⟩ := trodVars_none hV
  have k0 := h0
  have k1 := h1
  have k2 := h2
  have lt0 : ∀ x ∈ p0, x.block < W.heap.size := by obtain ⟨m, hm⟩ := k0; exact DataW.trod_lt m _ _ _ hm
  have lt1 : ∀ x ∈ p1, x.block < W.heap.size := by obtain ⟨m, hm⟩ := k1; exact DataW.trod_lt m _ _ _ hm
  have lt2 : ∀ x ∈ p2, x.block < W.heap.size := by obtain ⟨m, hm⟩ := k2; exact DataW.trod_lt m _ _ _ hm
  obtain ⟨B, C, hP⟩ := prog_is (hval 0 25 v0 rfl rfl) h0
  obtain ⟨s, rfl, -, -⟩ := target_is (hval 1 27 v1 rfl rfl) h1
  obtain ⟨slots, R, hL, hR, -, -⟩ := placed_is (hval 2 30 v2 rfl rfl) h2
  clear hA0 hval0
  refine (walk factsO v0 v2 B C s slots R W hP hL hR).mono fun e W' ⟨he, bel⟩ => ?_
  subst he
  exact ⟨_, rfl, _, _, _, [], _, [], hW', trodAll_mk1 (shut_bool Tryz.underlying4 _),
    (trodAll_cons_mk (Below.trod laidOut (by kernel_rfl) (of_decide_eq_true (by kernel_rfl)) k0 bel lt0) (trodAll_cons_mk (Below.trod laidOut (by kernel_rfl) (of_decide_eq_true (by kernel_rfl)) k1 bel lt1) (trodAll_cons_mk (Below.trod laidOut (by kernel_rfl) (of_decide_eq_true (by kernel_rfl)) k2 bel lt2) trodAll_mk0))), rfl, bel.frame _, fun h => by cases h⟩

theorem over (factsO : FactsSpec) : Rows.checkFactsRow.holds Tryz.pinned (OpenSpec.ofChange Rows.checkFactsSpec) :=
  OpenClaim.holds_of_wide 3 Tryz.f3 rfl rfl rfl rfl rfl rfl rfl ⟨rfl, rfl, rfl, rfl, rfl⟩ rfl rfl rfl rfl rfl (by kernel_rfl) Tryz.func3 (by kernel_rfl)
    (of_decide_eq_true (by kernel_rfl)) (by unfold Func.isWrapper; first | (rw [if_pos (by decide +kernel)]; kernel_rfl) | (rw [if_neg (by decide +kernel)]; exact ⟨rfl, rfl⟩))
    (fun os started H enc _ => lifted factsO os started H enc)

end Go.Proofs.YtdbjklngnloibaaGreat.checkFacts
