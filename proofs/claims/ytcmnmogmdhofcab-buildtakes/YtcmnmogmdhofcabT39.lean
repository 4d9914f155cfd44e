/- The document's function that holds places against others (loanbookref11.Same): of the same ones it answers yes. -/
import Derived.BigQuiet
import Derived.Deep.QuietTactic
import Derived.Test.YtcmnmogmdhofcabRows
import Derived.ShutString
import Derived.Test.YtcmnmogmdhofcabT02
import Derived.Test.YtcmnmogmdhofcabT10
import Derived.Test.YtcmnmogmdhofcabT09
import Derived.Test.YtcmnmogmdhofcabT38

namespace Go.Proofs.Ytcmnmogmdhofcab.form
open Go.RowKit
set_option linter.unusedVariables false
attribute [local go_sem ↓] Go.wp_at_zero Go.wp_at_succ

theorem neqMove (w : World) (a b c d n : Int) (x : Bool) : (binOp .neq 139 (.agg #[.int .i64 a, .int .i64 b, .int .i64 c, .int .i64 d, .bool x, .int .u32 n]) (.agg #[.int .i64 a, .int .i64 b, .int .i64 c, .int .i64 d, .bool x, .int .u32 n])).run Try.prog w = .ok (.bool false) w := by
  have hu := Try.underlying139
  have hu2 := Try.underlying34
  have h3 : Try.prog.underlying 3 = some (.int .i64) := Try.underlying3
  have h4 : Try.prog.underlying 4 = some .bool := Try.underlying4
  have h5 : Try.prog.underlying 69 = some (.int .u32) := Try.underlying69
  have hin : ∀ (p q : Int) (wx : World), (Op.equalIn 9999 34 (.agg #[.int .i64 p, .int .i64 q]) (.agg #[.int .i64 p, .int .i64 q])).run Try.prog wx = .ok true wx := by
    intro p q wx
    rw [run_equalIn_agg wx 9998 34 _ _ (by kernel_rfl) (by kernel_rfl)]
    simp [go_sem, Program.fieldsOf, hu2]
  rw [run_neq_struct, run_equalIn_agg w 9999 139 _ _ (by kernel_rfl) (by kernel_rfl)]
  simp [go_sem, Program.fieldsOf, hu, hin]

set_option maxRecDepth 100000 in
set_option maxHeartbeats 1000000 in
theorem same11m (va vb : Value) (l : List LMove) (w : World) (h1 : MovesIs w va l) (h2 : MovesIs w vb l) :
    Calls Try.prog 37 #[va, vb] w fun e w' => e = .returned (.bool true) ∧ Below w.heap.size w w' := by
  obtain ⟨ao, ca, rfl, hlR, hc1⟩ := h1
  obtain ⟨bo, cb, rfl, -, hc2⟩ := h2
  have HC1 : Hid _ := hc1
  have HC2 : Hid _ := hc2
  have z1 : (l.length : Int) ≤ 9223372036854775807 := by omega
  have q98 := neqMove
  have g98 : Try.prog.eqGuardType Try.prog.depth 139 = false := by kernel_rfl
  clear hc1 hc2
  go_enter Try.func37, Try.ntmps37
  go_wp2
  go_loopw [5] (fun t wr => ∃ k : Nat, k ≤ l.length ∧ t = .int .i64 k ∧ Below w.heap.size w wr) (fun t _ => l.length - (intOf t).toNat)
  case atStart => exact ⟨0, by omega, rfl, Below.refl _ _⟩
  case round =>
    obtain ⟨k, hk, rfl, hbel⟩ := hrel
    have HB : Hid (Below w.heap.size w wr) := hbel
    by_cases hlt : k < l.length
    case neg =>
      have y1 : ¬ (k : Int) < (l.length : Int) := by omega
      clear hbel
      go_wp2
      go_ret
      exact ⟨rfl, HB.out⟩
    have y1 : (k : Int) < (l.length : Int) := by omega
    have y0 : (0 : Int) ≤ (k : Int) := by omega
    obtain ⟨ba, oa, rfl, hba, hcell1⟩ := HC1.out (by omega)
    obtain ⟨bb, ob, rfl, hbb, hcell2⟩ := HC2.out (by omega)
    obtain ⟨d0, d1, d2, d3, d4, d5⟩ := hcell1 k hlt
    obtain ⟨e0, e1, e2, e3, e4, e5⟩ := hcell2 k hlt
    obtain ⟨m, hm⟩ : ∃ m, m = l.getD k .zero := ⟨_, rfl⟩
    rw [← hm] at d0 d1 d2 d3 d4 d5 e0 e1 e2 e3 e4 e5
    have d0 := step_cell hbel d0
    have d1 := step_cell hbel d1
    have d2 := step_cell hbel d2
    have d3 := step_cell hbel d3
    have d4 := step_cell hbel d4
    have d5 := step_cell hbel d5
    have e0 := step_cell hbel e0
    have e1 := step_cell hbel e1
    have e2 := step_cell hbel e2
    have e3 := step_cell hbel e3
    have e4 := step_cell hbel e4
    have e5 := step_cell hbel e5
    clear hm hcell1 hcell2 hbel
    go_wp2
    go_quiet (fail)
    go_wp2
    exact ⟨⟨k + 1, by omega, by go_num, below_drewN HB.out _⟩, by simp [intOf]; omega⟩

set_option maxRecDepth 100000 in
set_option maxHeartbeats 1000000 in
theorem same11 (va vb : Value) (slots : Int) (R : List LRow) (w : World) (h1 : PlacedIs w va slots R) (h2 : PlacedIs w vb slots R) :
    Calls Try.prog 14 #[va, vb] w fun e w' => e = .returned (.bool true) ∧ Below w.heap.size w w' := by
  obtain ⟨ao, ca, rfl, hlR, hc1⟩ := h1
  obtain ⟨bo, cb, rfl, -, hc2⟩ := h2
  have HC1 : Hid _ := hc1
  have HC2 : Hid _ := hc2
  have z1 : (R.length : Int) ≤ 9223372036854775807 := by omega
  have q98 := neqPlace
  have g98 : Try.prog.eqGuardType Try.prog.depth 34 = false := by kernel_rfl
  clear hc1 hc2
  have HW : Hid (∀ o1 o2 : Obj, Below w.heap.size w ((w.alloc o1).alloc o2)) := fun o1 o2 => ((Below.refl _ _).alloc (Nat.le_refl _) _).alloc (by simp) _
  go_enter Try.func14, Try.ntmps14
  go_wp2
  go_loopw [5] (fun t wr => ∃ k : Nat, k ≤ R.length ∧ t = .int .i64 k ∧ Below w.heap.size w wr ∧ wr.cell? ⟨w.heap.size, 1, none⟩ = some (.slice ao R.length ca) ∧ wr.cell? ⟨w.heap.size + 1, 1, none⟩ = some (.slice bo R.length cb)) (fun t _ => R.length - (intOf t).toNat)
  case atStart => exact ⟨0, by omega, rfl, HW.out _ _, by simp [go_sem], by simp [go_sem]⟩
  case round =>
    obtain ⟨k, hk, rfl, hbel, x1, x2⟩ := hrel
    have HB : Hid (Below w.heap.size w wr) := hbel
    have X1 : Hid (wr.cell? ⟨w.heap.size, 1, none⟩ = some (.slice ao R.length ca) ∧ wr.cell? ⟨w.heap.size + 1, 1, none⟩ = some (.slice bo R.length cb)) := ⟨x1, x2⟩
    by_cases hlt : k < R.length
    case neg =>
      have y1 : ¬ (k : Int) < (R.length : Int) := by omega
      clear hbel
      go_wp2
      go_ret
      exact ⟨rfl, HB.out⟩
    have y1 : (k : Int) < (R.length : Int) := by omega
    have y0 : (0 : Int) ≤ (k : Int) := by omega
    obtain ⟨ba, oa, rfl, hr1⟩ := HC1.out (by omega)
    obtain ⟨bb, ob, rfl, hr2⟩ := HC2.out (by omega)
    obtain ⟨d0, d1, d2, d3, d4, d5, vb1, va1, d6, d7, m0, m1⟩ := (hr1.later hbel).rows k hlt
    obtain ⟨e0, e1, e2, e3, e4, e5, vb2, va2, e6, e7, n0, n1⟩ := (hr2.later hbel).rows k hlt
    have lba := (hr1.later hbel).lt
    have lbb := (hr2.later hbel).lt
    have lbb2 : bb < wr.heap.size + 1 := by omega
    have hz2 : w.heap.size + 1 < wr.heap.size := World.block_lt_of_cell? wr _ x2
    have hz3 : w.heap.size + 1 < wr.heap.size + 1 := by omega
    obtain ⟨r, hr⟩ : ∃ r, r = R.getD k .zero := ⟨_, rfl⟩
    rw [← hr] at d0 d1 d2 d3 d4 d5 e0 e1 e2 e3 e4 e5 m0 m1 n0 n1
    have M0 : Hid (MovesIs wr vb1 r.before) := m0
    have M1 : Hid (MovesIs wr va1 r.after) := m1
    have N0 : Hid (MovesIs wr vb2 r.before) := n0
    have N1 : Hid (MovesIs wr va2 r.after) := n1
    obtain ⟨b1o, b1c, rfl, -, -⟩ := m0
    obtain ⟨a1o, a1c, rfl, -, -⟩ := m1
    obtain ⟨b2o, b2c, rfl, -, -⟩ := n0
    obtain ⟨a2o, a2c, rfl, -, -⟩ := n1
    have HG : Hid (∀ o1 o2 : Obj, Below wr.heap.size wr ((wr.alloc o1).alloc o2)) := fun o1 o2 => ((Below.refl _ _).alloc (Nat.le_refl _) _).alloc (by simp) _
    clear hr hbel hr1 hr2
    go_wp2_with fail
    go_at_call 37
    refine (same11m _ _ r.before _ (M0.out.later (HG.out _ _)) (N0.out.later (HG.out _ _))).mono ?_
    rintro e w1 ⟨rfl, hb1⟩
    have f7 : w1.cell? ⟨wr.heap.size, 7, none⟩ = some (.slice a1o r.after.length a1c) := step_cell hb1 (by simp [go_sem])
    have g7 : w1.cell? ⟨wr.heap.size + 1, 7, none⟩ = some (.slice a2o r.after.length a2c) := step_cell hb1 (by simp [go_sem])
    have HB1 : Hid (Below wr.heap.size wr w1) := step_below hb1 (HG.out _ _)
    clear hb1
    go_wp2_with (go_at_call 37; refine (same11m _ _ r.after _ (M1.out.later HB1.out) (N1.out.later HB1.out)).mono ?_; rintro e w2 ⟨rfl, hb2⟩)
    exact ⟨⟨k + 1, by omega, by go_num, step_below hb2 (step_below HB1.out HB.out), step_cell hb2 (step_cell HB1.out X1.out.1), step_cell hb2 (step_cell HB1.out X1.out.2)⟩, by simp [intOf]; omega⟩

end Go.Proofs.Ytcmnmogmdhofcab.form

/- loanbooklaw.BuildTakes, out of what the program's own build.Build answers. -/
namespace Go.Proofs.Ytcmnmogmdhofcab.buildTakes
open Go.ChangeShapes Go.WideShapes Go.ChangeAt Go.RowKit
open Go.Proofs.Ytcmnmogmdhofcab.form
set_option linter.unusedVariables false

theorem own : ownKnob Try.prog.godebug = none := by kernel_rfl
theorem laidOut : laidOutB Try.prog = true := by kernel_rfl

set_option maxRecDepth 100000 in
set_option maxHeartbeats 1000000 in
theorem walk {f : List Bool → List LIns → Int → Int × List LRow} (buildO : BuildSpec f) (hft : BuildTaken f) (pv : Value) (B : List Bool) (C : List LIns) (s : Int) (w : World) (hp : ProgIs w pv B C) :
    Calls Try.prog 4 #[pv, targetV s] w fun e w' => e = .returned (.bool true) ∧ Below w.heap.size w w' := by
  have HBO : Hid (BuildSpec f) := buildO
  have HTK : Hid (refMayB B C = true → targetB s = true → TakenP B C s (f B C s).1 (f B C s).2) := fun h1 h2 => (hft B C s hp.num h1 h2).1
  have h0 := hp
  obtain ⟨⟨a0, c0, a1, c1, rfl, -⟩, -, -, -⟩ := h0
  have HP : Hid (ProgIs w (.agg #[.slice a0 B.length c0, .slice a1 C.length c1]) B C) := hp
  have HW : Hid (∀ o1 o2 : Obj, Below w.heap.size w ((w.alloc o1).alloc o2)) := fun o1 o2 => ((Below.refl _ _).alloc (Nat.le_refl _) _).alloc (by simp) _
  clear hp buildO hft
  unfold targetV
  go_enter Try.func4, Try.ntmps4
  go_wp2_with fail
  go_at_call 12
  refine (HBO.out _ B C s _ (HP.out.later (HW.out _ _))).mono ?_
  rintro e w1 ⟨hans, hb1⟩
  have y0 : w1.cell? ⟨w.heap.size, 0, none⟩ = some (.slice a0 B.length c0) := step_cell hb1 (by simp [go_sem])
  have y1 : w1.cell? ⟨w.heap.size, 1, none⟩ = some (.slice a1 C.length c1) := step_cell hb1 (by simp [go_sem])
  have y2 : w1.cell? ⟨w.heap.size + 1, 0, none⟩ = some (.int .i64 s) := step_cell hb1 (by simp [go_sem])
  have hz1 : w.heap.size + 1 < w1.heap.size := by have := hb1.size; simp at this; omega
  have q1 : w.heap.size < w1.heap.size := by omega
  have HB1 : Hid (Below w.heap.size w w1) := step_below hb1 (HW.out _ _)
  have HA1 : Hid (∀ o1 : Obj, Below w1.heap.size w1 (w1.alloc o1)) := fun o1 => (Below.refl _ _).alloc (Nat.le_refl _) _
  clear hb1
  rcases hans with ⟨hm, lv, rfl, hl⟩ | ⟨hm, lv, rfl, hl⟩
  · have HL : Hid (PlacedIs w1 lv 0 []) := hl
    obtain ⟨lo, lc, rfl, -, -⟩ := hl
    rcases Bool.eq_false_or_eq_true (refMayB B C) with hr | hr
    · have ht : targetB s = false := by rw [hr] at hm; simpa using hm
      have HR : Hid (refMayB B C = true) := hr
      have HT : Hid (targetB s = false) := ht
      clear hm hr ht
      go_wp2_with fail
      go_at_call 8
      refine (refMay _ B C _ (HP.out.later (step_below (HA1.out _) HB1.out))).mono ?_
      rw [HR.out]
      rintro e w2 ⟨rfl, hb2⟩
      have y2 : w2.cell? ⟨w.heap.size + 1, 0, none⟩ = some (.int .i64 s) := step_cell hb2 (step_cell (HA1.out _) y2)
      have x0 : w2.cell? ⟨w1.heap.size, 0, none⟩ = some (.int .i64 0) := step_cell hb2 (by simp [go_sem])
      have x1 : w2.cell? ⟨w1.heap.size, 1, none⟩ = some (.slice lo 0 lc) := step_cell hb2 (by simp [go_sem])
      have HB2 : Hid (Below w1.heap.size w1 w2) := step_below hb2 (HA1.out _)
      clear hb2
      go_wp2_with fail
      go_at_call 13
      refine (target s _).mono ?_
      rw [HT.out]
      rintro e w3 ⟨rfl, hb3⟩
      have x0 := step_cell hb3 x0
      have x1 := step_cell hb3 x1
      have HB3 : Hid (Below w1.heap.size w1 w3) := step_below hb3 HB2.out
      clear hb3
      go_wp2_with (go_at_call 14; refine (same11 _ _ 0 [] _ (HL.out.later HB3.out) ⟨none, 0, rfl, by simp, fun hh => absurd hh (by simp)⟩).mono ?_; rintro e w4 ⟨rfl, hb4⟩)
      go_ret
      exact ⟨rfl, step_below hb4 (step_below HB3.out HB1.out)⟩
    · have HR : Hid (refMayB B C = false) := hr
      clear hm hr
      go_wp2_with fail
      go_at_call 8
      refine (refMay _ B C _ (HP.out.later (step_below (HA1.out _) HB1.out))).mono ?_
      rw [HR.out]
      rintro e w2 ⟨rfl, hb2⟩
      have x0 : w2.cell? ⟨w1.heap.size, 0, none⟩ = some (.int .i64 0) := step_cell hb2 (by simp [go_sem])
      have x1 : w2.cell? ⟨w1.heap.size, 1, none⟩ = some (.slice lo 0 lc) := step_cell hb2 (by simp [go_sem])
      have HB3 : Hid (Below w1.heap.size w1 w2) := step_below hb2 (HA1.out _)
      clear hb2
      go_wp2_with (go_at_call 14; refine (same11 _ _ 0 [] _ (HL.out.later HB3.out) ⟨none, 0, rfl, by simp, fun hh => absurd hh (by simp)⟩).mono ?_; rintro e w4 ⟨rfl, hb4⟩)
      go_ret
      exact ⟨rfl, step_below hb4 (step_below HB3.out HB1.out)⟩
  · simp only [Bool.and_eq_true] at hm
    have HT9 : Hid (TakenP B C s (f B C s).1 (f B C s).2) := HTK.out hm.1 hm.2
    have HR : Hid (refMayB B C = true) := hm.1
    have HT : Hid (targetB s = true) := hm.2
    obtain ⟨slots, hslots⟩ : ∃ slots, slots = (f B C s).1 := ⟨_, rfl⟩
    obtain ⟨R, hR⟩ : ∃ R, R = (f B C s).2 := ⟨_, rfl⟩
    rw [← hslots, ← hR] at hl HT9
    have HL : Hid (PlacedIs w1 lv slots R) := hl
    obtain ⟨lo, lc, rfl, -, -⟩ := hl
    clear hm hslots hR
    go_wp2_with fail
    go_at_call 8
    refine (refMay _ B C _ (HP.out.later (step_below (HA1.out _) HB1.out))).mono ?_
    rw [HR.out]
    rintro e w2 ⟨rfl, hb2⟩
    have y0 : w2.cell? ⟨w.heap.size, 0, none⟩ = some (.slice a0 B.length c0) := step_cell hb2 (step_cell (HA1.out _) y0)
    have y1 : w2.cell? ⟨w.heap.size, 1, none⟩ = some (.slice a1 C.length c1) := step_cell hb2 (step_cell (HA1.out _) y1)
    have y2 : w2.cell? ⟨w.heap.size + 1, 0, none⟩ = some (.int .i64 s) := step_cell hb2 (step_cell (HA1.out _) y2)
    have x0 : w2.cell? ⟨w1.heap.size, 0, none⟩ = some (.int .i64 slots) := step_cell hb2 (by simp [go_sem])
    have x1 : w2.cell? ⟨w1.heap.size, 1, none⟩ = some (.slice lo R.length lc) := step_cell hb2 (by simp [go_sem])
    have HB2 : Hid (Below w1.heap.size w1 w2) := step_below hb2 (HA1.out _)
    clear hb2
    go_wp2_with fail
    go_at_call 13
    refine (target s _).mono ?_
    rw [HT.out]
    rintro e w3 ⟨rfl, hb3⟩
    have x0 := step_cell hb3 x0
    have x1 := step_cell hb3 x1
    have y0 := step_cell hb3 y0
    have y1 := step_cell hb3 y1
    have y2 := step_cell hb3 y2
    have HB3 : Hid (Below w1.heap.size w1 w3) := step_below hb3 HB2.out
    clear hb3
    go_wp2_with fail
    go_at_call 15
    refine (takes8 _ _ B C s slots R _ (HP.out.later (step_below HB3.out HB1.out)) (HL.out.later HB3.out)).mono ?_
    rintro e w4 ⟨⟨b, rfl, hb⟩, hb4⟩
    obtain rfl : b = true := hb.2 HT9.out
    clear hb
    go_wp2
    go_ret
    exact ⟨rfl, step_below hb4 (step_below HB3.out HB1.out)⟩

set_option maxRecDepth 100000 in
theorem lifted {f : List Bool → List LIns → Int → Int × List LRow} (buildO : BuildSpec f) (hft : BuildTaken f) (os : Os) (started : os.Started) (H : Type) (enc : TypeId × Value → H) :
    ReturnsInHanded {} Try.checked os 4 .any (Rows.buildTakesSpec.pre6 enc Try.prog Try.f4 Rows.buildTakesRow.domain false) (Rows.buildTakesSpec.post enc Try.prog Try.f4 false true false false) := by
  refine returnsInHanded_of_change (C := Try.checked) own started (by kernel_rfl) Try.func4
    (ChangeSpec.witness6 (enc := enc) (C := Try.checked) false ⟨#[], #[.agg #[.slice none 0 0, .slice none 0 0], .agg #[.int .i64 0]], []⟩ 8 (by kernel_rfl) (by kernel_rfl) (by kernel_rfl) (by kernel_rfl)) ?_
  intro W base args ds gs before hval0 hW hcnd _
  have hval : ∀ (j : Nat) t v, Try.f4.params[j]? = some t → args[j]? = some v → Value.okWide Try.prog W .any base t v := hval0
  have hW' := hW
  obtain ⟨p, q, hA0, hV, rfl, hfz, hnd⟩ := hW
  have hA : DataW.TrodAll enc Try.prog W 0 (fun _ => true) true Try.f4.params.toList args.toList ds p := hA0
  rw [Try.params4] at hA hval
  obtain ⟨v0, vs0, d0, ds0, p0, q0, hargs, rfl, rfl, h0, r0⟩ := trodAll_cons hA
  obtain ⟨v1, vs1, d1, ds1, p1, q1, rfl, rfl, rfl, h1, r1⟩ := trodAll_cons r0
  obtain ⟨rfl, rfl, rfl⟩ := trodAll_nil r1
  obtain rfl : args = #[v0, v1] := by cases args; simp_all
  obtain ⟨rfl, rfl⟩ := trodVars_none hV
  have k0 := h0
  have k1 := h1
  have lt0 : ∀ x ∈ p0, x.block < W.heap.size := by obtain ⟨m, hm⟩ := k0; exact DataW.trod_lt m _ _ _ hm
  have lt1 : ∀ x ∈ p1, x.block < W.heap.size := by obtain ⟨m, hm⟩ := k1; exact DataW.trod_lt m _ _ _ hm
  obtain ⟨B, C, hP⟩ := prog_is (hval 0 25 v0 rfl rfl) h0
  obtain ⟨s1, rfl, -, -⟩ := target_is (hval 1 37 v1 rfl rfl) h1
  clear hA0 hval0
  refine (walk buildO hft v0 B C s1 W hP).mono fun e W' ⟨he, bel⟩ => ?_
  subst he
  exact ⟨_, rfl, _, _, _, [], _, [], hW', trodAll_mk1 (shut_bool Try.underlying4 _),
    (trodAll_cons_mk (Below.trod laidOut (by kernel_rfl) (of_decide_eq_true (by kernel_rfl)) k0 bel lt0) (trodAll_cons_mk (Below.trod laidOut (by kernel_rfl) (of_decide_eq_true (by kernel_rfl)) k1 bel lt1) trodAll_mk0)), rfl, bel.frame _, fun h => by cases h⟩

theorem over {f : List Bool → List LIns → Int → Int × List LRow} (buildO : BuildSpec f) (hft : BuildTaken f) : Rows.buildTakesRow.holds Try.pinned (OpenSpec.ofChange Rows.buildTakesSpec) :=
  OpenClaim.holds_of_wide 4 Try.f4 rfl rfl rfl rfl rfl rfl rfl ⟨rfl, rfl, rfl, rfl, rfl⟩ rfl rfl rfl rfl rfl (by kernel_rfl) Try.func4 (by kernel_rfl)
    (of_decide_eq_true (by kernel_rfl)) (by unfold Func.isWrapper; first | (rw [if_pos (by decide +kernel)]; kernel_rfl) | (rw [if_neg (by decide +kernel)]; exact ⟨rfl, rfl⟩))
    (fun os started H enc _ => lifted buildO hft os started H enc)

end Go.Proofs.Ytcmnmogmdhofcab.buildTakes
