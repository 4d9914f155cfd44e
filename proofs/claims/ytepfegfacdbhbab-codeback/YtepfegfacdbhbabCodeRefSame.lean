/- The document's function that holds places against others (loanbookref11.Same): of the same ones it answers yes. -/
import Derived.Test.YtepfegfacdbhbabPlaceMay
import Derived.Test.YtepfegfacdbhbabPlaceEq
import Derived.BigQuiet
import Derived.Deep.QuietTactic
namespace Go.Proofs.Ytepfegfacdbhbab.form
open Go.RowKit
set_option linter.unusedVariables false
attribute [local go_sem ↓] Go.wp_at_zero Go.wp_at_succ

theorem neqMove (w : World) (a b c d n : Int) (x : Bool) : (binOp .neq 158 (.agg #[.int .i64 a, .int .i64 b, .int .i64 c, .int .i64 d, .bool x, .int .u32 n]) (.agg #[.int .i64 a, .int .i64 b, .int .i64 c, .int .i64 d, .bool x, .int .u32 n])).run Try.prog w = .ok (.bool false) w := by
  have hu := Try.underlying158
  have hu2 := Try.underlying34
  have h3 : Try.prog.underlying 3 = some (.int .i64) := Try.underlying3
  have h4 : Try.prog.underlying 4 = some .bool := Try.underlying4
  have h5 : Try.prog.underlying 80 = some (.int .u32) := Try.underlying80
  have hin : ∀ (p q : Int) (wx : World), (Op.equalIn 9999 34 (.agg #[.int .i64 p, .int .i64 q]) (.agg #[.int .i64 p, .int .i64 q])).run Try.prog wx = .ok true wx := by
    intro p q wx
    rw [run_equalIn_agg wx 9998 34 _ _ (by kernel_rfl) (by kernel_rfl)]
    simp [go_sem, Program.fieldsOf, hu2]
  rw [run_neq_struct, run_equalIn_agg w 9999 158 _ _ (by kernel_rfl) (by kernel_rfl)]
  simp [go_sem, Program.fieldsOf, hu, hin]

set_option maxRecDepth 100000 in
set_option maxHeartbeats 1000000 in
theorem same11m (va vb : Value) (l : List LMove) (w : World) (h1 : MovesIs w va l) (h2 : MovesIs w vb l) :
    Calls Try.prog 47 #[va, vb] w fun e w' => e = .returned (.bool true) ∧ Below w.heap.size w w' := by
  obtain ⟨ao, ca, rfl, hlR, hc1⟩ := h1
  obtain ⟨bo, cb, rfl, -, hc2⟩ := h2
  have HC1 : Hid _ := hc1
  have HC2 : Hid _ := hc2
  have z1 : (l.length : Int) ≤ 9223372036854775807 := by omega
  have q98 := neqMove
  have g98 : Try.prog.eqGuardType Try.prog.depth 158 = false := by kernel_rfl
  clear hc1 hc2
  go_enter Try.func47, Try.ntmps47
  go_wp2
  go_loopw [5] (fun t wr => ∃ k : Nat, k ≤ l.length ∧ t = .int .i64 k ∧ Below w.heap.size w wr) (fun t _ => l.length - (intOf t).toNat)
  case atStart => exact ⟨0, by omega, rfl, Below.refl _ _⟩
  case round =>
    obtain ⟨k, hk, rfl, hbel⟩ := hrel
    have HB : Hid (Below w.heap.size w wr) := hbel
    by_cases hlt : k < l.length
    case neg =>
      have y1 : ¬ (k : Int) < (l.length : Int) := by omega
      clear hbel
      go_wp2
      go_ret
      exact ⟨rfl, HB.out⟩
    have y1 : (k : Int) < (l.length : Int) := by omega
    have y0 : (0 : Int) ≤ (k : Int) := by omega
    obtain ⟨ba, oa, rfl, hba, hcell1⟩ := HC1.out (by omega)
    obtain ⟨bb, ob, rfl, hbb, hcell2⟩ := HC2.out (by omega)
    obtain ⟨d0, d1, d2, d3, d4, d5⟩ := hcell1 k hlt
    obtain ⟨e0, e1, e2, e3, e4, e5⟩ := hcell2 k hlt
    obtain ⟨m, hm⟩ : ∃ m, m = l.getD k .zero := ⟨_, rfl⟩
    rw [← hm] at d0 d1 d2 d3 d4 d5 e0 e1 e2 e3 e4 e5
    have d0 := step_cell hbel d0
    have d1 := step_cell hbel d1
    have d2 := step_cell hbel d2
    have d3 := step_cell hbel d3
    have d4 := step_cell hbel d4
    have d5 := step_cell hbel d5
    have e0 := step_cell hbel e0
    have e1 := step_cell hbel e1
    have e2 := step_cell hbel e2
    have e3 := step_cell hbel e3
    have e4 := step_cell hbel e4
    have e5 := step_cell hbel e5
    clear hm hcell1 hcell2 hbel
    go_wp2
    go_quiet (fail)
    go_wp2
    exact ⟨⟨k + 1, by omega, by go_num, below_drewN HB.out _⟩, by simp [intOf]; omega⟩

set_option maxRecDepth 100000 in
set_option maxHeartbeats 1000000 in
theorem same11 (va vb : Value) (slots : Int) (R : List LRow) (w : World) (h1 : PlacedIs w va slots R) (h2 : PlacedIs w vb slots R) :
    Calls Try.prog 18 #[va, vb] w fun e w' => e = .returned (.bool true) ∧ Below w.heap.size w w' := by
  obtain ⟨ao, ca, rfl, hlR, hc1⟩ := h1
  obtain ⟨bo, cb, rfl, -, hc2⟩ := h2
  have HC1 : Hid _ := hc1
  have HC2 : Hid _ := hc2
  have z1 : (R.length : Int) ≤ 9223372036854775807 := by omega
  have q98 := neqPlace
  have g98 : Try.prog.eqGuardType Try.prog.depth 34 = false := by kernel_rfl
  clear hc1 hc2
  have HW : Hid (∀ o1 o2 : Obj, Below w.heap.size w ((w.alloc o1).alloc o2)) := fun o1 o2 => ((Below.refl _ _).alloc (Nat.le_refl _) _).alloc (by simp) _
  go_enter Try.func18, Try.ntmps18
  go_wp2
  go_loopw [5] (fun t wr => ∃ k : Nat, k ≤ R.length ∧ t = .int .i64 k ∧ Below w.heap.size w wr ∧ wr.cell? ⟨w.heap.size, 1, none⟩ = some (.slice ao R.length ca) ∧ wr.cell? ⟨w.heap.size + 1, 1, none⟩ = some (.slice bo R.length cb)) (fun t _ => R.length - (intOf t).toNat)
  case atStart => exact ⟨0, by omega, rfl, HW.out _ _, by simp [go_sem], by simp [go_sem]⟩
  case round =>
    obtain ⟨k, hk, rfl, hbel, x1, x2⟩ := hrel
    have HB : Hid (Below w.heap.size w wr) := hbel
    have X1 : Hid (wr.cell? ⟨w.heap.size, 1, none⟩ = some (.slice ao R.length ca) ∧ wr.cell? ⟨w.heap.size + 1, 1, none⟩ = some (.slice bo R.length cb)) := ⟨x1, x2⟩
    by_cases hlt : k < R.length
    case neg =>
      have y1 : ¬ (k : Int) < (R.length : Int) := by omega
      clear hbel
      go_wp2
      go_ret
      exact ⟨rfl, HB.out⟩
    have y1 : (k : Int) < (R.length : Int) := by omega
    have y0 : (0 : Int) ≤ (k : Int) := by omega
    obtain ⟨ba, oa, rfl, hr1⟩ := HC1.out (by omega)
    obtain ⟨bb, ob, rfl, hr2⟩ := HC2.out (by omega)
    obtain ⟨d0, d1, d2, d3, d4, d5, vb1, va1, d6, d7, m0, m1⟩ := (hr1.later hbel).rows k hlt
    obtain ⟨e0, e1, e2, e3, e4, e5, vb2, va2, e6, e7, n0, n1⟩ := (hr2.later hbel).rows k hlt
    have lba := (hr1.later hbel).lt
    have lbb := (hr2.later hbel).lt
    have lbb2 : bb < wr.heap.size + 1 := by omega
    have hz2 : w.heap.size + 1 < wr.heap.size := World.block_lt_of_cell? wr _ x2
    have hz3 : w.heap.size + 1 < wr.heap.size + 1 := by omega
    obtain ⟨r, hr⟩ : ∃ r, r = R.getD k .zero := ⟨_, rfl⟩
    rw [← hr] at d0 d1 d2 d3 d4 d5 e0 e1 e2 e3 e4 e5 m0 m1 n0 n1
    have M0 : Hid (MovesIs wr vb1 r.before) := m0
    have M1 : Hid (MovesIs wr va1 r.after) := m1
    have N0 : Hid (MovesIs wr vb2 r.before) := n0
    have N1 : Hid (MovesIs wr va2 r.after) := n1
    obtain ⟨b1o, b1c, rfl, -, -⟩ := m0
    obtain ⟨a1o, a1c, rfl, -, -⟩ := m1
    obtain ⟨b2o, b2c, rfl, -, -⟩ := n0
    obtain ⟨a2o, a2c, rfl, -, -⟩ := n1
    have HG : Hid (∀ o1 o2 : Obj, Below wr.heap.size wr ((wr.alloc o1).alloc o2)) := fun o1 o2 => ((Below.refl _ _).alloc (Nat.le_refl _) _).alloc (by simp) _
    clear hr hbel hr1 hr2
    go_wp2_with fail
    go_at_call 47
    refine (same11m _ _ r.before _ (M0.out.later (HG.out _ _)) (N0.out.later (HG.out _ _))).mono ?_
    rintro e w1 ⟨rfl, hb1⟩
    have f7 : w1.cell? ⟨wr.heap.size, 7, none⟩ = some (.slice a1o r.after.length a1c) := step_cell hb1 (by simp [go_sem])
    have g7 : w1.cell? ⟨wr.heap.size + 1, 7, none⟩ = some (.slice a2o r.after.length a2c) := step_cell hb1 (by simp [go_sem])
    have HB1 : Hid (Below wr.heap.size wr w1) := step_below hb1 (HG.out _ _)
    clear hb1
    go_wp2_with (go_at_call 47; refine (same11m _ _ r.after _ (M1.out.later HB1.out) (N1.out.later HB1.out)).mono ?_; rintro e w2 ⟨rfl, hb2⟩)
    exact ⟨⟨k + 1, by omega, by go_num, step_below hb2 (step_below HB1.out HB.out), step_cell hb2 (step_cell HB1.out X1.out.1), step_cell hb2 (step_cell HB1.out X1.out.2)⟩, by simp [intOf]; omega⟩

end Go.Proofs.Ytepfegfacdbhbab.form
