/- The document's function that holds rows of truths against others (loanbookref4.Same): of the same ones it answers yes. -/
import Derived.Test.YthhbekcmbdllaaaLiveRef
namespace Go.Proofs.Ythhbekcmbdllaaa.form
open Go.RowKit
set_option linter.unusedVariables false
attribute [local go_sem ↓] Go.wp_at_zero Go.wp_at_succ

set_option maxRecDepth 100000 in
set_option maxHeartbeats 1000000 in
theorem same4 (va vb : Value) (R : List (List Bool)) (w : World) (h1 : MatIs w va R) (h2 : MatIs w vb R) :
    Calls Try.prog 22 #[va, vb] w fun e w' => e = .returned (.bool true) ∧ Below w.heap.size w w' := by
  obtain ⟨ao, ca, rfl, hlR, hc1⟩ := h1
  obtain ⟨bo, cb, rfl, -, hc2⟩ := h2
  have HC1 : Hid _ := hc1
  have HC2 : Hid _ := hc2
  have z1 : (R.length : Int) ≤ 1000000 := by omega
  clear hc1 hc2
  go_enter Try.func22, Try.ntmps22
  go_wp2
  go_loopw [5] (fun t wr => ∃ k : Nat, k ≤ R.length ∧ t = .int .i64 k ∧ Below w.heap.size w wr) (fun t _ => R.length - (intOf t).toNat)
  case atStart => exact ⟨0, by omega, rfl, Below.refl _ _⟩
  case round =>
    obtain ⟨k, hk, rfl, hbel⟩ := hrel
    have HB : Hid (Below w.heap.size w wr) := hbel
    clear hbel
    by_cases hlt : k < R.length
    case neg =>
      have y1 : ¬ (k : Int) < (R.length : Int) := by omega
      go_wp2
      go_ret
      exact ⟨rfl, HB.out⟩
    obtain ⟨ba, oa, rfl, hba, hcell1⟩ := HC1.out (by omega)
    obtain ⟨bb, ob, rfl, hbb, hcell2⟩ := HC2.out (by omega)
    obtain ⟨ra, hx1, hr1⟩ := hcell1 k hlt
    obtain ⟨rb, hx2, hr2⟩ := hcell2 k hlt
    obtain ⟨l, hl⟩ : ∃ l, l = R.getD k [] := ⟨_, rfl⟩
    rw [← hl] at hr1 hr2
    obtain ⟨ar, cr, rfl, hll, hcr1⟩ := hr1
    obtain ⟨br, cs, rfl, -, hcr2⟩ := hr2
    have x1 := step_cell HB.out hx1
    have x2 := step_cell HB.out hx2
    have HX1 : Hid (w.cell? ⟨ba, oa + k, none⟩ = some (.slice ar l.length cr)) := hx1
    have HX2 : Hid (w.cell? ⟨bb, ob + k, none⟩ = some (.slice br l.length cs)) := hx2
    have HR1 : Hid _ := hcr1
    have HR2 : Hid _ := hcr2
    have y1 : (k : Int) < (R.length : Int) := by omega
    have y0 : (0 : Int) ≤ (k : Int) := by omega
    have z2 : (l.length : Int) ≤ 1000000 := by omega
    have e3 : ((l.length : Int) != (l.length : Int)) = false := by simp
    clear hl hcell1 hcell2 hcr1 hcr2 hx1 hx2
    go_wp2
    go_quiet (fail)
    go_wp2
    go_loopw [6] (fun t wr2 => ∃ j : Nat, j ≤ l.length ∧ t = .int .i64 j ∧ Below w.heap.size w wr2) (fun t _ => l.length - (intOf t).toNat)
    case atStart => exact ⟨0, by omega, rfl, below_drewN HB.out _⟩
    case round =>
      obtain ⟨j, hj, rfl, hbel⟩ := hrel
      have HB2 : Hid (Below w.heap.size w wr) := hbel
      have v1 := step_cell hbel HX1.out
      have v2 := step_cell hbel HX2.out
      clear hbel x1 x2
      by_cases hjl : j < l.length
      · obtain ⟨b3, o3, rfl, _, q1⟩ := HR1.out (by omega)
        obtain ⟨b4, o4, rfl, _, q2⟩ := HR2.out (by omega)
        have u1 := step_cell HB2.out (q1 j hjl)
        have u2 := step_cell HB2.out (q2 j hjl)
        generalize l.getD j false = u at u1 u2
        have y2 : (j : Int) < (l.length : Int) := by omega
        have y3 : (0 : Int) ≤ (j : Int) := by omega
        clear q1 q2
        go_wp2
        go_quiet (fail)
        go_wp2
        exact ⟨⟨j + 1, by omega, by go_num, below_drewN HB2.out _⟩, by simp [intOf]; omega⟩
      · have y2 : ¬ (j : Int) < (l.length : Int) := by omega
        go_wp2
        exact ⟨⟨k + 1, by omega, by go_num, HB2.out⟩, by simp [intOf]; omega⟩

end Go.Proofs.Ythhbekcmbdllaaa.form
