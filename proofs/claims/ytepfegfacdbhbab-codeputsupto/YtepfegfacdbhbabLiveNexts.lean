/- Where an instruction goes on (loanbookref2.Nexts). -/
import Derived.Test.YtepfegfacdbhbabLiveSearch
namespace Go.Proofs.Ytepfegfacdbhbab.form
open Go.RowKit
set_option linter.unusedVariables false
attribute [local go_sem ↓] Go.wp_at_zero Go.wp_at_succ

/-- A row of numbers in new memory. -/
def IntsAt (lo : Nat) (w : World) (v : Value) (l : List Int) : Prop :=
  ∃ ao cap, v = .slice ao l.length cap ∧ (0 < l.length → ∃ b, ao = some ⟨b, 0, none⟩ ∧ lo ≤ b ∧ b < w.heap.size ∧ ∀ j, j < l.length → w.cell? ⟨b, j, none⟩ = some (.int .i64 (l.getD j 0)))

theorem ints_one {lo : Nat} {w : World} {b : Nat} {x : Int} {cap : Nat} (hlo : lo ≤ b) (h : w.cell? ⟨b, 0, none⟩ = some (.int .i64 x)) : IntsAt lo w (.slice (some ⟨b, 0, none⟩) 1 cap) [x] :=
  ⟨_, _, rfl, fun _ => ⟨b, rfl, hlo, World.block_lt_of_cell? w _ h, fun j hj => by
    obtain rfl : j = 0 := by simp at hj; omega
    simpa using h⟩⟩
theorem ints_two {lo : Nat} {w : World} {b : Nat} {x y : Int} {cap : Nat} (hlo : lo ≤ b) (h : w.cell? ⟨b, 0, none⟩ = some (.int .i64 x)) (g : w.cell? ⟨b, 1, none⟩ = some (.int .i64 y)) : IntsAt lo w (.slice (some ⟨b, 0, none⟩) 2 cap) [x, y] :=
  ⟨_, _, rfl, fun _ => ⟨b, rfl, hlo, World.block_lt_of_cell? w _ h, fun j hj => by
    rcases (show j = 0 ∨ j = 1 by simp at hj; omega) with rfl | rfl
    · simpa using h
    · simpa using g⟩⟩

theorem nexts2 (i : LIns) (pc : Nat) (hpc : pc ≤ 40) (w : World) :
    Calls Try.prog 86 #[i.val, .int .i64 pc] w fun e w' => (∃ v, e = .returned v ∧ IntsAt w.heap.size w' v (nextsI i pc)) ∧ Below w.heap.size w w' := by
  unfold LIns.val
  have y1 : (pc : Int) ≤ 40 := by omega
  have y0 : (0 : Int) ≤ (pc : Int) := by omega
  have HB2 : Hid (∀ o1 o2 : Obj, Below w.heap.size w ((w.alloc o1).alloc o2)) := fun o1 o2 => ((Below.refl _ _).alloc (Nat.le_refl _) _).alloc (by simp) _
  go_enter Try.func86, Try.ntmps86
  go_wp2
  all_goals go_ret
  · refine ⟨⟨.slice (some ⟨w.heap.size + 1, 0, none⟩) 1 1, rfl, ?_⟩, HB2.out _ _⟩
    rw [show nextsI i pc = [i.c] by unfold nextsI; simp_all]
    exact ints_one (by omega) (by simp [go_sem])
  · refine ⟨⟨.slice none 0 0, rfl, ?_⟩, (Below.refl _ _).alloc (Nat.le_refl _) _⟩
    rw [show nextsI i pc = [] by unfold nextsI; simp_all]
    exact ⟨none, 0, rfl, fun hh => absurd hh (by simp)⟩
  · refine ⟨⟨.slice (some ⟨w.heap.size + 1, 0, none⟩) 2 2, rfl, ?_⟩, HB2.out _ _⟩
    rw [show nextsI i pc = [(pc : Int) + 1, i.c] by unfold nextsI; simp_all]
    exact ints_two (by omega) (by simp [go_sem]) (by simp [go_sem])
  · refine ⟨⟨.slice (some ⟨w.heap.size + 1, 0, none⟩) 1 1, rfl, ?_⟩, HB2.out _ _⟩
    rw [show nextsI i pc = [(pc : Int) + 1] by unfold nextsI; simp_all]
    exact ints_one (by omega) (by simp [go_sem])

theorem takes_of (i : LIns) (m : Nat) (hm : manyI i.op = m) (hm2 : m ≤ 2) (t : Int) : takesI i t = (decide (0 < m) && (i.a == t) || decide (1 < m) && (i.b == t)) := by
  unfold takesI usesI
  rw [hm]
  rcases (show m = 0 ∨ m = 1 ∨ m = 2 by omega) with rfl | rfl | rfl
  · simp
  · rw [Bool.eq_iff_iff]; simp; omega
  · rw [Bool.eq_iff_iff]; simp; omega

end Go.Proofs.Ytepfegfacdbhbab.form
