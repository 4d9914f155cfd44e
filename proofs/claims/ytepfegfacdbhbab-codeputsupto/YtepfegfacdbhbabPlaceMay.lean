/- What the document's function on places (loanbookref6.May) answers. -/
import Derived.Test.YtepfegfacdbhbabPlaceMoves
import Derived.Deep.DeepCutAuto
namespace Go.Proofs.Ytepfegfacdbhbab.form
open Go.RowKit
set_option linter.unusedVariables false
attribute [local go_sem ↓] Go.wp_at_zero Go.wp_at_succ

structure LRow where
  dest : LPlace
  a : LPlace
  b : LPlace
  before : List LMove
  after : List LMove
def LRow.zero : LRow := ⟨.zero, .zero, .zero, [], []⟩

/-- Rows of places in memory. -/
structure RowsHeld (w : World) (b2 o2 : Nat) (R : List LRow) : Prop where
  lt : b2 < w.heap.size
  rows : ∀ r, r < R.length → w.cell? ⟨b2, o2 + r * 8, none⟩ = some (.int .i64 (R.getD r .zero).dest.kind) ∧ w.cell? ⟨b2, o2 + r * 8 + 1, none⟩ = some (.int .i64 (R.getD r .zero).dest.n) ∧ w.cell? ⟨b2, o2 + r * 8 + 2, none⟩ = some (.int .i64 (R.getD r .zero).a.kind) ∧ w.cell? ⟨b2, o2 + r * 8 + 3, none⟩ = some (.int .i64 (R.getD r .zero).a.n) ∧ w.cell? ⟨b2, o2 + r * 8 + 4, none⟩ = some (.int .i64 (R.getD r .zero).b.kind) ∧ w.cell? ⟨b2, o2 + r * 8 + 5, none⟩ = some (.int .i64 (R.getD r .zero).b.n) ∧
    ∃ vb va, w.cell? ⟨b2, o2 + r * 8 + 6, none⟩ = some vb ∧ w.cell? ⟨b2, o2 + r * 8 + 7, none⟩ = some va ∧ MovesIs w vb (R.getD r .zero).before ∧ MovesIs w va (R.getD r .zero).after

theorem RowsHeld.later {w w' : World} {b2 o2 : Nat} {R : List LRow} (h : RowsHeld w b2 o2 R) (hb : Below w.heap.size w w') : RowsHeld w' b2 o2 R := by
  refine ⟨Nat.lt_of_lt_of_le h.lt hb.size, fun r hr => ?_⟩
  obtain ⟨c0, c1, c2, c3, c4, c5, vb, va, c6, c7, m0, m1⟩ := h.rows r hr
  exact ⟨step_cell hb c0, step_cell hb c1, step_cell hb c2, step_cell hb c3, step_cell hb c4, step_cell hb c5, vb, va, step_cell hb c6, step_cell hb c7, m0.later hb, m1.later hb⟩

/-- Places that came in. -/
def PlacedIs (w : World) (v : Value) (slots : Int) (R : List LRow) : Prop :=
  ∃ ao cap, v = .agg #[.int .i64 slots, .slice ao R.length cap] ∧ R.length ≤ 9223372036854775807 ∧ (0 < R.length → ∃ b2 o2, ao = some ⟨b2, o2, none⟩ ∧ RowsHeld w b2 o2 R)

theorem PlacedIs.later {w w' : World} {v : Value} {slots : Int} {R : List LRow} (h : PlacedIs w v slots R) (hb : Below w.heap.size w w') : PlacedIs w' v slots R := by
  obtain ⟨ao, cap, hv, hl, hc⟩ := h
  refine ⟨ao, cap, hv, hl, fun h0 => ?_⟩
  obtain ⟨b2, o2, e, hr⟩ := hc h0
  exact ⟨b2, o2, e, hr.later hb⟩

def fieldP (B : List Bool) (s : Int) (there : Bool) (t : Int) (p : LPlace) : Bool := if there then regB B s t p else !(p.kind != 0 || p.n != 0)
def rowB (B : List Bool) (s slots : Int) (i : LIns) (r : LRow) : Bool :=
  fieldP B s (givesB i.op) i.dest r.dest && fieldP B s (decide (0 < manyI i.op)) i.a r.a && fieldP B s (decide (1 < manyI i.op)) i.b r.b &&
  movesB s slots r.before && movesB s slots r.after && !((i.op == 8 || i.op == 9 || i.op == 10) && decide (0 < r.after.length))
def placeMayB (B : List Bool) (C : List LIns) (s slots : Int) (R : List LRow) : Bool :=
  refMayB B C && targetB s && !decide (slots < 0) && !decide (12 < slots) && decide (R.length = C.length) && (List.range C.length).all (fun k => rowB B s slots (C.getD k .zero) (R.getD k .zero))

set_option maxRecDepth 100000 in
set_option maxHeartbeats 1000000 in
theorem may6_no (pv lv : Value) (B : List Bool) (C : List LIns) (s slots : Int) (R : List LRow) (w : World) (hp : ProgIs w pv B C) (hl : PlacedIs w lv slots R)
    (hno : (refMayB B C && targetB s && !decide (slots < 0) && !decide (12 < slots) && decide (R.length = C.length)) = false) :
    Calls Try.prog 21 #[pv, targetV s, lv] w fun e w' => e = .returned (.bool false) ∧ Below w.heap.size w w' := by
  have h0 := hp
  obtain ⟨⟨a0, c0, a1, c1, rfl, -⟩, -, lC, -⟩ := h0
  have HP : Hid (ProgIs w (.agg #[.slice a0 B.length c0, .slice a1 C.length c1]) B C) := hp
  obtain ⟨ao, cap, rfl, lR, -⟩ := hl
  clear hp
  unfold targetV
  have HW : Hid (Below w.heap.size w (((w.alloc (.cells #[.slice a0 B.length c0, .slice a1 C.length c1] 25)).alloc (.cells #[.int .i64 s] 37)).alloc (.cells #[.int .i64 slots, .slice ao R.length cap] 42))) := (((Below.refl _ _).alloc (Nat.le_refl _) _).alloc (by simp) _).alloc (by simp; omega) _
  rcases (show refMayB B C = false ∨ (refMayB B C = true ∧ targetB s = false) ∨ (refMayB B C = true ∧ targetB s = true ∧ slots < 0) ∨ (refMayB B C = true ∧ targetB s = true ∧ ¬ slots < 0 ∧ 12 < slots) ∨ (refMayB B C = true ∧ targetB s = true ∧ ¬ slots < 0 ∧ ¬ 12 < slots ∧ ((R.length : Int) != (C.length : Int)) = true) by
    cases hm : refMayB B C
    · exact Or.inl rfl
    · cases ht : targetB s
      · exact Or.inr (Or.inl ⟨rfl, rfl⟩)
      · rw [hm, ht] at hno
        simp at hno
        by_cases x1 : slots < 0
        · exact Or.inr (Or.inr (Or.inl ⟨rfl, rfl, x1⟩))
        · by_cases x2 : 12 < slots
          · exact Or.inr (Or.inr (Or.inr (Or.inl ⟨rfl, rfl, x1, x2⟩)))
          · refine Or.inr (Or.inr (Or.inr (Or.inr ⟨rfl, rfl, x1, x2, ?_⟩)))
            have := hno (by omega) (by omega)
            simp; omega) with e1 | ⟨e1, e2⟩ | ⟨e1, e2, e3⟩ | ⟨e1, e2, e3, e4⟩ | ⟨e1, e2, e3, e4, e5⟩
  case inl =>
    clear hno
    go_enter Try.func21, Try.ntmps21
    go_wp2_with (go_at_call 12; refine (refMay _ B C _ (HP.out.later HW.out)).mono ?_; rintro e w1 ⟨rfl, hb1⟩; rw [e1])
    go_ret
    exact ⟨rfl, step_below hb1 HW.out⟩
  all_goals
    clear hno
    go_enter Try.func21, Try.ntmps21
    go_wp2_with (first | (go_at_call 12; refine (refMay _ B C _ (HP.out.later HW.out)).mono ?_; rintro e w1 ⟨rfl, hb1⟩; rw [e1]; have t0 : w1.cell? ⟨w.heap.size + 1, 0, none⟩ = some (.int .i64 s) := step_cell hb1 (by simp [go_sem]); have t1 : w1.cell? ⟨w.heap.size + 1 + 1, 0, none⟩ = some (.int .i64 slots) := step_cell hb1 (by simp [go_sem]); have t2 : w1.cell? ⟨w.heap.size + 1 + 1, 1, none⟩ = some (.slice ao R.length cap) := step_cell hb1 (by simp [go_sem]); have t3 : w1.cell? ⟨w.heap.size, 1, none⟩ = some (.slice a1 C.length c1) := step_cell hb1 (by simp [go_sem])) | (go_at_call 17; refine (target s _).mono ?_; rintro e w2 ⟨rfl, hb2⟩; rw [e2]; have t1' := step_cell hb2 t1; have t2' := step_cell hb2 t2; have t3' := step_cell hb2 t3))
    go_ret
    exact ⟨rfl, step_below hb2 (step_below hb1 HW.out)⟩

end Go.Proofs.Ytepfegfacdbhbab.form
