/- Ins that came in as an argument; what is wrong with a run's arguments. -/
import Derived.Deep.DeepCutAuto
import Derived.Test.YtikhedkhgpjaaabGreatDoorW05
import Derived.Test.YtikhedkhgpjaaabGreatDoorW02

namespace Go.Proofs.YtikhedkhgpjaaabGreatDoor
set_option linter.unusedVariables false
namespace form
open Go.RowKit num
def InArg (w : World) (iv : Value) (I : List Int) : Prop :=
  ∃ ai cap, iv = .slice ai I.length cap ∧ I.length ≤ cap ∧ I.length ≤ 9223372036854775807 ∧ (∀ j, j < I.length → 0 ≤ I.getD j 0 ∧ I.getD j 0 < 4294967296) ∧
    (0 < I.length → ∃ b o, ai = some ⟨b, o, none⟩ ∧ b < w.heap.size ∧ ∀ j, j < I.length → w.cell? ⟨b, o + j, none⟩ = some (.int .u32 (I.getD j 0)))
theorem InArg.later {w w' : World} {iv : Value} {I : List Int} (h : InArg w iv I) (hb : Below w.heap.size w w') : InArg w' iv I := by
  obtain ⟨ai, cap, e, h1, h2, h3, h4⟩ := h
  refine ⟨ai, cap, e, h1, h2, h3, fun h0 => ?_⟩
  obtain ⟨b, o, e2, hlt, hc⟩ := h4 h0
  exact ⟨b, o, e2, Nat.lt_of_lt_of_le hlt hb.size, fun j hj => step_cell hb (hc j hj)⟩
theorem wrong_zero {B : List Bool} {C : List LIns} {nI : Nat} {steps : Int} (h : wrongI B C nI steps = 0) : refMayB B C = true ∧ nI ≤ 40 ∧ 0 ≤ steps ∧ steps ≤ 3000 := by
  unfold wrongI at h
  split at h
  · omega
  split at h
  · omega
  split at h
  · omega
  · rename_i h1 h2 h3
    exact ⟨by simpa using h1, by omega, by omega, by omega⟩
end form
/- What the document's functions on places answer: Target, Is, Overlap, move, register. -/
namespace form
open Go.RowKit
attribute [local go_sem ↓] Go.wp_at_zero Go.wp_at_succ
structure LPlace where
  kind : Int
  n : Int
structure LMove where
  dst : LPlace
  src : LPlace
  cst : Bool
  n : Int
def LPlace.zero : LPlace := ⟨0, 0⟩
def LMove.zero : LMove := ⟨.zero, .zero, false, 0⟩
def LPlace.val (p : LPlace) : Value := .agg #[.int .i64 p.kind, .int .i64 p.n]
def LMove.val (m : LMove) : Value := .agg #[.int .i64 m.dst.kind, .int .i64 m.dst.n, .int .i64 m.src.kind, .int .i64 m.src.n, .bool m.cst, .int .u32 m.n]
def targetV (s : Int) : Value := .agg #[.int .i64 s]
def targetB (s : Int) : Bool := s == 4 || s == 6 || s == 8 || s == 10 || s == 12 || s == 14 || s == 16
def isB (s slots : Int) (p : LPlace) : Bool :=
  if p.kind = 1 then decide (0 ≤ p.n) && decide (p.n < s) else if p.kind = 2 then decide (0 ≤ p.n) && decide (2 * p.n < s) && decide (p.n < 100)
  else if p.kind = 3 then decide (0 ≤ p.n) && decide (p.n < slots) else false
def overB (a b : LPlace) : Bool :=
  if a.kind = b.kind then decide (a.n = b.n) else if a.kind = 1 ∧ b.kind = 2 then decide (a.n = 2 * b.n ∨ a.n = 2 * b.n + 1) else if a.kind = 2 ∧ b.kind = 1 then decide (b.n = 2 * a.n ∨ b.n = 2 * a.n + 1) else false
def moveB (s slots : Int) (m : LMove) : Bool :=
  isB s slots m.dst && (if m.cst then (m.src.kind == 0) && (m.src.n == 0) && (m.dst.kind == 1)
    else (m.n == 0) && isB s slots m.src && (if m.dst.kind == 3 then m.src.kind != 3 else (m.src.kind == 3) || (m.src.kind == m.dst.kind)))
end form
/- What the document's functions on moves answer: move, moves, register. -/
namespace form
open Go.RowKit
attribute [local go_sem ↓] Go.wp_at_zero Go.wp_at_succ
def MovesIs (w : World) (v : Value) (l : List LMove) : Prop :=
  ∃ ao cap, v = .slice ao l.length cap ∧ l.length ≤ 9223372036854775807 ∧ (0 < l.length → ∃ b o, ao = some ⟨b, o, none⟩ ∧ b < w.heap.size ∧ ∀ k, k < l.length → w.cell? ⟨b, o + k * 6, none⟩ = some (.int .i64 (l.getD k .zero).dst.kind) ∧ w.cell? ⟨b, o + k * 6 + 1, none⟩ = some (.int .i64 (l.getD k .zero).dst.n) ∧ w.cell? ⟨b, o + k * 6 + 2, none⟩ = some (.int .i64 (l.getD k .zero).src.kind) ∧ w.cell? ⟨b, o + k * 6 + 3, none⟩ = some (.int .i64 (l.getD k .zero).src.n) ∧ w.cell? ⟨b, o + k * 6 + 4, none⟩ = some (.bool (l.getD k .zero).cst) ∧ w.cell? ⟨b, o + k * 6 + 5, none⟩ = some (.int .u32 (l.getD k .zero).n))
theorem MovesIs.later {w w' : World} {v : Value} {l : List LMove} (h : MovesIs w v l) (hb : Below w.heap.size w w') : MovesIs w' v l := by
  obtain ⟨ao, cap, hv, hl, hc⟩ := h
  refine ⟨ao, cap, hv, hl, fun h0 => ?_⟩
  obtain ⟨b, o, e, hlt, hcell⟩ := hc h0
  refine ⟨b, o, e, Nat.lt_of_lt_of_le hlt hb.size, fun k hk => ?_⟩
  obtain ⟨c0, c1, c2, c3, c4, c5⟩ := hcell k hk
  exact ⟨step_cell hb c0, step_cell hb c1, step_cell hb c2, step_cell hb c3, step_cell hb c4, step_cell hb c5⟩
def movesB (s slots : Int) (l : List LMove) : Bool := decide (l.length ≤ 6) && l.all (moveB s slots)
def regB (B : List Bool) (s : Int) (t : Int) (p : LPlace) : Bool := (p.kind == if B.getD t.toNat false then 2 else 1) && isB s 0 p
end form
/- What the document's function on places (loanbookref6.May) answers. -/
namespace form
open Go.RowKit
attribute [local go_sem ↓] Go.wp_at_zero Go.wp_at_succ
structure LRow where
  dest : LPlace
  a : LPlace
  b : LPlace
  before : List LMove
  after : List LMove
def LRow.zero : LRow := ⟨.zero, .zero, .zero, [], []⟩
structure RowsHeld (w : World) (b2 o2 : Nat) (R : List LRow) : Prop where
  lt : b2 < w.heap.size
  rows : ∀ r, r < R.length → w.cell? ⟨b2, o2 + r * 8, none⟩ = some (.int .i64 (R.getD r .zero).dest.kind) ∧ w.cell? ⟨b2, o2 + r * 8 + 1, none⟩ = some (.int .i64 (R.getD r .zero).dest.n) ∧ w.cell? ⟨b2, o2 + r * 8 + 2, none⟩ = some (.int .i64 (R.getD r .zero).a.kind) ∧ w.cell? ⟨b2, o2 + r * 8 + 3, none⟩ = some (.int .i64 (R.getD r .zero).a.n) ∧ w.cell? ⟨b2, o2 + r * 8 + 4, none⟩ = some (.int .i64 (R.getD r .zero).b.kind) ∧ w.cell? ⟨b2, o2 + r * 8 + 5, none⟩ = some (.int .i64 (R.getD r .zero).b.n) ∧
    ∃ vb va, w.cell? ⟨b2, o2 + r * 8 + 6, none⟩ = some vb ∧ w.cell? ⟨b2, o2 + r * 8 + 7, none⟩ = some va ∧ MovesIs w vb (R.getD r .zero).before ∧ MovesIs w va (R.getD r .zero).after
theorem RowsHeld.later {w w' : World} {b2 o2 : Nat} {R : List LRow} (h : RowsHeld w b2 o2 R) (hb : Below w.heap.size w w') : RowsHeld w' b2 o2 R := by
  refine ⟨Nat.lt_of_lt_of_le h.lt hb.size, fun r hr => ?_⟩
  obtain ⟨c0, c1, c2, c3, c4, c5, vb, va, c6, c7, m0, m1⟩ := h.rows r hr
  exact ⟨step_cell hb c0, step_cell hb c1, step_cell hb c2, step_cell hb c3, step_cell hb c4, step_cell hb c5, vb, va, step_cell hb c6, step_cell hb c7, m0.later hb, m1.later hb⟩
def PlacedIs (w : World) (v : Value) (slots : Int) (R : List LRow) : Prop :=
  ∃ ao cap, v = .agg #[.int .i64 slots, .slice ao R.length cap] ∧ R.length ≤ 9223372036854775807 ∧ (0 < R.length → ∃ b2 o2, ao = some ⟨b2, o2, none⟩ ∧ RowsHeld w b2 o2 R)
theorem PlacedIs.later {w w' : World} {v : Value} {slots : Int} {R : List LRow} (h : PlacedIs w v slots R) (hb : Below w.heap.size w w') : PlacedIs w' v slots R := by
  obtain ⟨ao, cap, hv, hl, hc⟩ := h
  refine ⟨ao, cap, hv, hl, fun h0 => ?_⟩
  obtain ⟨b2, o2, e, hr⟩ := hc h0
  exact ⟨b2, o2, e, hr.later hb⟩
def fieldP (B : List Bool) (s : Int) (there : Bool) (t : Int) (p : LPlace) : Bool := if there then regB B s t p else !(p.kind != 0 || p.n != 0)
def rowB (B : List Bool) (s slots : Int) (i : LIns) (r : LRow) : Bool :=
  fieldP B s (givesB i.op) i.dest r.dest && fieldP B s (decide (0 < manyI i.op)) i.a r.a && fieldP B s (decide (1 < manyI i.op)) i.b r.b &&
  movesB s slots r.before && movesB s slots r.after && !((i.op == 8 || i.op == 9 || i.op == 10) && decide (0 < r.after.length))
def placeMayB (B : List Bool) (C : List LIns) (s slots : Int) (R : List LRow) : Bool :=
  refMayB B C && targetB s && !decide (slots < 0) && !decide (12 < slots) && decide (R.length = C.length) && (List.range C.length).all (fun k => rowB B s slots (C.getD k .zero) (R.getD k .zero))
end form
end Go.Proofs.YtikhedkhgpjaaabGreatDoor
