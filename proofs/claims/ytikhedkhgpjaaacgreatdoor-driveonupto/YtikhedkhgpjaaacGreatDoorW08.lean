/- What the document's functions on places answer: Target, Is, Overlap, move, register. -/
import Derived.Deep.DeepCutAuto
import Derived.Test.YtikhedkhgpjaaacGreatDoorW04
import Derived.Test.YtikhedkhgpjaaacGreatDoorW07

namespace Go.Proofs.YtikhedkhgpjaaacGreatDoor
set_option linter.unusedVariables false
namespace form
open Go.RowKit
attribute [local go_sem ↓] Go.wp_at_zero Go.wp_at_succ
structure LPlace where
  kind : Int
  n : Int
structure LMove where
  dst : LPlace
  src : LPlace
  cst : Bool
  n : Int
def LPlace.zero : LPlace := ⟨0, 0⟩
def LMove.zero : LMove := ⟨.zero, .zero, false, 0⟩
def LPlace.val (p : LPlace) : Value := .agg #[.int .i64 p.kind, .int .i64 p.n]
def LMove.val (m : LMove) : Value := .agg #[.int .i64 m.dst.kind, .int .i64 m.dst.n, .int .i64 m.src.kind, .int .i64 m.src.n, .bool m.cst, .int .u32 m.n]
def targetV (s : Int) : Value := .agg #[.int .i64 s]
def targetB (s : Int) : Bool := s == 4 || s == 6 || s == 8 || s == 10 || s == 12 || s == 14 || s == 16
def isB (s slots : Int) (p : LPlace) : Bool :=
  if p.kind = 1 then decide (0 ≤ p.n) && decide (p.n < s) else if p.kind = 2 then decide (0 ≤ p.n) && decide (2 * p.n < s) && decide (p.n < 100)
  else if p.kind = 3 then decide (0 ≤ p.n) && decide (p.n < slots) else false
def overB (a b : LPlace) : Bool :=
  if a.kind = b.kind then decide (a.n = b.n) else if a.kind = 1 ∧ b.kind = 2 then decide (a.n = 2 * b.n ∨ a.n = 2 * b.n + 1) else if a.kind = 2 ∧ b.kind = 1 then decide (b.n = 2 * a.n ∨ b.n = 2 * a.n + 1) else false
def moveB (s slots : Int) (m : LMove) : Bool :=
  isB s slots m.dst && (if m.cst then (m.src.kind == 0) && (m.src.n == 0) && (m.dst.kind == 1)
    else (m.n == 0) && isB s slots m.src && (if m.dst.kind == 3 then m.src.kind != 3 else (m.src.kind == 3) || (m.src.kind == m.dst.kind)))
end form
/- What the document's functions on moves answer: move, moves, register. -/
namespace form
open Go.RowKit
attribute [local go_sem ↓] Go.wp_at_zero Go.wp_at_succ
def MovesIs (w : World) (v : Value) (l : List LMove) : Prop :=
  ∃ ao cap, v = .slice ao l.length cap ∧ l.length ≤ 9223372036854775807 ∧ (0 < l.length → ∃ b o, ao = some ⟨b, o, none⟩ ∧ b < w.heap.size ∧ ∀ k, k < l.length → w.cell? ⟨b, o + k * 6, none⟩ = some (.int .i64 (l.getD k .zero).dst.kind) ∧ w.cell? ⟨b, o + k * 6 + 1, none⟩ = some (.int .i64 (l.getD k .zero).dst.n) ∧ w.cell? ⟨b, o + k * 6 + 2, none⟩ = some (.int .i64 (l.getD k .zero).src.kind) ∧ w.cell? ⟨b, o + k * 6 + 3, none⟩ = some (.int .i64 (l.getD k .zero).src.n) ∧ w.cell? ⟨b, o + k * 6 + 4, none⟩ = some (.bool (l.getD k .zero).cst) ∧ w.cell? ⟨b, o + k * 6 + 5, none⟩ = some (.int .u32 (l.getD k .zero).n))
theorem MovesIs.later {w w' : World} {v : Value} {l : List LMove} (h : MovesIs w v l) (hb : Below w.heap.size w w') : MovesIs w' v l := by
  obtain ⟨ao, cap, hv, hl, hc⟩ := h
  refine ⟨ao, cap, hv, hl, fun h0 => ?_⟩
  obtain ⟨b, o, e, hlt, hcell⟩ := hc h0
  refine ⟨b, o, e, Nat.lt_of_lt_of_le hlt hb.size, fun k hk => ?_⟩
  obtain ⟨c0, c1, c2, c3, c4, c5⟩ := hcell k hk
  exact ⟨step_cell hb c0, step_cell hb c1, step_cell hb c2, step_cell hb c3, step_cell hb c4, step_cell hb c5⟩
def movesB (s slots : Int) (l : List LMove) : Bool := decide (l.length ≤ 6) && l.all (moveB s slots)
def regB (B : List Bool) (s : Int) (t : Int) (p : LPlace) : Bool := (p.kind == if B.getD t.toNat false then 2 else 1) && isB s 0 p
end form
/- What the document's function on places (loanbookref6.May) answers. -/
namespace form
open Go.RowKit
attribute [local go_sem ↓] Go.wp_at_zero Go.wp_at_succ
structure LRow where
  dest : LPlace
  a : LPlace
  b : LPlace
  before : List LMove
  after : List LMove
def LRow.zero : LRow := ⟨.zero, .zero, .zero, [], []⟩
structure RowsHeld (w : World) (b2 o2 : Nat) (R : List LRow) : Prop where
  lt : b2 < w.heap.size
  rows : ∀ r, r < R.length → w.cell? ⟨b2, o2 + r * 8, none⟩ = some (.int .i64 (R.getD r .zero).dest.kind) ∧ w.cell? ⟨b2, o2 + r * 8 + 1, none⟩ = some (.int .i64 (R.getD r .zero).dest.n) ∧ w.cell? ⟨b2, o2 + r * 8 + 2, none⟩ = some (.int .i64 (R.getD r .zero).a.kind) ∧ w.cell? ⟨b2, o2 + r * 8 + 3, none⟩ = some (.int .i64 (R.getD r .zero).a.n) ∧ w.cell? ⟨b2, o2 + r * 8 + 4, none⟩ = some (.int .i64 (R.getD r .zero).b.kind) ∧ w.cell? ⟨b2, o2 + r * 8 + 5, none⟩ = some (.int .i64 (R.getD r .zero).b.n) ∧
    ∃ vb va, w.cell? ⟨b2, o2 + r * 8 + 6, none⟩ = some vb ∧ w.cell? ⟨b2, o2 + r * 8 + 7, none⟩ = some va ∧ MovesIs w vb (R.getD r .zero).before ∧ MovesIs w va (R.getD r .zero).after
theorem RowsHeld.later {w w' : World} {b2 o2 : Nat} {R : List LRow} (h : RowsHeld w b2 o2 R) (hb : Below w.heap.size w w') : RowsHeld w' b2 o2 R := by
  refine ⟨Nat.lt_of_lt_of_le h.lt hb.size, fun r hr => ?_⟩
  obtain ⟨c0, c1, c2, c3, c4, c5, vb, va, c6, c7, m0, m1⟩ := h.rows r hr
  exact ⟨step_cell hb c0, step_cell hb c1, step_cell hb c2, step_cell hb c3, step_cell hb c4, step_cell hb c5, vb, va, step_cell hb c6, step_cell hb c7, m0.later hb, m1.later hb⟩
def PlacedIs (w : World) (v : Value) (slots : Int) (R : List LRow) : Prop :=
  ∃ ao cap, v = .agg #[.int .i64 slots, .slice ao R.length cap] ∧ R.length ≤ 9223372036854775807 ∧ (0 < R.length → ∃ b2 o2, ao = some ⟨b2, o2, none⟩ ∧ RowsHeld w b2 o2 R)
theorem PlacedIs.later {w w' : World} {v : Value} {slots : Int} {R : List LRow} (h : PlacedIs w v slots R) (hb : Below w.heap.size w w') : PlacedIs w' v slots R := by
  obtain ⟨ao, cap, hv, hl, hc⟩ := h
  refine ⟨ao, cap, hv, hl, fun h0 => ?_⟩
  obtain ⟨b2, o2, e, hr⟩ := hc h0
  exact ⟨b2, o2, e, hr.later hb⟩
def fieldP (B : List Bool) (s : Int) (there : Bool) (t : Int) (p : LPlace) : Bool := if there then regB B s t p else !(p.kind != 0 || p.n != 0)
def rowB (B : List Bool) (s slots : Int) (i : LIns) (r : LRow) : Bool :=
  fieldP B s (givesB i.op) i.dest r.dest && fieldP B s (decide (0 < manyI i.op)) i.a r.a && fieldP B s (decide (1 < manyI i.op)) i.b r.b &&
  movesB s slots r.before && movesB s slots r.after && !((i.op == 8 || i.op == 9 || i.op == 10) && decide (0 < r.after.length))
def placeMayB (B : List Bool) (C : List LIns) (s slots : Int) (R : List LRow) : Bool :=
  refMayB B C && targetB s && !decide (slots < 0) && !decide (12 < slots) && decide (R.length = C.length) && (List.range C.length).all (fun k => rowB B s slots (C.getD k .zero) (R.getD k .zero))
end form
/- What a script has made, in memory; what the layers answer. -/
namespace form
open Go.RowKit
def insCs (i : LIns) : List Value := [.int .i64 i.op, .int .i64 i.dest, .int .i64 i.a, .int .i64 i.b, .int .i64 i.c, .int .u32 i.n]
theorem insFlat : ∀ {l : List LIns} {q j : Nat}, q < l.length → j < 6 → (l.flatMap insCs)[q * 6 + j]? = (insCs (l.getD q .zero))[j]?
  | f :: l, 0, j, _, hj => by
    rw [List.flatMap_cons, Nat.zero_mul, Nat.zero_add, List.getElem?_append_left (by simp [insCs]; exact hj)]
    rfl
  | f :: l, q + 1, j, hq, hj => by
    rw [List.flatMap_cons, List.getElem?_append_right (by simp [insCs]; omega)]
    have e : (q + 1) * 6 + j - (insCs f).length = q * 6 + j := by simp [insCs]; omega
    rw [e, insFlat (by simpa using hq) hj]
    rfl
theorem row_form {w : World} {base : Nat} {e : TypeId} {size n : Nat} {v : Value} {xs : List Value} (h : w.ownsRow base e size v n xs) : ∃ ao cap, v = .slice ao n cap ∧ n ≤ cap ∧ (0 < n → ∃ b, ao = some ⟨b, 0, none⟩ ∧ base ≤ b ∧ b < w.heap.size) := by
  rcases h.2 with ⟨rfl, rfl⟩ | ⟨g, cap, cur, rfl, h1, h2, h3, h4⟩
  · exact ⟨none, 0, rfl, Nat.le_refl _, fun h => absurd h (by omega)⟩
  · refine ⟨_, cap, rfl, h3, fun _ => ⟨g, rfl, h1, ?_⟩⟩
    by_cases hg : g < w.heap.size
    · exact hg
    · rw [Array.getElem?_eq_none (by omega)] at h2; cases h2
theorem row_mono {w : World} {b0 b1 : Nat} {e : TypeId} {size n : Nat} {v : Value} {xs : List Value} (h : w.ownsRow b1 e size v n xs) (hb : b0 ≤ b1) : w.ownsRow b0 e size v n xs := by
  refine ⟨h.1, ?_⟩
  rcases h.2 with h2 | ⟨g, cap, cur, h1, h2, h3⟩
  · exact Or.inl h2
  · exact Or.inr ⟨g, cap, cur, h1, by omega, h3⟩
theorem set_grown (w : World) (q k : Nat) (u : Value) : w.grownBy (w.setCell ⟨q, k, none⟩ u) (some q) :=
  ⟨rfl, rfl, rfl, by simp [World.setCell], fun j hj hne => Below.heap_setCell _ _ _ _ (fun e => hne (by rw [e]))⟩
theorem row_set {w : World} {base : Nat} {e : TypeId} {size n : Nat} {v : Value} {xs : List Value} (h : w.ownsRow base e size v n xs) {q : Nat} (hq : v.ownBlock ≠ some q) (k : Nat) (u : Value) : (w.setCell ⟨q, k, none⟩ u).ownsRow base e size v n xs := World.ownsRow.kept h (set_grown w q k u) (Or.inr hq)
structure PlS (base q : Nat) (g : PL) (wv cv iv : Value) (w : World) : Prop where
  lo : base ≤ q
  c0 : w.cell? ⟨q, 0, none⟩ = some wv
  c1 : w.cell? ⟨q, 1, none⟩ = some cv
  c2 : w.cell? ⟨q, 2, none⟩ = some iv
  f0 : w.frozen? ⟨q, 0, none⟩ = false
  f1 : w.frozen? ⟨q, 1, none⟩ = false
  f2 : w.frozen? ⟨q, 2, none⟩ = false
  wide : w.ownsRow base 4 1 wv g.wide.length (g.wide.map Value.bool)
  code : w.ownsRow base 74 6 cv g.code.length (g.code.flatMap insCs)
  ins : w.ownsRow base 60 1 iv g.ins.length (g.ins.map (Value.int .u32))
  aw : wv.ownBlock ≠ some q
  ac : cv.ownBlock ≠ some q
  ai : iv.ownBlock ≠ some q
  wc : wv.ownBlock = none ∨ wv.ownBlock ≠ cv.ownBlock
  wi : wv.ownBlock = none ∨ wv.ownBlock ≠ iv.ownBlock
  ci : cv.ownBlock = none ∨ cv.ownBlock ≠ iv.ownBlock
  bw : g.wide.length ≤ 12
  bc : g.code.length ≤ 40
  bi : g.ins.length ≤ 4000000
  oc : ∀ i, i ∈ g.code → 0 ≤ i.n ∧ i.n < 4294967296
  oi : ∀ x, x ∈ g.ins → 0 ≤ x ∧ x < 4294967296
section
variable {base q : Nat} {g : PL} {wv cv iv : Value} {w w1 w9 : World}
theorem PlS.lt (h : PlS base q g wv cv iv w) : q < w.heap.size := World.block_lt_of_cell? w _ h.c0
theorem PlS.below (h : PlS base q g wv cv iv w) (hb : Below w.heap.size w w1) : PlS base q g wv cv iv w1 :=
  ⟨h.lo, step_cell hb h.c0, step_cell hb h.c1, step_cell hb h.c2, by rw [World.frozen?_of_block (w := w) (hb.block q h.lt)]; exact h.f0, by rw [World.frozen?_of_block (w := w) (hb.block q h.lt)]; exact h.f1, by rw [World.frozen?_of_block (w := w) (hb.block q h.lt)]; exact h.f2, rowStr_below h.wide hb, rowStr_below h.code hb, rowStr_below h.ins hb, h.aw, h.ac, h.ai, h.wc, h.wi, h.ci, h.bw, h.bc, h.bi, h.oc, h.oi⟩
theorem PlS.prog (h : PlS base q g wv cv iv w) : ProgIs w (.agg #[wv, cv]) g.wide g.code := by
  obtain ⟨a0, c0, rfl, -, k0⟩ := row_form h.wide
  obtain ⟨a1, c1, rfl, -, k1⟩ := row_form h.code
  refine ⟨⟨a0, c0, a1, c1, rfl, fun e0 e1 => ?_⟩, by have := h.bw; omega, by have := h.bc; omega, fun i hi => h.oc _ (by simp [List.getD, hi])⟩
  obtain ⟨b0, rfl, _, l0⟩ := k0 e0
  obtain ⟨b1, rfl, _, l1⟩ := k1 e1
  refine ⟨b0, 0, b1, 0, rfl, rfl, l0, l1, fun i hi => ?_, fun i hi => ?_⟩
  · rw [Nat.zero_add, World.ownsRow.cellAt h.wide i (by omega)]
    simp [List.getD, hi]
  · have key : ∀ j, j < 6 → w.cell? ⟨b1, i * 6 + j, none⟩ = (insCs (g.code.getD i .zero))[j]? := fun j hj => by
      rw [World.ownsRow.cellAt h.code _ (by omega), insFlat hi hj]
    simp only [Nat.zero_add]
    exact ⟨key 0 (by omega), key 1 (by omega), key 2 (by omega), key 3 (by omega), key 4 (by omega), key 5 (by omega)⟩
theorem PlS.inArg (h : PlS base q g wv cv iv w) : InArg w iv g.ins := by
  obtain ⟨ao, cap, rfl, hc, k0⟩ := row_form h.ins
  refine ⟨ao, cap, rfl, hc, by have := h.bi; omega, fun j hj => h.oi _ (by simp [List.getD, hj]), fun h0 => ?_⟩
  obtain ⟨b, rfl, _, hl⟩ := k0 h0
  refine ⟨b, 0, rfl, hl, fun j hj => ?_⟩
  rw [Nat.zero_add, World.ownsRow.cellAt h.ins j (by omega)]
  simp [List.getD, hj]
theorem PlS.neW (h : PlS base q g wv cv iv w) : some q ≠ wv.ownBlock := fun e => h.aw e.symm
theorem PlS.setW (h : PlS base q g wv cv iv w) {b : Bool} {g9 cap : Nat} (hl : g.wide.length < 12) (hown : w9.ownsRow base 4 1 (.slice (some ⟨g9, 0, none⟩) (g.wide.length + 1) cap) (g.wide.length + 1) (g.wide.map Value.bool ++ [.bool b])) (hgrow : w.grownBy w9 wv.ownBlock) (hat : wv.ownBlock = some g9 ∨ g9 = w.heap.size) :
    PlS base q ⟨g.wide ++ [b], g.code, g.ins⟩ (.slice (some ⟨g9, 0, none⟩) (g.wide.length + 1) cap) cv iv (w9.setCell ⟨q, 0, none⟩ (.slice (some ⟨g9, 0, none⟩) (g.wide.length + 1) cap)) := by
  have hq := h.lt
  have d0 : w9.cell? ⟨q, 0, none⟩ = some wv := by rw [hgrow.cell_far _ (by exact hq) h.neW]; exact h.c0
  have d1 : w9.cell? ⟨q, 1, none⟩ = some cv := by rw [hgrow.cell_far _ (by exact hq) h.neW]; exact h.c1
  have d2 : w9.cell? ⟨q, 2, none⟩ = some iv := by rw [hgrow.cell_far _ (by exact hq) h.neW]; exact h.c2
  have hbq : w9.heap[q]? = w.heap[q]? := hgrow.block q hq h.neW
  have e0 : w9.frozen? ⟨q, 0, none⟩ = false := by rw [World.frozen?_of_block (w := w) hbq]; exact h.f0
  have e1 : w9.frozen? ⟨q, 1, none⟩ = false := by rw [World.frozen?_of_block (w := w) hbq]; exact h.f1
  have e2 : w9.frozen? ⟨q, 2, none⟩ = false := by rw [World.frozen?_of_block (w := w) hbq]; exact h.f2
  have hne : ∀ {y : Value}, (∀ b, y.ownBlock = some b → b < w.heap.size) → (wv.ownBlock = none ∨ wv.ownBlock ≠ y.ownBlock) → (some g9 : Option Nat) ≠ y.ownBlock := fun {y} hy hw e => by
    rcases hat with hat | hat
    · rcases hw with hw | hw
      · rw [hat] at hw; cases hw
      · exact hw (by rw [hat, e])
    · have := hy g9 e.symm
      omega
  have lc : ∀ b, cv.ownBlock = some b → b < w.heap.size := fun b e => (World.ownsRow.lt h.code b e).2
  have li : ∀ b, iv.ownBlock = some b → b < w.heap.size := fun b e => (World.ownsRow.lt h.ins b e).2
  have hgq : g9 ≠ q := by
    rcases hat with hat | hat
    · intro e; rw [e] at hat; exact h.aw hat
    · omega
  have hko : ∀ {y : Value}, (wv.ownBlock = none ∨ wv.ownBlock ≠ y.ownBlock) → y.ownBlock = none ∨ y.ownBlock ≠ wv.ownBlock := fun {y} hw => by
    rcases hw with hw | hw
    · cases hy : y.ownBlock with
      | none => exact Or.inl rfl
      | some b => right; rw [hw]; simp
    · exact Or.inr (Ne.symm hw)
  refine ⟨h.lo, by simp [go_sem, d0], by simp [go_sem, d1], by simp [go_sem, d2], by simpa [go_sem] using e0, by simpa [go_sem] using e1, by simpa [go_sem] using e2, ?_, ?_, ?_, by simpa [Value.ownBlock] using hgq, h.ac, h.ai, Or.inr (hne lc h.wc), Or.inr (hne li h.wi), h.ci, by simp; omega, h.bc, h.bi, h.oc, h.oi⟩
  · have := row_set hown (q := q) (by simpa [Value.ownBlock] using hgq) 0 (.slice (some ⟨g9, 0, none⟩) (g.wide.length + 1) cap)
    simpa using this
  · exact row_set (World.ownsRow.kept h.code hgrow (hko h.wc)) h.ac 0 _
  · exact row_set (World.ownsRow.kept h.ins hgrow (hko h.wi)) h.ai 0 _
theorem PlS.neC (h : PlS base q g wv cv iv w) : some q ≠ cv.ownBlock := fun e => h.ac e.symm
theorem PlS.setC (h : PlS base q g wv cv iv w) {i : LIns} {g9 cap : Nat} (hl : g.code.length < 40) (hi : 0 ≤ i.n ∧ i.n < 4294967296) (hown : w9.ownsRow base 74 6 (.slice (some ⟨g9, 0, none⟩) (g.code.length + 1) cap) (g.code.length + 1) (g.code.flatMap insCs ++ insCs i)) (hgrow : w.grownBy w9 cv.ownBlock) (hat : cv.ownBlock = some g9 ∨ g9 = w.heap.size) :
    PlS base q ⟨g.wide, g.code ++ [i], g.ins⟩ wv (.slice (some ⟨g9, 0, none⟩) (g.code.length + 1) cap) iv (w9.setCell ⟨q, 1, none⟩ (.slice (some ⟨g9, 0, none⟩) (g.code.length + 1) cap)) := by
  have hq := h.lt
  have d0 : w9.cell? ⟨q, 0, none⟩ = some wv := by rw [hgrow.cell_far _ (by exact hq) h.neC]; exact h.c0
  have d1 : w9.cell? ⟨q, 1, none⟩ = some cv := by rw [hgrow.cell_far _ (by exact hq) h.neC]; exact h.c1
  have d2 : w9.cell? ⟨q, 2, none⟩ = some iv := by rw [hgrow.cell_far _ (by exact hq) h.neC]; exact h.c2
  have hbq : w9.heap[q]? = w.heap[q]? := hgrow.block q hq h.neC
  have e0 : w9.frozen? ⟨q, 0, none⟩ = false := by rw [World.frozen?_of_block (w := w) hbq]; exact h.f0
  have e1 : w9.frozen? ⟨q, 1, none⟩ = false := by rw [World.frozen?_of_block (w := w) hbq]; exact h.f1
  have e2 : w9.frozen? ⟨q, 2, none⟩ = false := by rw [World.frozen?_of_block (w := w) hbq]; exact h.f2
  have lw : ∀ b, wv.ownBlock = some b → b < w.heap.size := fun b e => (World.ownsRow.lt h.wide b e).2
  have li : ∀ b, iv.ownBlock = some b → b < w.heap.size := fun b e => (World.ownsRow.lt h.ins b e).2
  have hgq : g9 ≠ q := by
    rcases hat with hat | hat
    · intro e; rw [e] at hat; exact h.ac hat
    · omega
  have kw : wv.ownBlock = none ∨ wv.ownBlock ≠ cv.ownBlock := h.wc
  have ki : iv.ownBlock = none ∨ iv.ownBlock ≠ cv.ownBlock := by
    rcases h.ci with hw | hw
    · cases hy : iv.ownBlock with
      | none => exact Or.inl rfl
      | some b => right; rw [hw]; simp
    · exact Or.inr (Ne.symm hw)
  have nw : wv.ownBlock = none ∨ wv.ownBlock ≠ some g9 := by
    cases hy : wv.ownBlock with
    | none => exact Or.inl rfl
    | some b =>
      right
      intro e
      have eb := Option.some.inj e
      rcases hat with hat | hat
      · rcases kw with kw | kw
        · rw [hy] at kw; cases kw
        · exact kw (by rw [hy, hat, eb])
      · have := lw b hy; omega
  have ni : (some g9 : Option Nat) ≠ iv.ownBlock := fun e => by
    rcases hat with hat | hat
    · rcases h.ci with hw | hw
      · rw [hat] at hw; cases hw
      · exact hw (by rw [hat, e])
    · have := li g9 e.symm; omega
  refine ⟨h.lo, by simp [go_sem, d0], by simp [go_sem, d1], by simp [go_sem, d2], by simpa [go_sem] using e0, by simpa [go_sem] using e1, by simpa [go_sem] using e2, ?_, ?_, ?_, h.aw, by simpa [Value.ownBlock] using hgq, h.ai, nw, h.wi, Or.inr ni, h.bw, by simp; omega, h.bi, fun x hx => ?_, h.oi⟩
  · exact row_set (World.ownsRow.kept h.wide hgrow kw) h.aw 1 _
  · have := row_set hown (q := q) (by simpa [Value.ownBlock] using hgq) 1 (.slice (some ⟨g9, 0, none⟩) (g.code.length + 1) cap)
    simpa using this
  · exact row_set (World.ownsRow.kept h.ins hgrow ki) h.ai 1 _
  · rcases List.mem_append.1 hx with h1 | h1
    · exact h.oc x h1
    · have : x = i := by simpa using h1
      rw [this]; exact hi
theorem PlS.setI (h : PlS base q g wv cv iv w) {l : List Int} {lo : Nat} {lv : Value} (hown : w.ownsRow lo 60 1 lv l.length (l.map (Value.int .u32))) (hlo : base ≤ lo) (hq : q < lo) (hw : ∀ b, wv.ownBlock = some b → b < lo) (hc : ∀ b, cv.ownBlock = some b → b < lo) (hl : l.length ≤ 4000000) (hx : ∀ x, x ∈ l → 0 ≤ x ∧ x < 4294967296) :
    PlS base q ⟨g.wide, g.code, l⟩ wv cv lv (w.setCell ⟨q, 2, none⟩ lv) := by
  have nq : lv.ownBlock ≠ some q := fun e => by have := (World.ownsRow.lt hown q e).1; omega
  have far : ∀ {y : Value}, (∀ b, y.ownBlock = some b → b < lo) → y.ownBlock = none ∨ y.ownBlock ≠ lv.ownBlock := fun {y} hy => by
    cases e : y.ownBlock with
    | none => exact Or.inl rfl
    | some b =>
      right
      intro e2
      have h1 := hy b e
      have h2 := (World.ownsRow.lt hown b e2.symm).1
      omega
  have h0 := h.f0
  have h1 := h.f1
  have h2 := h.f2
  exact ⟨h.lo, by simp [go_sem, h.c0], by simp [go_sem, h.c1], by simp [go_sem, h.c2], by simpa [go_sem] using h0, by simpa [go_sem] using h1, by simpa [go_sem] using h2, row_set h.wide h.aw 2 _, row_set h.code h.ac 2 _, row_set (row_mono hown hlo) nq 2 _, h.aw, h.ac, nq, h.wc, far hw, far hc, h.bw, h.bc, hl, h.oc, hx⟩
end
/-! What the layers answer. -/
def RunIs (r : RunR) (w : World) (e : Ending) (w' : World) : Prop := (∃ sv, e = .returned (.tuple #[sv, .int .i64 r.err]) ∧ ShownIs w' sv r.state r.out r.steps) ∧ Below w.heap.size w w'
def rowCount (X : Nat → Nat → Bool) (a b : Nat) : Nat := ((List.range b).filter (fun y => X a y)).length
def pairCount (X : Nat → Nat → Bool) (n : Nat) : Nat := ((List.range n).map (fun a => rowCount X a a)).sum
theorem rowCount_step (X : Nat → Nat → Bool) (a b : Nat) : rowCount X a (b + 1) = rowCount X a b + (if X a b = true then 1 else 0) := by
  unfold rowCount
  rw [List.range_succ, List.filter_append, List.length_append]
  congr 1
  cases h : X a b <;> simp [List.filter, h]
theorem pairCount_step (X : Nat → Nat → Bool) (n : Nat) : pairCount X (n + 1) = pairCount X n + rowCount X n n := by
  unfold pairCount
  rw [List.range_succ, List.map_append, List.sum_append]
  simp
theorem rowCount_le (X : Nat → Nat → Bool) (a b : Nat) : rowCount X a b ≤ b := by
  unfold rowCount
  have := List.length_filter_le (fun y => X a y) (List.range b)
  simpa using this
theorem pairCount_le (X : Nat → Nat → Bool) (m : Nat) : ∀ n, n ≤ m → pairCount X n ≤ n * m := by
  intro n
  induction n with
  | zero => intro _; simp [pairCount]
  | succ n ih =>
    intro h
    rw [pairCount_step, Nat.succ_mul]
    have := ih (by omega)
    have := rowCount_le X n n
    omega
def NearIs (r : Int × Nat) (n : Nat) (w : World) (e : Ending) (w' : World) : Prop :=
  ((¬ r.1 = 0 ∧ 0 ≤ r.1 ∧ r.1 < 9223372036854775808 ∧ ∃ ao c, e = .returned (.tuple #[.slice ao 0 c, .int .i64 r.1])) ∨
    (r.1 = 0 ∧ ∃ (X : Nat → Nat → Bool) (b cap : Nat) (R : Nat → Nat × Nat), e = .returned (.tuple #[.slice (some ⟨b, 0, none⟩) n cap, .int .i64 0]) ∧ r.2 = pairCount X n ∧
      ∀ a, a < n → w'.cell? ⟨b, a, none⟩ = some (.slice (some ⟨(R a).1, 0, none⟩) n (R a).2) ∧ ∀ c, c < n → w'.cell? ⟨(R a).1, c, none⟩ = some (.bool (X a c)))) ∧ Below w.heap.size w w'
def PutIs (r : Int × Nat) (w : World) (e : Ending) (w' : World) : Prop := (∃ ao n c, e = .returned (.tuple #[.slice ao n c, .int .i64 r.1]) ∧ 0 ≤ r.1 ∧ r.1 < 9223372036854775808 ∧ (r.1 = 0 → n = r.2 ∧ n < 9223372036854775808)) ∧ Below w.heap.size w w'
def PlacesOk (L : Lay) (B : List Bool) (C : List LIns) (s : Nat) (lv : Value) (er : Int) (w' : World) : Prop := 0 ≤ er ∧ er < 9223372036854775808 ∧
    (¬ er = 0 → L.bytes B C s = (er, 0) ∧ ∀ I steps, (L.on B C s I steps).err = er) ∧
    (er = 0 → ∃ slots R, PlacedIs w' lv slots R ∧ (∀ (wx : World) (pv iv : Value) (I : List Int) (steps : Nat), PlacedIs wx lv slots R → ProgIs wx pv B C → InArg wx iv I → Calls Tryz.prog 40 #[pv, .agg #[.int .i64 (s : Int)], lv, iv, .int .i64 (steps : Int)] wx fun e2 w2 => RunIs (L.on B C s I steps) wx e2 w2) ∧
      (∀ wx : World, PlacedIs wx lv slots R → Calls Tryz.prog 42 #[lv] wx fun e2 w2 => PutIs (L.bytes B C s) wx e2 w2))
def BuildIs (L : Lay) (B : List Bool) (C : List LIns) (s : Nat) (w : World) (e : Ending) (w' : World) : Prop :=
  (∃ sl ao n c er, e = .returned (.tuple #[.agg #[.int .i64 sl, .slice ao n c], .int .i64 er]) ∧ PlacesOk L B C s (.agg #[.int .i64 sl, .slice ao n c]) er w') ∧ Below w.heap.size w w'
structure LayIs (L : Lay) : Prop where
  rok : ∀ (B : List Bool) (C : List LIns) (I : List Int) (st : Nat), (∀ i, i ∈ C → 0 ≤ i.n ∧ i.n < 4294967296) → (∀ x, x ∈ I → 0 ≤ x ∧ x < 4294967296) → RunOk (L.run B C I st)
  ook : ∀ (B : List Bool) (C : List LIns) (s : Nat) (I : List Int) (st : Nat), (∀ i, i ∈ C → 0 ≤ i.n ∧ i.n < 4294967296) → (∀ x, x ∈ I → 0 ≤ x ∧ x < 4294967296) → RunOk (L.on B C s I st)
  run : ∀ (pv iv : Value) (B : List Bool) (C : List LIns) (I : List Int) (steps : Nat) (w : World), ProgIs w pv B C → InArg w iv I → Calls Tryz.prog 20 #[pv, iv, .int .i64 (steps : Int)] w fun e w' => RunIs (L.run B C I steps) w e w'
  near : ∀ (pv : Value) (B : List Bool) (C : List LIns) (w : World), ProgIs w pv B C → B.length ≤ 12 → Calls Tryz.prog 41 #[pv] w fun e w' => NearIs (L.near B C) B.length w e w'
  build : ∀ (pv : Value) (B : List Bool) (C : List LIns) (s : Nat) (w : World), ProgIs w pv B C → Calls Tryz.prog 39 #[pv, .agg #[.int .i64 (s : Int)]] w fun e w' => BuildIs L B C s w e w'
end form
end Go.Proofs.YtikhedkhgpjaaacGreatDoor
