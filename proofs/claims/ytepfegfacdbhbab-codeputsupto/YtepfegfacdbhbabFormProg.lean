/- A program (api.Prog) as it lies in memory: the wide marks, the instructions, cell by cell; it stays where the world only grows. -/
import Derived.WalkKit
import Derived.Below
import Derived.OwnWalk
namespace Go.Proofs.Ytepfegfacdbhbab.form
open Go.RowKit

theorem step_below {w a b : World} (hb : Below a.heap.size a b) (h : Below w.heap.size w a) : Below w.heap.size w b := h.trans (hb.mono h.size)
theorem step_cell {a b : World} (hb : Below a.heap.size a b) {p : Addr} {v : Value} (h : a.cell? p = some v) : b.cell? p = some v := by
  have hp : p.block < a.heap.size := by
    unfold World.cell? at h
    by_cases hlt : p.block < a.heap.size
    · exact hlt
    · rw [Array.getElem?_eq_none (by omega)] at h; simp at h
  rw [hb.cell hp]; exact h

theorem over_alloc {w w1 : World} {o : Obj} (hb : Below (w.alloc o).heap.size (w.alloc o) w1) : Below w.heap.size w w1 :=
  ((Below.refl _ _).alloc (Nat.le_refl _) _).trans (hb.mono (by simp))

structure LIns where
  op : Int
  dest : Int
  a : Int
  b : Int
  c : Int
  n : Int

def LIns.zero : LIns := ⟨0, 0, 0, 0, 0, 0⟩
def LIns.val (i : LIns) : Value := .agg #[.int .i64 i.op, .int .i64 i.dest, .int .i64 i.a, .int .i64 i.b, .int .i64 i.c, .int .u32 i.n]

/-- The value of a program: two slices. -/
def progV (b0 o0 n0 c0 b1 o1 n1 c1 : Nat) : Value := .agg #[.slice (some ⟨b0, o0, none⟩) n0 c0, .slice (some ⟨b1, o1, none⟩) n1 c1]

/-- The cells of a program's marks and instructions. -/
structure Held (w : World) (b0 o0 b1 o1 : Nat) (B : List Bool) (C : List LIns) : Prop where
  lt0 : b0 < w.heap.size
  lt1 : b1 < w.heap.size
  wide : ∀ i, i < B.length → w.cell? ⟨b0, o0 + i, none⟩ = some (.bool (B.getD i false))
  code : ∀ i, i < C.length → w.cell? ⟨b1, o1 + i * 6, none⟩ = some (.int .i64 (C.getD i .zero).op) ∧ w.cell? ⟨b1, o1 + i * 6 + 1, none⟩ = some (.int .i64 (C.getD i .zero).dest) ∧
    w.cell? ⟨b1, o1 + i * 6 + 2, none⟩ = some (.int .i64 (C.getD i .zero).a) ∧ w.cell? ⟨b1, o1 + i * 6 + 3, none⟩ = some (.int .i64 (C.getD i .zero).b) ∧
    w.cell? ⟨b1, o1 + i * 6 + 4, none⟩ = some (.int .i64 (C.getD i .zero).c) ∧ w.cell? ⟨b1, o1 + i * 6 + 5, none⟩ = some (.int .u32 (C.getD i .zero).n)

theorem Held.later {w w' : World} {b0 o0 b1 o1 : Nat} {B : List Bool} {C : List LIns} (h : Held w b0 o0 b1 o1 B C) (hb : Below w.heap.size w w') : Held w' b0 o0 b1 o1 B C := by
  refine ⟨Nat.lt_of_lt_of_le h.lt0 hb.size, Nat.lt_of_lt_of_le h.lt1 hb.size, fun i hi => ?_, fun i hi => ?_⟩
  · rw [hb.cell (p := ⟨b0, o0 + i, none⟩) h.lt0]; exact h.wide i hi
  · obtain ⟨c0, c1, c2, c3, c4, c5⟩ := h.code i hi
    refine ⟨?_, ?_, ?_, ?_, ?_, ?_⟩
    · rw [hb.cell (p := ⟨b1, _, none⟩) h.lt1]; exact c0
    · rw [hb.cell (p := ⟨b1, _, none⟩) h.lt1]; exact c1
    · rw [hb.cell (p := ⟨b1, _, none⟩) h.lt1]; exact c2
    · rw [hb.cell (p := ⟨b1, _, none⟩) h.lt1]; exact c3
    · rw [hb.cell (p := ⟨b1, _, none⟩) h.lt1]; exact c4
    · rw [hb.cell (p := ⟨b1, _, none⟩) h.lt1]; exact c5

/-- Behind a new block. -/
theorem Held.alloc {w : World} {b0 o0 b1 o1 : Nat} {B : List Bool} {C : List LIns} (h : Held w b0 o0 b1 o1 B C) (o : Obj) : Held (w.alloc o) b0 o0 b1 o1 B C :=
  h.later ((Below.refl _ _).alloc (Nat.le_refl _) _)

theorem Held.drew {w : World} {b0 o0 b1 o1 : Nat} {B : List Bool} {C : List LIns} (h : Held w b0 o0 b1 o1 B C) : Held w.drew b0 o0 b1 o1 B C :=
  h.later ((Below.refl _ _).drew)

/-- A program that came in: whatever its lengths. -/
structure ProgIs (w : World) (v : Value) (B : List Bool) (C : List LIns) : Prop where
  val : ∃ a0 c0 a1 c1, v = .agg #[.slice a0 B.length c0, .slice a1 C.length c1] ∧ (1 ≤ B.length → 1 ≤ C.length → ∃ b0 o0 b1 o1, a0 = some ⟨b0, o0, none⟩ ∧ a1 = some ⟨b1, o1, none⟩ ∧ Held w b0 o0 b1 o1 B C)
  lenB : B.length ≤ 9223372036854775807
  lenC : C.length ≤ 9223372036854775807
  num : ∀ i, i < C.length → 0 ≤ (C.getD i .zero).n ∧ (C.getD i .zero).n < 4294967296

theorem ProgIs.later {w w' : World} {v : Value} {B : List Bool} {C : List LIns} (h : ProgIs w v B C) (hb : Below w.heap.size w w') : ProgIs w' v B C := by
  obtain ⟨⟨a0, c0, a1, c1, hv, hh⟩, h1, h2, h3⟩ := h
  refine ⟨⟨a0, c0, a1, c1, hv, fun k0 k1 => ?_⟩, h1, h2, h3⟩
  obtain ⟨b0, o0, b1, o1, e0, e1, hH⟩ := hh k0 k1
  exact ⟨b0, o0, b1, o1, e0, e1, hH.later hb⟩

/-- The lengths that a program may have. -/
def sizesB (B : List Bool) (C : List LIns) : Bool := decide (1 ≤ B.length) && decide (B.length ≤ 12) && decide (1 ≤ C.length) && decide (C.length ≤ 40)

theorem sizes_of {B : List Bool} {C : List LIns} (h : sizesB B C = true) : 1 ≤ B.length ∧ B.length ≤ 12 ∧ 1 ≤ C.length ∧ C.length ≤ 40 := by
  unfold sizesB at h; simp at h; omega

end Go.Proofs.Ytepfegfacdbhbab.form
