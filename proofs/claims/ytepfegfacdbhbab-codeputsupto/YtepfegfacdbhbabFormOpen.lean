/- A program that came in as an argument (api.Prog) is read: its marks and its instructions. -/
import Derived.Test.YtepfegfacdbhbabRows
import Derived.WalkKit
import Derived.ProofKit
import Derived.OpenShut
import Derived.ChangeOld
import Derived.Lib.SmallJoins
import Derived.Deep.Slices
import Derived.Test.YtepfegfacdbhbabFormProg
namespace Go.Proofs.Ytepfegfacdbhbab.form
open Go.ChangeShapes Go.WideShapes Go.ChangeAt Go.RowKit Go.Joins Go.Deep
set_option linter.unusedVariables false

theorem cellsProg : Try.prog.cellsOf 25 = 2 := by kernel_rfl
theorem cellsIns : Try.prog.cellsOf 82 = 6 := by kernel_rfl
theorem cellsBool : Try.prog.cellsOf 4 = 1 := by kernel_rfl
theorem cellsInt : Try.prog.cellsOf 3 = 1 := by kernel_rfl
theorem cellsU32 : Try.prog.cellsOf 80 = 1 := by kernel_rfl

/-- The six numbers of an instruction. -/
abbrev Six := Int × Int × Int × Int × Int × Int
def six (x : Six) : LIns := ⟨x.1, x.2.1, x.2.2.1, x.2.2.2.1, x.2.2.2.2.1, x.2.2.2.2.2⟩
def sixV (x : Six) : List Value := [.int .i64 x.1, .int .i64 x.2.1, .int .i64 x.2.2.1, .int .i64 x.2.2.2.1, .int .i64 x.2.2.2.2.1, .int .u32 x.2.2.2.2.2]

section
variable {H : Type} {enc : TypeId × Value → H} {w : World} {spare : Nat → Bool} {held : Bool}

set_option maxRecDepth 100000 in
theorem open_ins {fuel : Nat} {cs : List Value} {x : DataW H × List MemPlace} (h : DataW.trod enc Try.prog w 0 spare held fuel 82 cs = some x) :
    ∃ s : Six, cs = sixV s ∧ 0 ≤ s.2.2.2.2.2 ∧ s.2.2.2.2.2 < 4294967296 := by
  obtain ⟨xs, n, _, _, hlen, hxs, hf⟩ := DataW.trod_struct Try.underlying82 h
  rw [cellsIns] at hlen
  match cs, hlen with
  | [v0, v1, v2, v3, v4, v5], _ =>
    have h0 := hf 0 _ rfl
    have h1 := hf 1 _ rfl
    have h2 := hf 2 _ rfl
    have h3 := hf 3 _ rfl
    have h4 := hf 4 _ rfl
    have h5 := hf 5 _ rfl
    simp [cellsInt, cellsU32] at h0 h1 h2 h3 h4 h5
    have l : xs.length = 6 := hxs
    rw [List.getElem?_eq_getElem (by omega)] at h0 h1 h2 h3 h4 h5
    obtain ⟨n0, e0, _, _⟩ := DataW.trod_int Try.underlying3 h0
    obtain ⟨n1, e1, _, _⟩ := DataW.trod_int Try.underlying3 h1
    obtain ⟨n2, e2, _, _⟩ := DataW.trod_int Try.underlying3 h2
    obtain ⟨n3, e3, _, _⟩ := DataW.trod_int Try.underlying3 h3
    obtain ⟨n4, e4, _, _⟩ := DataW.trod_int Try.underlying3 h4
    obtain ⟨n5, e5, _, w5⟩ := DataW.trod_int Try.underlying80 h5
    simp at e0 e1 e2 e3 e4 e5
    subst e0 e1 e2 e3 e4 e5
    obtain ⟨b1, b2⟩ := bounds_u32 w5
    exact ⟨(n0, n1, n2, n3, n4, n5), rfl, b1, by show n5 < 4294967296; omega⟩

set_option maxRecDepth 100000 in
theorem prog_is {b0 : Nat} {v : Value} {d : DataW H} {p : List MemPlace} {r : _} (hv : Value.okWide Try.prog w r b0 25 v) (h : DataW.Trod enc Try.prog w 0 spare held 25 v d p) :
    ∃ B C, ProgIs w v B C := by
  obtain ⟨c0, c1, y0, y1, n, rfl, -, -, hy0, hy1⟩ := open_agg2 Try.underlying25 (by kernel_rfl) cellsProg hv h
  have g0 : ∃ (B : List Bool) (a0 : Option Addr) (k0 : Nat), c0 = .slice a0 B.length k0 ∧ B.length ≤ 9223372036854775807 ∧ (1 ≤ B.length → ∃ b o, a0 = some ⟨b, o, none⟩ ∧ b < w.heap.size ∧ ∀ i, i < B.length → w.cell? ⟨b, o + i, none⟩ = some (.bool (B.getD i false))) := by
    rcases open_slice1 (e := 4) Try.underlying22 cellsBool hy0 with ⟨hc, _⟩ | ⟨a, len, cap, m, n', V, D, Pl, hc, _, hl, hm, hmm, _, hx⟩
    · simp at hc
      exact ⟨[], none, 0, hc, by simp, fun hh => absurd hh (by simp)⟩
    · simp at hc
      have hlm : len ≤ m := by rw [hmm]; split <;> omega
      obtain ⟨f, hf⟩ := choose_lt (n := len) (α := Bool) (p := fun i x => w.cell? (a.add i) = some (.bool x)) (fun i hi => by
        obtain ⟨h1, h2⟩ := hx i (by omega)
        obtain ⟨x, hxx, _⟩ := DataW.trod_bool Try.underlying4 h2
        simp at hxx
        exact ⟨x, by rw [h1, hxx]⟩)
      refine ⟨(List.range len).map f, some a, cap, by simpa using hc, by simp; unfold maxLen at hm; omega, fun hh => ?_⟩
      simp at hh
      obtain ⟨b, off, spot⟩ := a
      have hs : spot = none := by simpa [Addr.add] using World.cell?_spot (hf 0 (by omega))
      subst hs
      refine ⟨b, off, rfl, ?_, fun i hi => ?_⟩
      · have := World.block_lt_of_cell? w _ (hf 0 (by omega))
        simpa [Addr.add] using this
      · simp at hi
        have := hf i hi
        rw [Go.WideShapes.add_plain] at this
        rw [this]
        simp [List.getD, hi]
  have g1 : ∃ (C : List LIns) (a1 : Option Addr) (k1 : Nat), c1 = .slice a1 C.length k1 ∧ C.length ≤ 9223372036854775807 ∧ (∀ i, i < C.length → 0 ≤ (C.getD i .zero).n ∧ (C.getD i .zero).n < 4294967296) ∧ (1 ≤ C.length → ∃ b o, a1 = some ⟨b, o, none⟩ ∧ b < w.heap.size ∧
      ∀ i, i < C.length → w.cell? ⟨b, o + i * 6, none⟩ = some (.int .i64 (C.getD i .zero).op) ∧ w.cell? ⟨b, o + i * 6 + 1, none⟩ = some (.int .i64 (C.getD i .zero).dest) ∧ w.cell? ⟨b, o + i * 6 + 2, none⟩ = some (.int .i64 (C.getD i .zero).a) ∧ w.cell? ⟨b, o + i * 6 + 3, none⟩ = some (.int .i64 (C.getD i .zero).b) ∧ w.cell? ⟨b, o + i * 6 + 4, none⟩ = some (.int .i64 (C.getD i .zero).c) ∧ w.cell? ⟨b, o + i * 6 + 5, none⟩ = some (.int .u32 (C.getD i .zero).n)) := by
    rcases open_slice (e := 82) Try.underlying23 hy1 with ⟨hc, _⟩ | ⟨a, len, cap, m, n', D, Pl, hc, _, hl, hm, hmm, _, hx⟩
    · simp at hc
      exact ⟨[], none, 0, hc, by simp, fun i hi => absurd hi (by simp), fun hh => absurd hh (by simp)⟩
    · simp at hc
      have hlm : len ≤ m := by rw [hmm]; split <;> omega
      obtain ⟨f, hf⟩ := choose_lt (n := len) (α := Six) (p := fun i x => (∀ j, j < 6 → w.cell? ((a.add (i * 6)).add j) = (sixV x)[j]?) ∧ 0 ≤ x.2.2.2.2.2 ∧ x.2.2.2.2.2 < 4294967296) (fun i hi => by
        obtain ⟨cs, h1, h2⟩ := hx i (by omega)
        rw [cellsIns] at h1
        obtain ⟨s, rfl, b1, b2⟩ := open_ins h2
        exact ⟨s, (World.cells?_some h1).2.2, b1, b2⟩)
      have hg : ∀ i, i < len → ((List.range len).map fun i => six (f i)).getD i .zero = six (f i) := fun i hi => by simp [List.getD, hi]
      refine ⟨(List.range len).map fun i => six (f i), some a, cap, by simpa using hc, by simp; unfold maxLen at hm; omega, fun i hi => ?_, fun hh => ?_⟩
      · simp at hi
        rw [hg i hi]
        exact (hf i hi).2
      · simp at hh
        obtain ⟨b, off, spot⟩ := a
        have q := (hf 0 (by omega)).1 0 (by omega)
        have hs : spot = none := by simpa [Addr.add, sixV] using World.cell?_spot (q.trans rfl)
        subst hs
        refine ⟨b, off, rfl, ?_, fun i hi => ?_⟩
        · have := World.block_lt_of_cell? w _ (q.trans rfl)
          simpa [Addr.add] using this
        · simp at hi
          rw [hg i hi]
          have q := (hf i hi).1
          simp only [Go.WideShapes.add_plain] at q
          exact ⟨q 0 (by omega), q 1 (by omega), q 2 (by omega), q 3 (by omega), q 4 (by omega), q 5 (by omega)⟩
  obtain ⟨B, a0, k0, rfl, lB, hB⟩ := g0
  obtain ⟨C, a1, k1, rfl, lC, hN, hC⟩ := g1
  refine ⟨B, C, ⟨⟨a0, k0, a1, k1, rfl, fun e0 e1 => ?_⟩, lB, lC, hN⟩⟩
  obtain ⟨x0, o0, rfl, t0, u0⟩ := hB e0
  obtain ⟨x1, o1, rfl, t1, u1⟩ := hC e1
  exact ⟨x0, o0, x1, o1, rfl, rfl, ⟨t0, t1, u0, u1⟩⟩
end

end Go.Proofs.Ytepfegfacdbhbab.form
