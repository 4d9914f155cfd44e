/- Bytes that came in as an argument ([]byte) are read. -/
import Derived.Test.YtepfegfacdbhbabFormOpen
import Derived.Test.YtepfegfacdbhbabCodeRefRead
namespace Go.Proofs.Ytepfegfacdbhbab.form
open Go.ChangeShapes Go.WideShapes Go.ChangeAt Go.RowKit Go.Joins Go.Deep
set_option linter.unusedVariables false

theorem cellsU8 : Try.prog.cellsOf 5 = 1 := by kernel_rfl
set_option maxRecDepth 100000 in
theorem bytes_is {H : Type} {enc : TypeId × Value → H} {w : World} {spare : Nat → Bool} {held : Bool} {b0 : Nat} {v : Value} {d : DataW H} {p : List MemPlace} {r : Reach} (hv : Value.okWide Try.prog w r b0 61 v)
    (h : DataW.Trod enc Try.prog w 0 spare held 61 v d p) : ∃ bs, BytesIs w v bs := by
  obtain ⟨a0, len0, cap0, rfl⟩ := okWide_slice Try.underlying61 hv
  obtain ⟨fuel, hf⟩ := h
  rcases open_slice1 (e := 5) Try.underlying61 cellsU8 hf with ⟨hc, _⟩ | ⟨a, len, cap, m, n', V, D, Pl, hc, _, hl, hm, hmm, _, hx⟩
  · simp [Value.cells] at hc
    obtain ⟨rfl, rfl, rfl⟩ := hc
    exact ⟨[], none, 0, rfl, by simp, by simp, fun j hj => absurd hj (by simp), fun hh => absurd hh (by simp)⟩
  · simp [Value.cells] at hc
    obtain ⟨rfl, rfl, rfl⟩ := hc
    have hlm : len0 ≤ m := by rw [hmm]; split <;> omega
    obtain ⟨f, hf⟩ := choose_lt (n := len0) (α := Int) (p := fun i x => w.cell? (a.add i) = some (.int .u8 x) ∧ 0 ≤ x ∧ x ≤ 255) (fun i hi => by
      obtain ⟨h1, h2⟩ := hx i (by omega)
      obtain ⟨x, hxx, _, wx⟩ := DataW.trod_int Try.underlying5 h2
      simp at hxx
      obtain ⟨b1, b2⟩ := bounds_u8 wx
      exact ⟨x, by rw [h1, hxx], b1, by omega⟩)
    have hg : ∀ i, i < len0 → ((List.range len0).map f).getD i 0 = f i := fun i hi => by simp [List.getD, hi]
    refine ⟨(List.range len0).map f, some a, cap0, by simp, by simpa using hl, by simp; unfold maxLen at hm; omega, fun j hj => ?_, fun hh => ?_⟩
    · simp at hj
      rw [hg j hj]
      exact (hf j hj).2
    · simp at hh
      obtain ⟨b, off, spot⟩ := a
      have hs : spot = none := by simpa [Addr.add] using World.cell?_spot (hf 0 (by omega)).1
      subst hs
      refine ⟨b, off, rfl, ?_, fun i hi => ?_⟩
      · have := World.block_lt_of_cell? w _ (hf 0 (by omega)).1
        simpa [Addr.add] using this
      · simp at hi
        have := (hf i hi).1
        rw [Go.WideShapes.add_plain] at this
        rw [hg i hi]
        exact this

end Go.Proofs.Ytepfegfacdbhbab.form
