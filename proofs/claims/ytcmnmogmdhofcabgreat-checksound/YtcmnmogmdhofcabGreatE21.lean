/- Ins that came in as an argument ([]uint32) are read. -/
import Derived.Test.YtcmnmogmdhofcabGreatE18
import Derived.Test.YtcmnmogmdhofcabGreatE20

namespace Go.Proofs.YtcmnmogmdhofcabGreat.form
open Go.ChangeShapes Go.WideShapes Go.ChangeAt Go.RowKit Go.Joins Go.Deep
set_option linter.unusedVariables false

set_option maxRecDepth 100000 in
theorem ins_is {H : Type} {enc : TypeId × Value → H} {w : World} {spare : Nat → Bool} {held : Bool} {b0 : Nat} {v : Value} {d : DataW H} {p : List MemPlace} {r : _} (hv : Value.okWide Tryz.prog w r b0 32 v)
    (h : DataW.Trod enc Tryz.prog w 0 spare held 32 v d p) : ∃ I, InArg w v I := by
  obtain ⟨a0, len0, cap0, rfl⟩ := okWide_slice Tryz.underlying32 hv
  obtain ⟨fuel, hf⟩ := h
  rcases open_slice1 (e := 33) Tryz.underlying32 cellsU32 hf with ⟨hc, _⟩ | ⟨a, len, cap, m, n', V, D, Pl, hc, _, hl, hm, hmm, _, hx⟩
  · simp [Value.cells] at hc
    obtain ⟨rfl, rfl, rfl⟩ := hc
    exact ⟨[], none, 0, rfl, by simp, by simp, fun j hj => absurd hj (by simp), fun hh => absurd hh (by simp)⟩
  · simp [Value.cells] at hc
    obtain ⟨rfl, rfl, rfl⟩ := hc
    have hlm : len0 ≤ m := by rw [hmm]; split <;> omega
    obtain ⟨f, hf⟩ := choose_lt (n := len0) (α := Int) (p := fun i x => w.cell? (a.add i) = some (.int .u32 x) ∧ 0 ≤ x ∧ x < 4294967296) (fun i hi => by
      obtain ⟨h1, h2⟩ := hx i (by omega)
      obtain ⟨x, hxx, _, wx⟩ := DataW.trod_int Tryz.underlying33 h2
      simp at hxx
      obtain ⟨b1, b2⟩ := bounds_u32 wx
      exact ⟨x, by rw [h1, hxx], b1, by omega⟩)
    have hg : ∀ i, i < len0 → ((List.range len0).map f).getD i 0 = f i := fun i hi => by simp [List.getD, hi]
    refine ⟨(List.range len0).map f, some a, cap0, by simp, by simpa using hl, by simp; unfold maxLen at hm; omega, fun j hj => ?_, fun hh => ?_⟩
    · simp at hj
      rw [hg j hj]
      exact (hf j hj).2
    · simp at hh
      obtain ⟨b, off, spot⟩ := a
      have hs : spot = none := by simpa [Addr.add] using World.cell?_spot (hf 0 (by omega)).1
      subst hs
      refine ⟨b, off, rfl, ?_, fun i hi => ?_⟩
      · have := World.block_lt_of_cell? w _ (hf 0 (by omega)).1
        simpa [Addr.add] using this
      · simp at hi
        have := (hf i hi).1
        rw [Go.WideShapes.add_plain] at this
        rw [hg i hi]
        exact this

end Go.Proofs.YtcmnmogmdhofcabGreat.form
