/- Places that came in as an argument (api.Placed), a target and a place are read. -/
import Derived.Test.YtcmnmogmdhofcabGreatI02
import Derived.Test.YtcmnmogmdhofcabGreatI04

namespace Go.Proofs.YtcmnmogmdhofcabGreat.form
open Go.ChangeShapes Go.WideShapes Go.ChangeAt Go.RowKit Go.Joins Go.Deep
set_option linter.unusedVariables false
theorem cellsTarget : Tryz.prog.cellsOf 27 = 1 := by kernel_rfl
instance : Inhabited LMove := ⟨.zero⟩
instance : Inhabited LRow := ⟨.zero⟩
def moveV (m : LMove) : List Value := [.int .i64 m.dst.kind, .int .i64 m.dst.n, .int .i64 m.src.kind, .int .i64 m.src.n, .bool m.cst, .int .u32 m.n]
def MovesOk (l : List LMove) : Prop := ∀ k, k < l.length → 0 ≤ (l.getD k .zero).n ∧ (l.getD k .zero).n < 4294967296
def RowsOk (R : List LRow) : Prop := ∀ r, r < R.length → MovesOk (R.getD r .zero).before ∧ MovesOk (R.getD r .zero).after

section
variable {H : Type} {enc : TypeId × Value → H} {w : World} {spare : Nat → Bool} {held : Bool}
set_option maxRecDepth 100000 in
theorem target_is {b0 : Nat} {v : Value} {d : DataW H} {p : List MemPlace} {r : Reach} (hv : Value.okWide Tryz.prog w r b0 27 v) (h : DataW.Trod enc Tryz.prog w 0 spare held 27 v d p) :
    ∃ s, v = targetV s ∧ -9223372036854775808 ≤ s ∧ s ≤ 9223372036854775807 := by
  obtain ⟨cs, rfl, hsz⟩ := okWide_struct Tryz.underlying27 hv
  obtain ⟨c0, rfl⟩ : ∃ c0, cs = #[c0] := by
    have := hsz.trans cellsTarget
    obtain ⟨l⟩ := cs
    match l, this with
    | [c0], _ => exact ⟨c0, rfl⟩
  obtain ⟨fuel, hf⟩ := h
  obtain ⟨xs, n, _, _, hlen, hxs, hff⟩ := DataW.trod_struct Tryz.underlying27 hf
  have h0 := hff 0 _ rfl
  simp [cellsInt, Value.cells] at h0
  have l : xs.length = 1 := hxs
  rw [List.getElem?_eq_getElem (by omega)] at h0
  obtain ⟨n0, e0, _, w0⟩ := DataW.trod_int Tryz.underlying3 h0
  simp at e0
  subst e0
  exact ⟨n0, rfl, bounds_i64 w0⟩

end

end Go.Proofs.YtcmnmogmdhofcabGreat.form
