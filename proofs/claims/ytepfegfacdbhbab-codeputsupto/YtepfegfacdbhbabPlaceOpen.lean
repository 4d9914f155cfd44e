/- Places that came in as an argument (api.Placed), a target and a place are read. -/
import Derived.Test.YtepfegfacdbhbabFormOpen
import Derived.Test.YtepfegfacdbhbabPlaceMay
namespace Go.Proofs.Ytepfegfacdbhbab.form
open Go.ChangeShapes Go.WideShapes Go.ChangeAt Go.RowKit Go.Joins Go.Deep
set_option linter.unusedVariables false

theorem cellsPlace : Try.prog.cellsOf 34 = 2 := by kernel_rfl
theorem cellsMove : Try.prog.cellsOf 158 = 6 := by kernel_rfl
theorem cellsRow : Try.prog.cellsOf 92 = 8 := by kernel_rfl
theorem cellsPlaced : Try.prog.cellsOf 42 = 2 := by kernel_rfl
theorem cellsTarget : Try.prog.cellsOf 37 = 1 := by kernel_rfl
theorem cellsMoves : Try.prog.cellsOf 90 = 1 := by kernel_rfl

instance : Inhabited LMove := ⟨.zero⟩
instance : Inhabited LRow := ⟨.zero⟩
def moveV (m : LMove) : List Value := [.int .i64 m.dst.kind, .int .i64 m.dst.n, .int .i64 m.src.kind, .int .i64 m.src.n, .bool m.cst, .int .u32 m.n]
def MovesOk (l : List LMove) : Prop := ∀ k, k < l.length → 0 ≤ (l.getD k .zero).n ∧ (l.getD k .zero).n < 4294967296
def RowsOk (R : List LRow) : Prop := ∀ r, r < R.length → MovesOk (R.getD r .zero).before ∧ MovesOk (R.getD r .zero).after

theorem moves_bd {l : List LMove} (h : MovesOk l) {x : LMove} (hx : x ∈ l) : 0 ≤ x.n ∧ x.n < 4294967296 := by
  obtain ⟨j, hj, rfl⟩ := List.getElem_of_mem hx
  have := h j hj
  rw [show l.getD j .zero = l[j] by simp [List.getD, hj]] at this
  exact this
theorem rows_bd {R : List LRow} {C : List LIns} (h : RowsOk R) (hl : R.length = C.length) : ∀ k, k < C.length → ∀ x, x ∈ (R.getD k .zero).before ∨ x ∈ (R.getD k .zero).after → 0 ≤ x.n ∧ x.n < 4294967296 := by
  intro k hk x hx
  obtain ⟨h1, h2⟩ := h k (by omega)
  rcases hx with hx | hx
  · exact moves_bd h1 hx
  · exact moves_bd h2 hx

section
variable {H : Type} {enc : TypeId × Value → H} {w : World} {spare : Nat → Bool} {held : Bool}

set_option maxRecDepth 100000 in
theorem open_place {fuel : Nat} {cs : List Value} {x : DataW H × List MemPlace} (h : DataW.trod enc Try.prog w 0 spare held fuel 34 cs = some x) :
    ∃ p : LPlace, cs = [.int .i64 p.kind, .int .i64 p.n] := by
  obtain ⟨xs, n, _, _, hlen, hxs, hf⟩ := DataW.trod_struct Try.underlying34 h
  rw [cellsPlace] at hlen
  match cs, hlen with
  | [v0, v1], _ =>
    have h0 := hf 0 _ rfl
    have h1 := hf 1 _ rfl
    simp [cellsInt] at h0 h1
    have l : xs.length = 2 := hxs
    rw [List.getElem?_eq_getElem (by omega)] at h0 h1
    obtain ⟨n0, e0, _, _⟩ := DataW.trod_int Try.underlying3 h0
    obtain ⟨n1, e1, _, _⟩ := DataW.trod_int Try.underlying3 h1
    simp at e0 e1
    subst e0 e1
    exact ⟨⟨n0, n1⟩, rfl⟩

set_option maxRecDepth 100000 in
theorem open_move {fuel : Nat} {cs : List Value} {x : DataW H × List MemPlace} (h : DataW.trod enc Try.prog w 0 spare held fuel 158 cs = some x) :
    ∃ m : LMove, cs = moveV m ∧ 0 ≤ m.n ∧ m.n < 4294967296 := by
  obtain ⟨xs, n, _, _, hlen, hxs, hf⟩ := DataW.trod_struct Try.underlying158 h
  rw [cellsMove] at hlen
  match cs, hlen with
  | [v0, v1, v2, v3, v4, v5], _ =>
    have h0 := hf 0 _ rfl
    have h1 := hf 1 _ rfl
    have h2 := hf 2 _ rfl
    have h3 := hf 3 _ rfl
    simp [cellsPlace, cellsBool, cellsU32] at h0 h1 h2 h3
    have l : xs.length = 4 := hxs
    rw [List.getElem?_eq_getElem (by omega)] at h0 h1 h2 h3
    obtain ⟨p, e0⟩ := open_place h0
    obtain ⟨q, e1⟩ := open_place h1
    obtain ⟨c, e2, _⟩ := DataW.trod_bool Try.underlying4 h2
    obtain ⟨n5, e3, _, w5⟩ := DataW.trod_int Try.underlying80 h3
    simp at e0 e1 e2 e3
    obtain ⟨rfl, rfl⟩ := e0
    obtain ⟨rfl, rfl⟩ := e1
    subst e2 e3
    obtain ⟨b1, b2⟩ := bounds_u32 w5
    exact ⟨⟨p, q, c, n5⟩, rfl, b1, by show n5 < 4294967296; omega⟩

set_option maxRecDepth 100000 in
theorem open_moves {fuel : Nat} {v : Value} {x : DataW H × List MemPlace} (h : DataW.trod enc Try.prog w 0 spare held fuel 90 [v] = some x) : ∃ l : List LMove, MovesIs w v l ∧ MovesOk l := by
  rcases open_slice (e := 158) Try.underlying90 h with ⟨hc, _⟩ | ⟨a, len, cap, m, n', D, Pl, hc, _, hl, hm, hmm, _, hx⟩
  · simp at hc
    exact ⟨[], ⟨none, 0, hc, by simp, fun hh => absurd hh (by simp)⟩, fun k hk => absurd hk (by simp)⟩
  · simp at hc
    have hlm : len ≤ m := by rw [hmm]; split <;> omega
    obtain ⟨f, hf⟩ := choose_lt (n := len) (α := LMove) (p := fun i x => (∀ j, j < 6 → w.cell? ((a.add (i * 6)).add j) = (moveV x)[j]?) ∧ 0 ≤ x.n ∧ x.n < 4294967296) (fun i hi => by
      obtain ⟨cs, h1, h2⟩ := hx i (by omega)
      rw [cellsMove] at h1
      obtain ⟨s, rfl, b1, b2⟩ := open_move h2
      exact ⟨s, (World.cells?_some h1).2.2, b1, b2⟩)
    have hg : ∀ i, i < len → ((List.range len).map f).getD i .zero = f i := fun i hi => by simp [List.getD, hi]
    refine ⟨(List.range len).map f, ⟨some a, cap, by simpa using hc, by simp; unfold maxLen at hm; omega, fun hh => ?_⟩, fun i hi => ?_⟩
    · simp at hh
      obtain ⟨b, off, spot⟩ := a
      have q := (hf 0 (by omega)).1 0 (by omega)
      have hs : spot = none := by simpa [Addr.add, moveV] using World.cell?_spot (q.trans rfl)
      subst hs
      refine ⟨b, off, rfl, ?_, fun i hi => ?_⟩
      · have := World.block_lt_of_cell? w _ (q.trans rfl)
        simpa [Addr.add] using this
      · simp at hi
        rw [hg i hi]
        have q := (hf i hi).1
        simp only [Go.WideShapes.add_plain] at q
        exact ⟨q 0 (by omega), q 1 (by omega), q 2 (by omega), q 3 (by omega), q 4 (by omega), q 5 (by omega)⟩
    · simp at hi
      rw [hg i hi]
      exact (hf i hi).2

/-- A row's cells, and what they say. -/
structure RowCs (w : World) (cs : List Value) (r : LRow) : Prop where
  six : ∃ vb va, cs = [.int .i64 r.dest.kind, .int .i64 r.dest.n, .int .i64 r.a.kind, .int .i64 r.a.n, .int .i64 r.b.kind, .int .i64 r.b.n, vb, va] ∧ MovesIs w vb r.before ∧ MovesIs w va r.after
  ok : MovesOk r.before ∧ MovesOk r.after

set_option maxRecDepth 100000 in
theorem open_row {fuel : Nat} {cs : List Value} {x : DataW H × List MemPlace} (h : DataW.trod enc Try.prog w 0 spare held fuel 92 cs = some x) : ∃ r, RowCs w cs r := by
  obtain ⟨xs, n, _, _, hlen, hxs, hf⟩ := DataW.trod_struct Try.underlying92 h
  rw [cellsRow] at hlen
  match cs, hlen with
  | [v0, v1, v2, v3, v4, v5, v6, v7], _ =>
    have h0 := hf 0 _ rfl
    have h1 := hf 1 _ rfl
    have h2 := hf 2 _ rfl
    have h3 := hf 3 _ rfl
    have h4 := hf 4 _ rfl
    simp [cellsPlace, cellsMoves] at h0 h1 h2 h3 h4
    have l : xs.length = 5 := hxs
    rw [List.getElem?_eq_getElem (by omega)] at h0 h1 h2 h3 h4
    obtain ⟨p, e0⟩ := open_place h0
    obtain ⟨q, e1⟩ := open_place h1
    obtain ⟨r, e2⟩ := open_place h2
    obtain ⟨lb, m3, o3⟩ := open_moves h3
    obtain ⟨la, m4, o4⟩ := open_moves h4
    simp at e0 e1 e2
    obtain ⟨rfl, rfl⟩ := e0
    obtain ⟨rfl, rfl⟩ := e1
    obtain ⟨rfl, rfl⟩ := e2
    exact ⟨⟨p, q, r, lb, la⟩, ⟨_, _, rfl, m3, m4⟩, o3, o4⟩

set_option maxRecDepth 100000 in
theorem placed_is {b0 : Nat} {v : Value} {d : DataW H} {p : List MemPlace} {r : _} (hv : Value.okWide Try.prog w r b0 42 v) (h : DataW.Trod enc Try.prog w 0 spare held 42 v d p) :
    ∃ slots R, PlacedIs w v slots R ∧ RowsOk R ∧ -9223372036854775808 ≤ slots ∧ slots ≤ 9223372036854775807 := by
  obtain ⟨c0, c1, y0, y1, n, rfl, -, -, hy0, hy1⟩ := open_agg2 Try.underlying42 (by kernel_rfl) cellsPlaced hv h
  obtain ⟨n0, e0, _, w0⟩ := DataW.trod_int Try.underlying3 hy0
  simp at e0
  subst e0
  rcases open_slice (e := 92) Try.underlying40 hy1 with ⟨hc, _⟩ | ⟨a, len, cap, m, n', D, Pl, hc, _, hl, hm, hmm, _, hx⟩
  · simp at hc
    subst hc
    refine ⟨n0, [], ⟨none, 0, rfl, by simp, fun hh => absurd hh (by simp)⟩, fun r hr => absurd hr (by simp), ?_⟩
    exact bounds_i64 w0
  · simp at hc
    subst hc
    have hlm : len ≤ m := by rw [hmm]; split <;> omega
    obtain ⟨f, hf⟩ := choose_lt (n := len) (α := LRow) (p := fun i x => ∃ cs, (∀ j, j < 8 → w.cell? ((a.add (i * 8)).add j) = cs[j]?) ∧ RowCs w cs x) (fun i hi => by
      obtain ⟨cs, h1, h2⟩ := hx i (by omega)
      rw [cellsRow] at h1
      obtain ⟨s, hs⟩ := open_row h2
      exact ⟨s, cs, (World.cells?_some h1).2.2, hs⟩)
    have hg : ∀ i, i < len → ((List.range len).map f).getD i .zero = f i := fun i hi => by simp [List.getD, hi]
    refine ⟨n0, (List.range len).map f, ⟨some a, cap, by simp, by simp; unfold maxLen at hm; omega, fun hh => ?_⟩, fun i hi => ?_, bounds_i64 w0⟩
    · simp at hh
      obtain ⟨b, off, spot⟩ := a
      obtain ⟨cs, q, ⟨vb, va, rfl, -, -⟩, -⟩ := hf 0 (by omega)
      have q := q 0 (by omega)
      have hs : spot = none := by simpa [Addr.add] using World.cell?_spot (q.trans rfl)
      subst hs
      refine ⟨b, off, rfl, ?_, fun i hi => ?_⟩
      · have := World.block_lt_of_cell? w _ (q.trans rfl)
        simpa [Addr.add] using this
      · simp at hi
        rw [hg i hi]
        obtain ⟨cs, q, ⟨vb, va, rfl, m0, m1⟩, -⟩ := hf i hi
        simp only [Go.WideShapes.add_plain] at q
        exact ⟨q 0 (by omega), q 1 (by omega), q 2 (by omega), q 3 (by omega), q 4 (by omega), q 5 (by omega), vb, va, q 6 (by omega), q 7 (by omega), m0, m1⟩
    · simp at hi
      rw [hg i hi]
      obtain ⟨cs, -, hR⟩ := hf i hi
      exact hR.ok
set_option maxRecDepth 100000 in
theorem target_is {b0 : Nat} {v : Value} {d : DataW H} {p : List MemPlace} {r : _} (hv : Value.okWide Try.prog w r b0 37 v) (h : DataW.Trod enc Try.prog w 0 spare held 37 v d p) :
    ∃ s, v = targetV s ∧ -9223372036854775808 ≤ s ∧ s ≤ 9223372036854775807 := by
  obtain ⟨cs, rfl, hsz⟩ := okWide_struct Try.underlying37 hv
  obtain ⟨c0, rfl⟩ : ∃ c0, cs = #[c0] := by
    have := hsz.trans cellsTarget
    obtain ⟨l⟩ := cs
    match l, this with
    | [c0], _ => exact ⟨c0, rfl⟩
  obtain ⟨fuel, hf⟩ := h
  obtain ⟨xs, n, _, _, hlen, hxs, hff⟩ := DataW.trod_struct Try.underlying37 hf
  have h0 := hff 0 _ rfl
  simp [cellsInt, Value.cells] at h0
  have l : xs.length = 1 := hxs
  rw [List.getElem?_eq_getElem (by omega)] at h0
  obtain ⟨n0, e0, _, w0⟩ := DataW.trod_int Try.underlying3 h0
  simp at e0
  subst e0
  exact ⟨n0, rfl, bounds_i64 w0⟩

set_option maxRecDepth 100000 in
theorem place_is {b0 : Nat} {v : Value} {d : DataW H} {p : List MemPlace} {r : _} (hv : Value.okWide Try.prog w r b0 34 v) (h : DataW.Trod enc Try.prog w 0 spare held 34 v d p) :
    ∃ q : LPlace, v = q.val ∧ (-9223372036854775808 ≤ q.kind ∧ q.kind ≤ 9223372036854775807) ∧ -9223372036854775808 ≤ q.n ∧ q.n ≤ 9223372036854775807 := by
  obtain ⟨c0, c1, y0, y1, n, rfl, -, -, hy0, hy1⟩ := open_agg2 Try.underlying34 (by kernel_rfl) cellsPlace hv h
  obtain ⟨n0, e0, _, w0⟩ := DataW.trod_int Try.underlying3 hy0
  obtain ⟨n1, e1, _, w1⟩ := DataW.trod_int Try.underlying3 hy1
  simp at e0 e1
  subst e0 e1
  exact ⟨⟨n0, n1⟩, rfl, bounds_i64 w0, bounds_i64 w1⟩
end

end Go.Proofs.Ytepfegfacdbhbab.form
