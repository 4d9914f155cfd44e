/- Places that came in as an argument, and how many moves and rows they have at the most, where what is read is of no great bulk. -/
import Derived.Test.YtepfegfacdbhbabRows
import Derived.Test.YtepfegfacdbhbabPlaceOpen
import Derived.Test.YtepfegfacdbhbabCodeRefNums
namespace Go.Proofs.Ytepfegfacdbhbab.form
open Go.ChangeShapes Go.WideShapes Go.ChangeAt Go.RowKit Go.Joins Go.Deep
set_option linter.unusedVariables false

theorem bulk_one {H : Type} : ∀ d : DataW H, 1 ≤ Rows.uptoBulk d
  | .lit (.string _) => Nat.le_add_left _ _
  | .lit (.int _ _) | .lit (.bool _) | .lit (.float _ _) | .lit .nil | .nil | .held _ => by simp [Rows.uptoBulk]
  | .ptr _ | .slice _ _ | .agg _ | .iface _ _ | .map _ => by simp [Rows.uptoBulk]
theorem bulk_append {H : Type} : ∀ l r : List (DataW H), Rows.uptoBulkAll (l ++ r) = Rows.uptoBulkAll l + Rows.uptoBulkAll r
  | [], r => by simp [Rows.uptoBulkAll]
  | d :: l, r => by rw [List.cons_append, Rows.uptoBulkAll, Rows.uptoBulkAll, bulk_append l r, Nat.add_assoc]
theorem bulk_sum {H : Type} {D : Nat → DataW H} {g : Nat → Nat} : ∀ n, (∀ i, i < n → g i ≤ Rows.uptoBulk (D i)) → ((List.range n).map g).sum ≤ Rows.uptoBulkAll ((List.range n).map D)
  | 0, _ => by simp
  | n + 1, h => by
    have ih := bulk_sum n (fun i hi => h i (by omega))
    have := h n (by omega)
    rw [List.range_succ, List.map_append, List.map_append, List.sum_append, bulk_append]
    simp only [List.map_cons, List.map_nil, List.sum_cons, List.sum_nil, Rows.uptoBulkAll]
    omega

theorem sum_ones : ∀ n, ((List.range n).map (fun _ => 1)).sum = n
  | 0 => rfl
  | n + 1 => by
    rw [List.range_succ, List.map_append, List.sum_append, sum_ones n]
    rfl

section
variable {H : Type} {enc : TypeId × Value → H} {w : World} {spare : Nat → Bool} {held : Bool}

set_option maxRecDepth 100000 in
theorem bulk_moves {fuel : Nat} {v : Value} {x : DataW H × List MemPlace} (h : DataW.trod enc Try.prog w 0 spare held fuel 90 [v] = some x) : ∃ n cap ao, v = .slice ao n cap ∧ n + 1 ≤ Rows.uptoBulk x.1 := by
  rcases open_slice (e := 158) Try.underlying90 h with ⟨hc, hx⟩ | ⟨a, len, cap, m, n', D, Pl, hc, _, hl, hm, hmm, hx, _⟩
  · simp at hc
    exact ⟨0, 0, none, hc, by rw [hx]; simp [Rows.uptoBulk]⟩
  · simp at hc
    refine ⟨len, cap, some a, hc, ?_⟩
    rw [hx]
    have := bulk_sum (D := D) (g := fun _ => 1) len (fun i _ => bulk_one _)
    rw [sum_ones] at this
    simp only [Rows.uptoBulk]
    omega

set_option maxRecDepth 100000 in
theorem bulk_row {fuel : Nat} {cs : List Value} {x : DataW H × List MemPlace} (h : DataW.trod enc Try.prog w 0 spare held fuel 92 cs = some x) : ∃ r, RowCs w cs r ∧ r.before.length + r.after.length + 1 ≤ Rows.uptoBulk x.1 := by
  obtain ⟨r, hr⟩ := open_row h
  refine ⟨r, hr, ?_⟩
  obtain ⟨vb, va, rfl, mb, ma⟩ := hr.six
  obtain ⟨xs, n, _, hx, hlen, hxs, hf⟩ := DataW.trod_struct Try.underlying92 h
  have h3 := hf 3 _ rfl
  have h4 := hf 4 _ rfl
  simp [cellsMoves] at h3 h4
  have l : xs.length = 5 := hxs
  rw [List.getElem?_eq_getElem (by omega)] at h3 h4
  obtain ⟨n3, c3, a3, e3, b3⟩ := bulk_moves h3
  obtain ⟨n4, c4, a4, e4, b4⟩ := bulk_moves h4
  obtain ⟨ob, cb, eb, -⟩ := mb
  obtain ⟨oa, ca, ea, -⟩ := ma
  rw [eb] at e3
  rw [ea] at e4
  simp at e3 e4
  obtain ⟨-, rfl, -⟩ := e3
  obtain ⟨-, rfl, -⟩ := e4
  rw [hx]
  match xs, l with
  | [y0, y1, y2, y3, y4], _ =>
    simp only [List.map_cons, List.map_nil, Rows.uptoBulk, Rows.uptoBulkAll] at b3 b4 ⊢
    simp at b3 b4
    omega

def sumR (R : List LRow) : Nat := (R.map fun r => r.before.length + r.after.length + 1).sum
theorem putRows_sum (R : List LRow) : (putRows R).length ≤ 9 * sumR R := by
  induction R with
  | nil => simp [putRows]
  | cons r R ih =>
    have e : putRows (r :: R) = putRow r ++ putRows R := rfl
    have e2 : sumR (r :: R) = r.before.length + r.after.length + 1 + sumR R := rfl
    rw [e, e2, List.length_append, putRow_len]
    omega

set_option maxRecDepth 100000 in
theorem placed_bulk {b0 : Nat} {v : Value} {d : DataW H} {p : List MemPlace} {r : Reach} (hv : Value.okWide Try.prog w r b0 42 v) (h : DataW.Trod enc Try.prog w 0 spare held 42 v d p) :
    ∃ slots R, PlacedIs w v slots R ∧ RowsOk R ∧ sumR R ≤ Rows.uptoBulk d ∧ -9223372036854775808 ≤ slots ∧ slots ≤ 9223372036854775807 := by
  obtain ⟨c0, c1, y0, y1, n, rfl, hd, -, hy0, hy1⟩ := open_agg2 Try.underlying42 (by kernel_rfl) cellsPlaced hv h
  obtain ⟨n0, e0, _, w0⟩ := DataW.trod_int Try.underlying3 hy0
  simp at e0
  subst e0
  rcases open_slice (e := 92) Try.underlying40 hy1 with ⟨hc, _⟩ | ⟨a, len, cap, m, n', D, Pl, hc, _, hl, hm, hmm, hx1, hx⟩
  · simp at hc
    subst hc
    refine ⟨n0, [], ⟨none, 0, rfl, by simp, fun hh => absurd hh (by simp)⟩, fun r hr => absurd hr (by simp), by simp [sumR], ?_⟩
    exact bounds_i64 w0
  · simp at hc
    subst hc
    have hlm : len ≤ m := by rw [hmm]; split <;> omega
    obtain ⟨f, hf⟩ := choose_lt (n := len) (α := LRow) (p := fun i x => (∃ cs, (∀ j, j < 8 → w.cell? ((a.add (i * 8)).add j) = cs[j]?) ∧ RowCs w cs x) ∧ x.before.length + x.after.length + 1 ≤ Rows.uptoBulk (D i)) (fun i hi => by
      obtain ⟨cs, h1, h2⟩ := hx i (by omega)
      rw [cellsRow] at h1
      obtain ⟨s, hs, hb⟩ := bulk_row h2
      exact ⟨s, ⟨cs, (World.cells?_some h1).2.2, hs⟩, hb⟩)
    have hg : ∀ i, i < len → ((List.range len).map f).getD i .zero = f i := fun i hi => by simp [List.getD, hi]
    refine ⟨n0, (List.range len).map f, ⟨some a, cap, by simp, by simp; unfold maxLen at hm; omega, fun hh => ?_⟩, fun i hi => ?_, ?_, bounds_i64 w0⟩
    · simp at hh
      obtain ⟨b, off, spot⟩ := a
      obtain ⟨⟨cs, q, ⟨vb, va, rfl, -, -⟩, -⟩, -⟩ := hf 0 (by omega)
      have q := q 0 (by omega)
      have hs : spot = none := by simpa [Addr.add] using World.cell?_spot (q.trans rfl)
      subst hs
      refine ⟨b, off, rfl, ?_, fun i hi => ?_⟩
      · have := World.block_lt_of_cell? w _ (q.trans rfl)
        simpa [Addr.add] using this
      · simp at hi
        rw [hg i hi]
        obtain ⟨⟨cs, q, ⟨vb, va, rfl, m0, m1⟩, -⟩, -⟩ := hf i hi
        simp only [Go.WideShapes.add_plain] at q
        exact ⟨q 0 (by omega), q 1 (by omega), q 2 (by omega), q 3 (by omega), q 4 (by omega), q 5 (by omega), vb, va, q 6 (by omega), q 7 (by omega), m0, m1⟩
    · simp at hi
      rw [hg i hi]
      obtain ⟨⟨cs, -, hR⟩, -⟩ := hf i hi
      exact hR.ok
    · have := bulk_sum (D := D) (g := fun i => (f i).before.length + (f i).after.length + 1) len (fun i hi => (hf i hi).2)
      rw [hd, hx1]
      unfold sumR
      rw [List.map_map]
      simp only [Rows.uptoBulk, Rows.uptoBulkAll]
      have e : (List.range len).map ((fun r : LRow => r.before.length + r.after.length + 1) ∘ f) = (List.range len).map (fun i => (f i).before.length + (f i).after.length + 1) := rfl
      rw [e]
      omega
end

end Go.Proofs.Ytepfegfacdbhbab.form
