/- What the document's functions on places as numbers answer: moves, Small. -/
import Derived.Deep.DeepCutAuto
import Derived.Laws.BytesArg
import Derived.Deep.OwnRows
import Derived.Deep.AppendLies
import Derived.BigRegion
import Derived.Test.YtikhedkhgpjaaacGreatDoorW17
import Derived.Test.YtikhedkhgpjaaacGreatDoorW05

namespace Go.Proofs.YtikhedkhgpjaaacGreatDoor
set_option linter.unusedVariables false
namespace form
open Go.RowKit
attribute [local go_sem ↓] Go.wp_at_zero Go.wp_at_succ
theorem putMove_len (m : LMove) : (putMove m).length = 9 := rfl
theorem putMoves_len (l : List LMove) : (putMoves l).length = 1 + 9 * l.length := by
  unfold putMoves
  simp only [List.length_cons, List.length_flatMap, putMove_len]
  induction l with
  | nil => rfl
  | cons m l ih => simp at ih ⊢; omega
theorem take_flat {α : Type} {f : α → List Int} {l : List α} {k : Nat} {z : α} (hk : k < l.length) : (l.take (k + 1)).flatMap f = (l.take k).flatMap f ++ f (l.getD k z) := by
  rw [List.take_succ_eq_append_getElem hk, List.flatMap_append]
  simp [List.getD, hk]
end form
/- What the document's functions on places as numbers answer: Numbers, Small. -/
namespace form
open Go.RowKit
attribute [local go_sem ↓] Go.wp_at_zero Go.wp_at_succ
section
variable {w wr w1 : World} {ao : Option Addr} {nR cap : Nat} {xs ys : List Int} {v : Value}
end
end form
/- What the document's function on numbers as bytes (loanbookref11.Bytes) answers. -/
namespace form
open Go.RowKit
attribute [local go_sem ↓] Go.wp_at_zero Go.wp_at_succ
end form
/- What the document's functions that read moves out of bytes answer: at, read. -/
namespace form
open Go.RowKit
attribute [local go_sem ↓] Go.wp_at_zero Go.wp_at_succ
def BytesIs (w : World) (v : Value) (bs : List Int) : Prop :=
  ∃ ao cap, v = .slice ao bs.length cap ∧ bs.length ≤ cap ∧ bs.length ≤ 9223372036854775807 ∧ (∀ j, j < bs.length → 0 ≤ bs.getD j 0 ∧ bs.getD j 0 ≤ 255) ∧ (0 < bs.length → ∃ b o, ao = some ⟨b, o, none⟩ ∧ b < w.heap.size ∧ ∀ j, j < bs.length → w.cell? ⟨b, o + j, none⟩ = some (.int .u8 (bs.getD j 0)))
def MovesN (ob : Option Nat) (w : World) (v : Value) (l : List LMove) : Prop :=
  ∃ ao cap, v = .slice ao l.length cap ∧ l.length ≤ cap ∧ l.length ≤ 9223372036854775807 ∧ (0 < l.length → ∃ b, ao = some ⟨b, 0, none⟩ ∧ b < w.heap.size ∧ some b ≠ ob ∧ ∀ k, k < l.length → w.cell? ⟨b, k * 6, none⟩ = some (.int .i64 (l.getD k .zero).dst.kind) ∧ w.cell? ⟨b, k * 6 + 1, none⟩ = some (.int .i64 (l.getD k .zero).dst.n) ∧ w.cell? ⟨b, k * 6 + 2, none⟩ = some (.int .i64 (l.getD k .zero).src.kind) ∧ w.cell? ⟨b, k * 6 + 3, none⟩ = some (.int .i64 (l.getD k .zero).src.n) ∧ w.cell? ⟨b, k * 6 + 4, none⟩ = some (.bool (l.getD k .zero).cst) ∧ w.cell? ⟨b, k * 6 + 5, none⟩ = some (.int .u32 (l.getD k .zero).n))
theorem MovesN.is {ob : Option Nat} {w : World} {v : Value} {l : List LMove} (h : MovesN ob w v l) : MovesIs w v l := by
  obtain ⟨ao, cap, e, h0, h1, h2⟩ := h
  refine ⟨ao, cap, e, h1, fun hx => ?_⟩
  obtain ⟨b, e1, e2, -, e3⟩ := h2 hx
  exact ⟨b, 0, e1, e2, fun k hk => by simpa using e3 k hk⟩
theorem MovesN.later {ob : Option Nat} {w w' : World} {v : Value} {l : List LMove} (h : MovesN ob w v l) (hb : Below w.heap.size w w') : MovesN ob w' v l := by
  obtain ⟨ao, cap, e, h0, h1, h2⟩ := h
  refine ⟨ao, cap, e, h0, h1, fun hx => ?_⟩
  obtain ⟨b, e1, e2, e3, e4⟩ := h2 hx
  refine ⟨b, e1, Nat.lt_of_lt_of_le e2 hb.size, e3, fun k hk => ?_⟩
  obtain ⟨c0, c1, c2, c3, c4, c5⟩ := e4 k hk
  exact ⟨step_cell hb c0, step_cell hb c1, step_cell hb c2, step_cell hb c3, step_cell hb c4, step_cell hb c5⟩
theorem MovesN.grown {ob : Option Nat} {w w' : World} {v : Value} {l : List LMove} (h : MovesN ob w v l) (hg : w.grownBy w' ob) {g : Nat} (hat : ob = some g ∨ g = w.heap.size) : MovesN (some g) w' v l := by
  obtain ⟨ao, cap, e, h0, h1, h2⟩ := h
  refine ⟨ao, cap, e, h0, h1, fun hx => ?_⟩
  obtain ⟨b, e1, e2, e3, e4⟩ := h2 hx
  refine ⟨b, e1, Nat.lt_of_lt_of_le e2 hg.size, ?_, fun k hk => ?_⟩
  · rcases hat with hat | hat
    · rw [← hat]; exact e3
    · simp only [ne_eq, Option.some.injEq]; omega
  · obtain ⟨c0, c1, c2, c3, c4, c5⟩ := e4 k hk
    exact ⟨hg.cell c0 e3, hg.cell c1 e3, hg.cell c2 e3, hg.cell c3 e3, hg.cell c4 e3, hg.cell c5 e3⟩
def mvC (m : LMove) : List Value := [.int .i64 m.dst.kind, .int .i64 m.dst.n, .int .i64 m.src.kind, .int .i64 m.src.n, .bool m.cst, .int .u32 m.n]
theorem flat6 {l : List LMove} {k i : Nat} (hk : k < l.length) (hi : i < 6) : (l.flatMap mvC)[k * 6 + i]? = (mvC (l.getD k .zero))[i]? := by
  induction l generalizing k with
  | nil => simp at hk
  | cons m l ih =>
    have hl6 : (mvC m).length = 6 := rfl
    rw [List.flatMap_cons]
    cases k with
    | zero => rw [List.getElem?_append_left (by omega)]; simp
    | succ k =>
      rw [List.getElem?_append_right (by omega)]
      simp only [List.length_cons] at hk
      have := ih (k := k) (by omega)
      rw [show (k + 1) * 6 + i - (mvC m).length = k * 6 + i by omega]
      simpa using this
section
variable {w wr w1 : World} {base : Nat} {l : List LMove} {v : Value}
theorem own_news (ho : wr.ownsRow base 208 6 v l.length (l.flatMap mvC)) (hl : l.length ≤ 9223372036854775807) {ob : Option Nat} (hob : ∀ b, base ≤ b → some b ≠ ob) : MovesN ob wr v l := by
  rcases ho.2 with ⟨e, e2⟩ | ⟨g, cap, cur, e, hg, hc, hn, hm, hs, ht⟩
  · exact ⟨none, 0, by rw [e, e2], by omega, hl, fun hx => absurd hx (by omega)⟩
  · refine ⟨_, cap, e, hn, hl, fun hx => ⟨g, rfl, (World.ownsRow.lt ho g (by rw [e]; rfl)).2, hob g hg, fun k hk => ?_⟩⟩
    rw [e] at ho
    have hcell : ∀ i, i < 6 → wr.cell? ⟨g, k * 6 + i, none⟩ = (mvC (l.getD k .zero))[i]? := fun i hi => by
      rw [World.ownsRow.cellAt ho (k * 6 + i) (by omega), flat6 hk hi]
    exact ⟨hcell 0 (by omega), hcell 1 (by omega), hcell 2 (by omega), hcell 3 (by omega), hcell 4 (by omega), hcell 5 (by omega)⟩
end
end form
end Go.Proofs.YtikhedkhgpjaaacGreatDoor
