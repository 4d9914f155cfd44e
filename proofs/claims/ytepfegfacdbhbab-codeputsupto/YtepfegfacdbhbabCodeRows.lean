/- A row of ints that a call makes, and what becomes of it. -/
import Derived.Test.YtepfegfacdbhbabCodePlain
import Derived.Test.YtepfegfacdbhbabLiveNexts
import Derived.Deep.AppendLies
namespace Go.Proofs.Ytepfegfacdbhbab.form
open Go.RowKit
set_option linter.unusedVariables false

def iV (x : Int) : Value := .int .i64 x

/-- A row of ints of the call's own. -/
structure RS (w : World) (base : Nat) (xs : List Int) (v : Value) (wr : World) : Prop where
  bel : Below w.heap.size w wr
  lo : w.heap.size ≤ base
  own : wr.ownsRow base 3 1 v xs.length (xs.map iV)
section
variable {w wr w1 : World} {base : Nat} {xs ys : List Int} {v : Value}
theorem RS.below (h : RS w base xs v wr) (hb : Below wr.heap.size wr w1) : RS w base xs v w1 :=
  ⟨step_below hb h.bel, h.lo, World.ownsRow.kept h.own ⟨hb.os, hb.tape, hb.output, hb.size, fun j hj _ => hb.block j hj⟩ (row := none) (by cases v.ownBlock <;> simp)⟩
theorem RS.push (h : RS w base xs v wr) {g cap : Nat} (hown : w1.ownsRow base 3 1 (.slice (some ⟨g, 0, none⟩) (xs.length + ys.length) cap) (xs.length + ys.length) (xs.map iV ++ ys.map iV)) (hgrow : wr.grownBy w1 v.ownBlock) :
    RS w base (xs ++ ys) (.slice (some ⟨g, 0, none⟩) (xs.length + ys.length) cap) w1 :=
  ⟨h.bel.grown hgrow h.bel.size (fun j hj => by have := (World.ownsRow.lt h.own _ hj).1; have := h.lo; omega), h.lo, by simpa using hown⟩
theorem RS.form (h : RS w base xs v wr) (hn : 0 < xs.length) : ∃ g cap, v = .slice (some ⟨g, 0, none⟩) xs.length cap ∧ base ≤ g ∧ g < wr.heap.size := by
  obtain ⟨g, cap, e, h1, h2⟩ := h.own.form hn
  exact ⟨g, cap, e, h1, h2⟩
theorem RS.cell (h : RS w base xs v wr) {g cap : Nat} (e : v = .slice (some ⟨g, 0, none⟩) xs.length cap) {j : Nat} (hj : j < xs.length) : wr.cell? ⟨g, j, none⟩ = some (.int .i64 (xs.getD j 0)) := by
  subst e
  rw [World.ownsRow.cellAt h.own j (by omega)]
  simp [List.getD, hj, iV]
theorem RS.news (h : RS w base xs v wr) {g cap : Nat} (e : v = .slice (some ⟨g, 0, none⟩) xs.length cap) : ∀ j u, (xs.map iV)[j]? = some u → wr.cell? ((⟨g, 0, none⟩ : Addr).add j) = some u := by
  intro j u hu
  have hj : j < xs.length := by
    by_cases hj : j < xs.length
    · exact hj
    · rw [List.getElem?_eq_none (by simpa using hj)] at hu; exact absurd hu (by simp)
  have := h.cell e hj
  simp only [Go.WideShapes.add_plain, Nat.zero_add]
  rw [this]
  rw [List.getElem?_map, List.getElem?_eq_getElem hj] at hu
  simp only [Option.map_some, Option.some.injEq] at hu
  rw [← hu]
  simp [List.getD, hj, iV]
end

theorem infI : (Try.prog.info? 3).map (fun i => (i.zero, i.size, i.bytes)) = some (some (.int .i64 0), 1, 8) := by kernel_rfl
/-- A row that was just built. -/
theorem own_built {w : World} {base : Nat} {e : TypeId} (cs : List Value) (hb : base ≤ w.heap.size) (hm : cs.length ≤ maxLen) : (w.alloc (.cells cs.toArray e)).ownsRow base e 1 (.slice (some ⟨w.heap.size, 0, none⟩) cs.length cs.length) cs.length cs :=
  ⟨by simp, .inr ⟨w.heap.size, cs.length, cs.toArray, rfl, hb, heap_alloc_new w _, Nat.le_refl _, hm, by simp, by simp⟩⟩

theorem one_ints (ys : List Int) : ∀ u ∈ ys.map iV, u.oneCell' = true := by
  intro u hu
  obtain ⟨y, _, rfl⟩ := List.mem_map.1 hu
  rfl
theorem news_built {w : World} {t : TypeId} (ys : List Int) : ∀ j u, (ys.map iV)[j]? = some u → (w.alloc (.cells (ys.map iV).toArray t)).cell? ((⟨w.heap.size, 0, none⟩ : Addr).add j) = some u :=
  World.news_of_block (cs := (ys.map iV).toArray) (t := t) (fr := (0, 0)) (by have := heap_alloc_new w (.cells (ys.map iV).toArray t); simpa using this)

end Go.Proofs.Ytepfegfacdbhbab.form
