/- The order in which temporaries are given registers (color.order): whatever it is, each of them is a temporary. -/
import Derived.Test.YtgeimilnddpdmabNearOwn
import Derived.Test.YtgeimilnddpdmabColorHow
import Derived.Test.YtgeimilnddpdmabColorDel
import Derived.Deep.AppendLies
import Derived.Deep.LoopGhost
import Derived.Laws.OwnMore
import Derived.Laws.EntriesVeiled
namespace Go.Proofs.Ytgeimilnddpdmab.form
open Go.RowKit
set_option linter.unusedVariables false
set_option maxRecDepth 100000
attribute [local go_sem ↓] Go.wp_at_zero Go.wp_at_succ

theorem one_cell (x : Value) (w : World) (ty : TypeId) : ∀ (j : Nat) (u : Value), [x][j]? = some u → (w.alloc (.cells #[x] ty)).cell? ((⟨w.heap.size, 0, none⟩ : Addr).add j) = some u := by
  intro j u h
  rcases j with _ | j
  · simp at h; subst h; simp [go_sem, Addr.add]
  · simp at h

/-- While the temporaries are listed. -/
structure LfS (w : World) (b0 o0 c0 g : Nat) (B : List Bool) (l : List Nat) (v : Value) (wr : World) : Prop where
  bel : Below w.heap.size w wr
  wide : wr.cell? ⟨w.heap.size, 0, none⟩ = some (.slice (some ⟨b0, o0, none⟩) B.length c0)
  rows : wr.cell? ⟨w.heap.size + 1, 0, none⟩ = some (.slice (some ⟨g, 0, none⟩) B.length B.length)
  left : wr.cell? ⟨w.heap.size + 1 + 1, 0, none⟩ = some v
  free : wr.frozen? ⟨w.heap.size + 1 + 1, 0, none⟩ = false
  own : wr.ownsRow (w.heap.size + 3) 3 1 v l.length (l.map natV)
  size : w.heap.size + 3 ≤ wr.heap.size

theorem LfS.form {w : World} {b0 o0 c0 g : Nat} {B : List Bool} {l : List Nat} {v : Value} {wr : World} (h : LfS w b0 o0 c0 g B l v wr) : ∃ ao cap, v = .slice ao l.length cap := by
  rcases h.own.2 with ⟨rfl, h0⟩ | ⟨g, cap, cur, rfl, _⟩
  · exact ⟨none, 0, by rw [h0]⟩
  · exact ⟨_, cap, rfl⟩

theorem LfS.push {w : World} {b0 o0 c0 g : Nat} {B : List Bool} {l : List Nat} {v : Value} {wr w9 : World} {x : Nat} {o : Obj} {g9 cap9 : Nat} (h : LfS w b0 o0 c0 g B l v wr)
    (hown : w9.ownsRow (w.heap.size + 3) 3 1 (.slice (some ⟨g9, 0, none⟩) (l.length + 1) cap9) (l.length + 1) (l.map natV ++ [.int .i64 (x : Nat)])) (hgrow : (wr.alloc o).grownBy w9 v.ownBlock) :
    (w9.cell? ⟨w.heap.size + 1 + 1, 0, none⟩ = some v ∧ w9.frozen? ⟨w.heap.size + 1 + 1, 0, none⟩ = false) ∧
    LfS w b0 o0 c0 g B (l ++ [x]) (.slice (some ⟨g9, 0, none⟩) (l.length + 1) cap9) (w9.setCell ⟨w.heap.size + 1 + 1, 0, none⟩ (.slice (some ⟨g9, 0, none⟩) (l.length + 1) cap9)) := by
  have hsz := h.size
  have hA : Below wr.heap.size wr (wr.alloc o) := (Below.refl _ _).alloc (Nat.le_refl _) _
  have hne : ∀ b, b < w.heap.size + 3 → some b ≠ v.ownBlock := fun b hb e => by have := (World.ownsRow.lt h.own _ e.symm).1; omega
  have k0 := hgrow.cell (step_cell hA h.wide) (hne _ (by dsimp only; omega))
  have k1 := hgrow.cell (step_cell hA h.rows) (hne _ (by dsimp only; omega))
  have k2 := hgrow.cell (step_cell hA h.left) (hne _ (by dsimp only; omega))
  have k3 : w9.frozen? ⟨w.heap.size + 1 + 1, 0, none⟩ = false := by
    rw [hgrow.frozen_far _ (by simp; omega) (hne _ (by dsimp only; omega)), hA.frozen (by dsimp only; omega)]
    exact h.free
  have hb9 : Below w.heap.size w w9 := (h.bel.alloc h.bel.size o).grown hgrow (by simp; omega) (fun j hj => by have := (World.ownsRow.lt h.own _ hj).1; omega)
  have hg9 : w.heap.size + 3 ≤ g9 := (World.ownsRow.lt hown g9 rfl).1
  have hs9 : wr.heap.size + 1 ≤ w9.heap.size := by have := hgrow.size; simpa using this
  refine ⟨⟨k2, k3⟩, hb9.setCell (by dsimp only; omega) _, cell_other k0 (by dsimp only; omega), cell_other k1 (by dsimp only; omega), ?_, ?_, ?_, by simp [World.setCell]; omega⟩
  · exact World.cell?_setCell_same _ _ _ k2
  · rw [World.frozen?_setCell]; exact k3
  · have := ownsRow_setCell_other (a := ⟨w.heap.size + 1 + 1, 0, none⟩) hown (by simp [Value.ownBlock]; omega) (.slice (some ⟨g9, 0, none⟩) (l.length + 1) cap9)
    simpa [natV] using this


theorem OrdB.kept {pl pr pw lb cap g b0 o0 c0 P : Nat} {l : List Nat} {B L : List Bool} {w w' : World} (h : OrdB pl pr pw lb cap g b0 o0 c0 l B L w) (hk : ∀ b o, b < P → w'.cell? ⟨b, o, none⟩ = w.cell? ⟨b, o, none⟩) (h1 : pl < P) (h2 : pr < P) (h3 : pw < P) (h4 : lb < P) (h5 : g + B.length < P) (h6 : b0 < P) : OrdB pl pr pw lb cap g b0 o0 c0 l B L w' :=
  ⟨(hk _ _ h1).trans h.left, (hk _ _ h2).trans h.rows, (hk _ _ h3).trans h.wide, fun k hl => (hk _ _ h4).trans (h.el k hl), h.lt, fun k hl => (hk _ _ (by omega)).trans (h.top k hl), fun k t hl ht => (hk _ _ (by omega)).trans (h.row k t hl ht), fun k hl => (hk _ _ h6).trans (h.ws k hl)⟩

/-- While they are taken out one by one. -/
structure OrS (w : World) (P lb cap b0 o0 c0 g : Nat) (B L : List Bool) (l bs : List Nat) (v : Value) (wr : World) : Prop where
  ord : OrdB (w.heap.size + 1 + 1) (w.heap.size + 1) w.heap.size lb cap g b0 o0 c0 l B L wr
  row : RowI wr lb l
  hcap : l.length ≤ cap
  free : wr.frozen? ⟨w.heap.size + 1 + 1, 0, none⟩ = false
  bel : Below w.heap.size w wr
  own : wr.ownsRow P 3 1 v bs.length (bs.map natV)
  bl : ∀ j, j < bs.length → bs.getD j 0 < B.length
  sum : bs.length + l.length = B.length
  size : P ≤ wr.heap.size

section
variable {w : World} {P lb cap b0 o0 c0 g : Nat} {B L : List Bool} {l bs : List Nat} {v : Value} {wr : World}
theorem OrS.drewN (h : OrS w P lb cap b0 o0 c0 g B L l bs v wr) (q : Nat) : OrS w P lb cap b0 o0 c0 g B L l bs v (wr.drewN q) :=
  ⟨h.ord.drewN q, h.row, h.hcap, h.free, ⟨h.bel.os, h.bel.tape, h.bel.output, h.bel.size, h.bel.block⟩, h.own, h.bl, h.sum, h.size⟩
theorem OrS.form (h : OrS w P lb cap b0 o0 c0 g B L l bs v wr) : ∃ ao cap, v = .slice ao bs.length cap := by
  rcases h.own.2 with ⟨rfl, h0⟩ | ⟨g, cap, cur, rfl, _⟩
  · exact ⟨none, 0, by rw [h0]⟩
  · exact ⟨_, cap, rfl⟩

/-- One more behind. -/
structure OrM (w : World) (P lb cap b0 o0 c0 g : Nat) (B L : List Bool) (l bs : List Nat) (v : Value) (wr : World) : Prop where
  ord : OrdB (w.heap.size + 1 + 1) (w.heap.size + 1) w.heap.size lb cap g b0 o0 c0 l B L wr
  row : RowI wr lb l
  free : wr.frozen? ⟨w.heap.size + 1 + 1, 0, none⟩ = false
  bel : Below w.heap.size w wr
  own : wr.ownsRow P 3 1 v bs.length (bs.map natV)
  bl : ∀ j, j < bs.length → bs.getD j 0 < B.length
  size : P ≤ wr.heap.size

theorem getD_snoc (bs : List Nat) (x j : Nat) : (bs ++ [x]).getD j 0 = if j < bs.length then bs.getD j 0 else if j = bs.length then x else 0 := by
  simp only [List.getD]
  by_cases h : j < bs.length
  · rw [List.getElem?_append_left h, if_pos h]
  · rw [List.getElem?_append_right (by omega), if_neg h]
    by_cases e : j = bs.length
    · subst e; simp
    · rw [if_neg e, List.getElem?_eq_none (by simp; omega)]; rfl

theorem OrS.push (h : OrS w P lb cap b0 o0 c0 g B L l bs v wr) (hP1 : w.heap.size + 3 ≤ lb) (hP2 : lb < P) (hg : g + B.length < w.heap.size) (hb0 : b0 < w.heap.size) {x : Nat} (hx : x < B.length) {o : Obj} {w9 : World} {g9 cap9 : Nat}
    (hown : w9.ownsRow P 3 1 (.slice (some ⟨g9, 0, none⟩) (bs.length + 1) cap9) (bs.length + 1) (bs.map natV ++ [.int .i64 (x : Nat)])) (hgrow : (wr.alloc o).grownBy w9 v.ownBlock) :
    OrM w P lb cap b0 o0 c0 g B L l (bs ++ [x]) (.slice (some ⟨g9, 0, none⟩) (bs.length + 1) cap9) w9 := by
  have hsz := h.size
  have hA : Below wr.heap.size wr (wr.alloc o) := (Below.refl _ _).alloc (Nat.le_refl _) _
  have hne : ∀ b, b < P → some b ≠ v.ownBlock := fun b hb e => by have := (World.ownsRow.lt h.own _ e.symm).1; omega
  have hc : ∀ b o, b < P → w9.cell? ⟨b, o, none⟩ = wr.cell? ⟨b, o, none⟩ := fun b o hb => by
    rw [hgrow.cell_far _ (by simp; omega) (hne b hb), hA.cell (by dsimp only; omega)]
  have hf : ∀ b o, b < P → w9.frozen? ⟨b, o, none⟩ = wr.frozen? ⟨b, o, none⟩ := fun b o hb => by
    rw [hgrow.frozen_far _ (by simp; omega) (hne b hb), hA.frozen (by dsimp only; omega)]
  refine ⟨h.ord.kept hc (by omega) (by omega) (by omega) (by omega) (by omega) (by omega), fun j hj => ⟨(hc _ _ hP2).trans (h.row j hj).1, (hf _ _ hP2).trans (h.row j hj).2⟩, (hf _ _ (by omega)).trans h.free, ?_, by simpa [natV] using hown, ?_, ?_⟩
  · exact (h.bel.alloc h.bel.size o).grown hgrow (by simp; omega) (fun j hj => by have := (World.ownsRow.lt h.own _ hj).1; omega)
  · intro j hj
    rw [getD_snoc]
    have hj2 : j < bs.length + 1 := by simpa using hj
    by_cases e : j < bs.length
    · rw [if_pos e]; exact h.bl j e
    · rw [if_neg e, if_pos (by omega)]; exact hx
  · have := hgrow.size
    simp at this
    omega

theorem getD_erase (l : List Nat) (i j : Nat) : (l.eraseIdx i).getD j 0 = l.getD j 0 ∨ (l.eraseIdx i).getD j 0 = l.getD (j + 1) 0 := by
  simp only [List.getD]
  rw [List.getElem?_eraseIdx]
  split
  · exact Or.inl rfl
  · exact Or.inr rfl

/-- One taken out. -/
theorem OrM.del (h : OrM w P lb cap b0 o0 c0 g B L l bs v wr) (hP1 : w.heap.size + 3 ≤ lb) (hP2 : lb < P) (hg : g + B.length < w.heap.size) (hb0 : b0 < w.heap.size) (hcap : l.length ≤ cap) {i : Nat} (hi : i < l.length) (hs : bs.length + l.length = B.length + 1) {w9 : World}
    (hr : RowI w9 lb (l.eraseIdx i)) (hgrow : wr.grownBy w9 (some lb)) :
    (w9.cell? ⟨w.heap.size + 1 + 1, 0, none⟩ = some (.slice (some ⟨lb, 0, none⟩) l.length cap) ∧ w9.frozen? ⟨w.heap.size + 1 + 1, 0, none⟩ = false) ∧
    OrS w P lb cap b0 o0 c0 g B L (l.eraseIdx i) bs v (w9.setCell ⟨w.heap.size + 1 + 1, 0, none⟩ (.slice (some ⟨lb, 0, none⟩) (l.length - 1) cap)) := by
  have hsz := h.size
  have hll := List.length_eraseIdx_of_lt hi
  have hc : ∀ b o, b < P → ¬ b = lb → w9.cell? ⟨b, o, none⟩ = wr.cell? ⟨b, o, none⟩ := fun b o hb hn => hgrow.cell_far _ (by dsimp only; omega) (by simpa using hn)
  have hf : ∀ b o, b < P → ¬ b = lb → w9.frozen? ⟨b, o, none⟩ = wr.frozen? ⟨b, o, none⟩ := fun b o hb hn => hgrow.frozen_far _ (by dsimp only; omega) (by simpa using hn)
  have k2 : w9.cell? ⟨w.heap.size + 1 + 1, 0, none⟩ = some (.slice (some ⟨lb, 0, none⟩) l.length cap) := (hc _ _ (by omega) (by omega)).trans h.ord.left
  have k3 : w9.frozen? ⟨w.heap.size + 1 + 1, 0, none⟩ = false := (hf _ _ (by omega) (by omega)).trans h.free
  have hlt : ∀ k, k < (l.eraseIdx i).length → (l.eraseIdx i).getD k 0 < B.length := fun k hk => by
    rcases getD_erase l i k with e | e
    · rw [e]; exact h.ord.lt k (by omega)
    · rw [e]; exact h.ord.lt (k + 1) (by omega)
  have hvn : v.ownBlock ≠ some lb := fun e => by have := (World.ownsRow.lt h.own _ e).1; omega
  have hv2 : v.ownBlock ≠ some (w.heap.size + 1 + 1) := fun e => by have := (World.ownsRow.lt h.own _ e).1; omega
  refine ⟨⟨k2, k3⟩, ⟨?_, ?_, ?_, ?_, hlt, ?_, ?_, ?_⟩, ?_, by omega, by rw [World.frozen?_setCell]; exact k3, ?_, ?_, h.bl, by omega, ?_⟩
  · rw [hll]; exact World.cell?_setCell_same _ _ _ k2
  · exact cell_other ((hc _ _ (by omega) (by omega)).trans h.ord.rows) (by dsimp only; omega)
  · exact cell_other ((hc _ _ (by omega) (by omega)).trans h.ord.wide) (by dsimp only; omega)
  · exact fun k hk => cell_other (hr k hk).1 (by dsimp only; omega)
  · exact fun k hk => cell_other ((hc _ _ (by omega) (by omega)).trans (h.ord.top k hk)) (by dsimp only; omega)
  · exact fun k t hk ht => cell_other ((hc _ _ (by omega) (by omega)).trans (h.ord.row k t hk ht)) (by dsimp only; omega)
  · exact fun k hk => cell_other ((hc _ _ (by omega) (by omega)).trans (h.ord.ws k hk)) (by dsimp only; omega)
  · exact fun k hk => ⟨cell_other (hr k hk).1 (by dsimp only; omega), by rw [World.frozen?_setCell]; exact (hr k hk).2⟩
  · exact (h.bel.grown hgrow (by omega) (fun j hj => by simp at hj; omega)).setCell (by dsimp only; omega) _
  · exact ownsRow_setCell_other (World.ownsRow.kept h.own hgrow (Or.inr hvn)) hv2 _
  · have := hgrow.size
    simp [World.setCell]
    omega
end

/-- The answer: temporaries, in a row of its own. -/
def OrderP (w : World) (nB : Nat) (e : Ending) (w' : World) : Prop :=
  (∃ (gb cap : Nat) (l : List Nat), e = .returned (.slice (some ⟨gb, 0, none⟩) l.length cap) ∧ l.length ≤ 12 ∧ w.heap.size ≤ gb ∧ gb < w'.heap.size ∧ ∀ j, j < l.length → w'.cell? ⟨gb, j, none⟩ = some (.int .i64 (l.getD j 0 : Nat)) ∧ l.getD j 0 < nB) ∧ Below w.heap.size w w'

end Go.Proofs.Ytgeimilnddpdmab.form
