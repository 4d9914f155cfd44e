/- The order in which temporaries are given registers (color.order): whatever it is, each of them is a temporary. -/
import Derived.Deep.AppendLies
import Derived.Deep.LoopGhost
import Derived.Laws.OwnMore
import Derived.Laws.EntriesVeiled
import Derived.Test.YtikhedkhgpjaaacGreatDoorProg
import Derived.Laws.StructEq
import Derived.WalkKit
import Derived.Test.YtikhedkhgpjaaacGreatDoorW24
import Derived.Test.YtikhedkhgpjaaacGreatDoorW28
import Derived.Test.YtikhedkhgpjaaacGreatDoorW19
import Derived.Test.YtikhedkhgpjaaacGreatDoorW08

namespace Go.Proofs.YtikhedkhgpjaaacGreatDoor
set_option linter.unusedVariables false
namespace form
open Go.RowKit
set_option maxRecDepth 100000
attribute [local go_sem ↓] Go.wp_at_zero Go.wp_at_succ
theorem one_cell (x : Value) (w : World) (ty : TypeId) : ∀ (j : Nat) (u : Value), [x][j]? = some u → (w.alloc (.cells #[x] ty)).cell? ((⟨w.heap.size, 0, none⟩ : Addr).add j) = some u := by
  intro j u h
  rcases j with _ | j
  · simp at h; subst h; simp [go_sem, Addr.add]
  · simp at h
structure LfS (w : World) (b0 o0 c0 g : Nat) (B : List Bool) (l : List Nat) (v : Value) (wr : World) : Prop where
  bel : Below w.heap.size w wr
  wide : wr.cell? ⟨w.heap.size, 0, none⟩ = some (.slice (some ⟨b0, o0, none⟩) B.length c0)
  rows : wr.cell? ⟨w.heap.size + 1, 0, none⟩ = some (.slice (some ⟨g, 0, none⟩) B.length B.length)
  left : wr.cell? ⟨w.heap.size + 1 + 1, 0, none⟩ = some v
  free : wr.frozen? ⟨w.heap.size + 1 + 1, 0, none⟩ = false
  own : wr.ownsRow (w.heap.size + 3) 3 1 v l.length (l.map natV)
  size : w.heap.size + 3 ≤ wr.heap.size
theorem LfS.form {w : World} {b0 o0 c0 g : Nat} {B : List Bool} {l : List Nat} {v : Value} {wr : World} (h : LfS w b0 o0 c0 g B l v wr) : ∃ ao cap, v = .slice ao l.length cap := by
  rcases h.own.2 with ⟨rfl, h0⟩ | ⟨g, cap, cur, rfl, _⟩
  · exact ⟨none, 0, by rw [h0]⟩
  · exact ⟨_, cap, rfl⟩
theorem LfS.push {w : World} {b0 o0 c0 g : Nat} {B : List Bool} {l : List Nat} {v : Value} {wr w9 : World} {x : Nat} {o : Obj} {g9 cap9 : Nat} (h : LfS w b0 o0 c0 g B l v wr)
    (hown : w9.ownsRow (w.heap.size + 3) 3 1 (.slice (some ⟨g9, 0, none⟩) (l.length + 1) cap9) (l.length + 1) (l.map natV ++ [.int .i64 (x : Nat)])) (hgrow : (wr.alloc o).grownBy w9 v.ownBlock) :
    (w9.cell? ⟨w.heap.size + 1 + 1, 0, none⟩ = some v ∧ w9.frozen? ⟨w.heap.size + 1 + 1, 0, none⟩ = false) ∧
    LfS w b0 o0 c0 g B (l ++ [x]) (.slice (some ⟨g9, 0, none⟩) (l.length + 1) cap9) (w9.setCell ⟨w.heap.size + 1 + 1, 0, none⟩ (.slice (some ⟨g9, 0, none⟩) (l.length + 1) cap9)) := by
  have hsz := h.size
  have hA : Below wr.heap.size wr (wr.alloc o) := (Below.refl _ _).alloc (Nat.le_refl _) _
  have hne : ∀ b, b < w.heap.size + 3 → some b ≠ v.ownBlock := fun b hb e => by have := (World.ownsRow.lt h.own _ e.symm).1; omega
  have k0 := hgrow.cell (step_cell hA h.wide) (hne _ (by dsimp only; omega))
  have k1 := hgrow.cell (step_cell hA h.rows) (hne _ (by dsimp only; omega))
  have k2 := hgrow.cell (step_cell hA h.left) (hne _ (by dsimp only; omega))
  have k3 : w9.frozen? ⟨w.heap.size + 1 + 1, 0, none⟩ = false := by
    rw [hgrow.frozen_far _ (by simp; omega) (hne _ (by dsimp only; omega)), hA.frozen (by dsimp only; omega)]
    exact h.free
  have hb9 : Below w.heap.size w w9 := (h.bel.alloc h.bel.size o).grown hgrow (by simp; omega) (fun j hj => by have := (World.ownsRow.lt h.own _ hj).1; omega)
  have hg9 : w.heap.size + 3 ≤ g9 := (World.ownsRow.lt hown g9 rfl).1
  have hs9 : wr.heap.size + 1 ≤ w9.heap.size := by have := hgrow.size; simpa using this
  refine ⟨⟨k2, k3⟩, hb9.setCell (by dsimp only; omega) _, cell_other k0 (by dsimp only; omega), cell_other k1 (by dsimp only; omega), ?_, ?_, ?_, by simp [World.setCell]; omega⟩
  · exact World.cell?_setCell_same _ _ _ k2
  · rw [World.frozen?_setCell]; exact k3
  · have := ownsRow_setCell_other (a := ⟨w.heap.size + 1 + 1, 0, none⟩) hown (by simp [Value.ownBlock]; omega) (.slice (some ⟨g9, 0, none⟩) (l.length + 1) cap9)
    simpa [natV] using this
theorem OrdB.kept {pl pr pw lb cap g b0 o0 c0 P : Nat} {l : List Nat} {B L : List Bool} {w w' : World} (h : OrdB pl pr pw lb cap g b0 o0 c0 l B L w) (hk : ∀ b o, b < P → w'.cell? ⟨b, o, none⟩ = w.cell? ⟨b, o, none⟩) (h1 : pl < P) (h2 : pr < P) (h3 : pw < P) (h4 : lb < P) (h5 : g + B.length < P) (h6 : b0 < P) : OrdB pl pr pw lb cap g b0 o0 c0 l B L w' :=
  ⟨(hk _ _ h1).trans h.left, (hk _ _ h2).trans h.rows, (hk _ _ h3).trans h.wide, fun k hl => (hk _ _ h4).trans (h.el k hl), h.lt, fun k hl => (hk _ _ (by omega)).trans (h.top k hl), fun k t hl ht => (hk _ _ (by omega)).trans (h.row k t hl ht), fun k hl => (hk _ _ h6).trans (h.ws k hl)⟩
structure OrS (w : World) (P lb cap b0 o0 c0 g : Nat) (B L : List Bool) (l bs : List Nat) (v : Value) (wr : World) : Prop where
  ord : OrdB (w.heap.size + 1 + 1) (w.heap.size + 1) w.heap.size lb cap g b0 o0 c0 l B L wr
  row : RowI wr lb l
  hcap : l.length ≤ cap
  free : wr.frozen? ⟨w.heap.size + 1 + 1, 0, none⟩ = false
  bel : Below w.heap.size w wr
  own : wr.ownsRow P 3 1 v bs.length (bs.map natV)
  bl : ∀ j, j < bs.length → bs.getD j 0 < B.length
  sum : bs.length + l.length = B.length
  size : P ≤ wr.heap.size
section
variable {w : World} {P lb cap b0 o0 c0 g : Nat} {B L : List Bool} {l bs : List Nat} {v : Value} {wr : World}
theorem OrS.drewN (h : OrS w P lb cap b0 o0 c0 g B L l bs v wr) (q : Nat) : OrS w P lb cap b0 o0 c0 g B L l bs v (wr.drewN q) :=
  ⟨h.ord.drewN q, h.row, h.hcap, h.free, ⟨h.bel.os, h.bel.tape, h.bel.output, h.bel.size, h.bel.block⟩, h.own, h.bl, h.sum, h.size⟩
theorem OrS.form (h : OrS w P lb cap b0 o0 c0 g B L l bs v wr) : ∃ ao cap, v = .slice ao bs.length cap := by
  rcases h.own.2 with ⟨rfl, h0⟩ | ⟨g, cap, cur, rfl, _⟩
  · exact ⟨none, 0, by rw [h0]⟩
  · exact ⟨_, cap, rfl⟩
structure OrM (w : World) (P lb cap b0 o0 c0 g : Nat) (B L : List Bool) (l bs : List Nat) (v : Value) (wr : World) : Prop where
  ord : OrdB (w.heap.size + 1 + 1) (w.heap.size + 1) w.heap.size lb cap g b0 o0 c0 l B L wr
  row : RowI wr lb l
  free : wr.frozen? ⟨w.heap.size + 1 + 1, 0, none⟩ = false
  bel : Below w.heap.size w wr
  own : wr.ownsRow P 3 1 v bs.length (bs.map natV)
  bl : ∀ j, j < bs.length → bs.getD j 0 < B.length
  size : P ≤ wr.heap.size
theorem getD_snoc (bs : List Nat) (x j : Nat) : (bs ++ [x]).getD j 0 = if j < bs.length then bs.getD j 0 else if j = bs.length then x else 0 := by
  simp only [List.getD]
  by_cases h : j < bs.length
  · rw [List.getElem?_append_left h, if_pos h]
  · rw [List.getElem?_append_right (by omega), if_neg h]
    by_cases e : j = bs.length
    · subst e; simp
    · rw [if_neg e, List.getElem?_eq_none (by simp; omega)]; rfl
theorem OrS.push (h : OrS w P lb cap b0 o0 c0 g B L l bs v wr) (hP1 : w.heap.size + 3 ≤ lb) (hP2 : lb < P) (hg : g + B.length < w.heap.size) (hb0 : b0 < w.heap.size) {x : Nat} (hx : x < B.length) {o : Obj} {w9 : World} {g9 cap9 : Nat}
    (hown : w9.ownsRow P 3 1 (.slice (some ⟨g9, 0, none⟩) (bs.length + 1) cap9) (bs.length + 1) (bs.map natV ++ [.int .i64 (x : Nat)])) (hgrow : (wr.alloc o).grownBy w9 v.ownBlock) :
    OrM w P lb cap b0 o0 c0 g B L l (bs ++ [x]) (.slice (some ⟨g9, 0, none⟩) (bs.length + 1) cap9) w9 := by
  have hsz := h.size
  have hA : Below wr.heap.size wr (wr.alloc o) := (Below.refl _ _).alloc (Nat.le_refl _) _
  have hne : ∀ b, b < P → some b ≠ v.ownBlock := fun b hb e => by have := (World.ownsRow.lt h.own _ e.symm).1; omega
  have hc : ∀ b o, b < P → w9.cell? ⟨b, o, none⟩ = wr.cell? ⟨b, o, none⟩ := fun b o hb => by
    rw [hgrow.cell_far _ (by simp; omega) (hne b hb), hA.cell (by dsimp only; omega)]
  have hf : ∀ b o, b < P → w9.frozen? ⟨b, o, none⟩ = wr.frozen? ⟨b, o, none⟩ := fun b o hb => by
    rw [hgrow.frozen_far _ (by simp; omega) (hne b hb), hA.frozen (by dsimp only; omega)]
  refine ⟨h.ord.kept hc (by omega) (by omega) (by omega) (by omega) (by omega) (by omega), fun j hj => ⟨(hc _ _ hP2).trans (h.row j hj).1, (hf _ _ hP2).trans (h.row j hj).2⟩, (hf _ _ (by omega)).trans h.free, ?_, by simpa [natV] using hown, ?_, ?_⟩
  · exact (h.bel.alloc h.bel.size o).grown hgrow (by simp; omega) (fun j hj => by have := (World.ownsRow.lt h.own _ hj).1; omega)
  · intro j hj
    rw [getD_snoc]
    have hj2 : j < bs.length + 1 := by simpa using hj
    by_cases e : j < bs.length
    · rw [if_pos e]; exact h.bl j e
    · rw [if_neg e, if_pos (by omega)]; exact hx
  · have := hgrow.size
    simp at this
    omega
theorem getD_erase (l : List Nat) (i j : Nat) : (l.eraseIdx i).getD j 0 = l.getD j 0 ∨ (l.eraseIdx i).getD j 0 = l.getD (j + 1) 0 := by
  simp only [List.getD]
  rw [List.getElem?_eraseIdx]
  split
  · exact Or.inl rfl
  · exact Or.inr rfl
theorem OrM.del (h : OrM w P lb cap b0 o0 c0 g B L l bs v wr) (hP1 : w.heap.size + 3 ≤ lb) (hP2 : lb < P) (hg : g + B.length < w.heap.size) (hb0 : b0 < w.heap.size) (hcap : l.length ≤ cap) {i : Nat} (hi : i < l.length) (hs : bs.length + l.length = B.length + 1) {w9 : World}
    (hr : RowI w9 lb (l.eraseIdx i)) (hgrow : wr.grownBy w9 (some lb)) :
    (w9.cell? ⟨w.heap.size + 1 + 1, 0, none⟩ = some (.slice (some ⟨lb, 0, none⟩) l.length cap) ∧ w9.frozen? ⟨w.heap.size + 1 + 1, 0, none⟩ = false) ∧
    OrS w P lb cap b0 o0 c0 g B L (l.eraseIdx i) bs v (w9.setCell ⟨w.heap.size + 1 + 1, 0, none⟩ (.slice (some ⟨lb, 0, none⟩) (l.length - 1) cap)) := by
  have hsz := h.size
  have hll := List.length_eraseIdx_of_lt hi
  have hc : ∀ b o, b < P → ¬ b = lb → w9.cell? ⟨b, o, none⟩ = wr.cell? ⟨b, o, none⟩ := fun b o hb hn => hgrow.cell_far _ (by dsimp only; omega) (by simpa using hn)
  have hf : ∀ b o, b < P → ¬ b = lb → w9.frozen? ⟨b, o, none⟩ = wr.frozen? ⟨b, o, none⟩ := fun b o hb hn => hgrow.frozen_far _ (by dsimp only; omega) (by simpa using hn)
  have k2 : w9.cell? ⟨w.heap.size + 1 + 1, 0, none⟩ = some (.slice (some ⟨lb, 0, none⟩) l.length cap) := (hc _ _ (by omega) (by omega)).trans h.ord.left
  have k3 : w9.frozen? ⟨w.heap.size + 1 + 1, 0, none⟩ = false := (hf _ _ (by omega) (by omega)).trans h.free
  have hlt : ∀ k, k < (l.eraseIdx i).length → (l.eraseIdx i).getD k 0 < B.length := fun k hk => by
    rcases getD_erase l i k with e | e
    · rw [e]; exact h.ord.lt k (by omega)
    · rw [e]; exact h.ord.lt (k + 1) (by omega)
  have hvn : v.ownBlock ≠ some lb := fun e => by have := (World.ownsRow.lt h.own _ e).1; omega
  have hv2 : v.ownBlock ≠ some (w.heap.size + 1 + 1) := fun e => by have := (World.ownsRow.lt h.own _ e).1; omega
  refine ⟨⟨k2, k3⟩, ⟨?_, ?_, ?_, ?_, hlt, ?_, ?_, ?_⟩, ?_, by omega, by rw [World.frozen?_setCell]; exact k3, ?_, ?_, h.bl, by omega, ?_⟩
  · rw [hll]; exact World.cell?_setCell_same _ _ _ k2
  · exact cell_other ((hc _ _ (by omega) (by omega)).trans h.ord.rows) (by dsimp only; omega)
  · exact cell_other ((hc _ _ (by omega) (by omega)).trans h.ord.wide) (by dsimp only; omega)
  · exact fun k hk => cell_other (hr k hk).1 (by dsimp only; omega)
  · exact fun k hk => cell_other ((hc _ _ (by omega) (by omega)).trans (h.ord.top k hk)) (by dsimp only; omega)
  · exact fun k t hk ht => cell_other ((hc _ _ (by omega) (by omega)).trans (h.ord.row k t hk ht)) (by dsimp only; omega)
  · exact fun k hk => cell_other ((hc _ _ (by omega) (by omega)).trans (h.ord.ws k hk)) (by dsimp only; omega)
  · exact fun k hk => ⟨cell_other (hr k hk).1 (by dsimp only; omega), by rw [World.frozen?_setCell]; exact (hr k hk).2⟩
  · exact (h.bel.grown hgrow (by omega) (fun j hj => by simp at hj; omega)).setCell (by dsimp only; omega) _
  · exact ownsRow_setCell_other (World.ownsRow.kept h.own hgrow (Or.inr hvn)) hv2 _
  · have := hgrow.size
    simp [World.setCell]
    omega
end
def ordG (B L : List Bool) (n : Int) : Nat → List Nat → List Nat → List Nat
  | 0, _, bs => bs
  | f + 1, l, bs => ordG B L n f (l.eraseIdx (pickL B L n l)) (bs ++ [l.getD (pickL B L n l) 0])
def orderL (B L : List Bool) (n : Int) : List Nat := (ordG B L n B.length (List.range B.length) []).reverse
theorem ordG_lt {B L : List Bool} {n : Int} {m : Nat} (h0 : 0 < m) : ∀ f l bs, (∀ x, x ∈ l → x < m) → (∀ x, x ∈ bs → x < m) → ∀ x, x ∈ ordG B L n f l bs → x < m
  | 0, _, bs, _, hb, x, hx => hb x hx
  | f + 1, l, bs, hl, hb, x, hx => by
    refine ordG_lt h0 f _ _ (fun y hy => hl y (List.mem_of_mem_eraseIdx hy)) (fun y hy => ?_) x hx
    rcases List.mem_append.1 hy with h | h
    · exact hb y h
    · rw [List.mem_singleton.1 h]
      simp only [List.getD]
      cases hq : l[pickL B L n l]? with
      | none => exact h0
      | some z => exact hl z (List.mem_of_getElem? hq)
theorem orderL_lt {B L : List Bool} {n : Int} (h0 : 0 < B.length) : ∀ x, x ∈ orderL B L n → x < B.length := fun x hx =>
  ordG_lt h0 _ _ _ (fun y hy => List.mem_range.1 hy) (fun y hy => by simp at hy) x (List.mem_reverse.1 hx)
def OrderP (w : World) (nB : Nat) (l : List Nat) (e : Ending) (w' : World) : Prop :=
  (∃ (gb cap : Nat), e = .returned (.slice (some ⟨gb, 0, none⟩) l.length cap) ∧ l.length ≤ 12 ∧ w.heap.size ≤ gb ∧ gb < w'.heap.size ∧ ∀ j, j < l.length → w'.cell? ⟨gb, j, none⟩ = some (.int .i64 (l.getD j 0 : Nat)) ∧ l.getD j 0 < nB) ∧ Below w.heap.size w w'
end form
/- The order in which temporaries are given registers: the program's own color.order. -/
namespace form
open Go.RowKit
set_option maxRecDepth 100000
attribute [local go_sem ↓] Go.wp_at_zero Go.wp_at_succ
theorem range_get (n j : Nat) (h : j < n) : (List.range n).getD j 0 = j := by simp [List.getD, h]
theorem LfS.ready {w : World} {b0 o0 c0 g : Nat} {B L : List Bool} {v : Value} {wr : World} (h : LfS w b0 o0 c0 g B (List.range B.length) v wr) (h1 : 1 ≤ B.length) (hM : MatF g B.length B.length L w) (hw : ∀ i, i < B.length → w.cell? ⟨b0, o0 + i, none⟩ = some (.bool (B.getD i false))) (hb0 : b0 < w.heap.size) :
    ∃ lb cap, v = .slice (some ⟨lb, 0, none⟩) B.length cap ∧ w.heap.size + 3 ≤ lb ∧ lb < wr.heap.size ∧ cap ≤ 9223372036854775807 ∧ OrS w wr.heap.size lb cap b0 o0 c0 g B L (List.range B.length) [] (.slice none 0 0) wr := by
  obtain ⟨lb, cap, rfl, h2, h3⟩ := h.own.form (by simp; omega)
  have hown := h.own
  have hgz : g + B.length < w.heap.size := by have := (hM.row (B.length - 1) (by omega)).lt; omega
  have hcap : B.length ≤ cap ∧ cap ≤ 9223372036854775807 := by
    rcases hown.2 with ⟨e, _⟩ | ⟨g', cap', cur, e, _, _, h5, h6, _⟩
    · simp at e
    · simp only [Value.slice.injEq, Option.some.injEq, Addr.mk.injEq, and_true, true_and] at e
      obtain ⟨rfl, rfl⟩ := e
      unfold maxLen at h6
      simp at h5
      exact ⟨h5, h6⟩
  have hel : ∀ k, k < B.length → wr.cell? ⟨lb, k, none⟩ = some (.int .i64 (k : Nat)) := fun k hk => by
    rw [World.ownsRow.cellAt hown k (by simp; omega)]
    simp [natV, hk]
  have hlen : (List.range B.length).length = B.length := by simp
  refine ⟨lb, cap, by rw [hlen], h2, h3, hcap.2, ⟨by have := h.left; rwa [hlen] at this ⊢, h.rows, h.wide, fun k hk => ?_, fun k hk => ?_, fun k hk => step_cell h.bel (hM.top k hk), fun k t hk ht => step_cell h.bel (hM.cell hk ht), fun k hk => step_cell h.bel (hw k hk)⟩, fun k hk => ?_, by rw [hlen]; exact hcap.1, h.free, h.bel, World.ownsRow_nil _ _ _ _, fun j hj => by simp at hj, by simp, Nat.le_refl _⟩
  · rw [hlen] at hk; rw [range_get _ _ hk]; exact hel k hk
  · rw [hlen] at hk; rw [range_get _ _ hk]; exact hk
  · rw [hlen] at hk; rw [range_get _ _ hk]; exact ⟨hel k hk, World.ownsRow.frozenAt hown k⟩
set_option maxHeartbeats 1600000 in
theorem orderO (b0 o0 c0 g : Nat) (B L : List Bool) (n : Int) (w : World) (h1 : 1 ≤ B.length) (h12 : B.length ≤ 12) (hM : MatF g B.length B.length L w) (hw : ∀ i, i < B.length → w.cell? ⟨b0, o0 + i, none⟩ = some (.bool (B.getD i false))) (hb0 : b0 < w.heap.size) :
    Calls Tryz.prog 131 #[.slice (some ⟨b0, o0, none⟩) B.length c0, .slice (some ⟨g, 0, none⟩) B.length B.length, .int .i64 n] w fun e w' => OrderP w B.length (orderL B L n) e w' := by
  have hgz : g + B.length < w.heap.size := by have := (hM.row (B.length - 1) (by omega)).lt; omega
  have HRD : Hid (∀ v wr, LfS w b0 o0 c0 g B (List.range B.length) v wr → ∃ lb cap, v = .slice (some ⟨lb, 0, none⟩) B.length cap ∧ w.heap.size + 3 ≤ lb ∧ lb < wr.heap.size ∧ cap ≤ 9223372036854775807 ∧ OrS w wr.heap.size lb cap b0 o0 c0 g B L (List.range B.length) [] (.slice none 0 0) wr) := fun v wr h => h.ready h1 hM hw hb0
  have HS0 : Hid (∀ a b c : Obj, Below w.heap.size w (((w.alloc a).alloc b).alloc c)) := fun a b c => (((Below.refl _ _).alloc (Nat.le_refl _) _).alloc (by simp) _).alloc (by simp; omega) _
  have y1 : (B.length : Int) ≤ 12 := by omega
  clear hM hw
  go_enter Tryz.func131, Tryz.ntmps131
  go_wp2
  go_loopg [9, 14] (B.length + 1) (fun gg v9 v14 wr => ∃ (k : Nat) (v : Value), v14 = .int .i64 k ∧ k ≤ B.length ∧ gg = B.length + 1 - k ∧ LfS w b0 o0 c0 g B (List.range k) v wr)
  case atStart => exact ⟨0, .slice none 0 0, rfl, by omega, by omega, ⟨HS0.out _ _ _, by simp [go_sem], by simp [go_sem], by simp [go_sem], by simp [go_sem], World.ownsRow_nil _ _ _ _, by simp⟩⟩
  case round =>
    obtain ⟨k, v, rfl, hk, hgk, hls⟩ := hrel
    have HGK : Hid (gk = B.length + 1 - k) := hgk
    have HLS : Hid (LfS w b0 o0 c0 g B (List.range k) v wr) := hls
    clear hgk hls
    by_cases hlt : k < B.length
    case pos =>
      have y2 : (k : Int) < (B.length : Int) := by omega
      obtain ⟨t0', hi0, hy0, hy1, hy2⟩ := info_parts infInt
      obtain ⟨rao, rcap, hform⟩ := HLS.out.form
      have hrl : (List.range k).length = k := by simp
      rw [hrl] at hform
      subst hform
      have e7 := HLS.out.left
      have e8 := HLS.out.wide
      have hwz := HLS.out.size
      have hown0 := HLS.out.own
      rw [hrl] at hown0
      have HOW : Hid (wr.ownsRow (w.heap.size + 3) 3 1 (.slice rao k rcap) k ((List.range k).map natV)) := hown0
      clear hown0
      go_wp2_with (at_builtin; refine wpList_append_lies _ rfl _ _ 114 rfl (w.heap.size + 3) 3 t0' (.int .i64 0) 1 8 Tryz.underlying114 hi0 hy0 hy1 hy2 rfl (by decide) (.slice rao k rcap) k ((List.range k).map natV) rfl (World.ownsRow.alloc HOW.out _) ⟨wr.heap.size, 0, none⟩ 1 1 [.int .i64 (k : Nat)] rfl rfl (one_cell _ _ _) (by simp [Value.oneCell']) (by decide) (by unfold maxLen; omega) (by omega) (by first | omega | (simp; omega)) _ rfl ?_; intro g9 cap9 w9 hown hgrow hat hlt9; have hP := HLS.out.push (x := k) (by rw [hrl]; exact hown) hgrow; rw [hrl] at hP; obtain ⟨⟨q1, q2⟩, hP⟩ := hP; have HP : Hid (LfS w b0 o0 c0 g B (List.range k ++ [k]) (.slice (some ⟨g9, 0, none⟩) (k + 1) cap9) (w9.setCell ⟨w.heap.size + 1 + 1, 0, none⟩ (.slice (some ⟨g9, 0, none⟩) (k + 1) cap9))) := hP; clear hP hown hgrow hat e7)
      have hgk := HGK.out
      go_roundg (gk - 1)
      case measure => omega
      case rel => exact ⟨k + 1, _, by go_num, by omega, by omega, by rw [List.range_succ]; exact HP.out⟩
    have y2 : ¬ (k : Int) < (B.length : Int) := by omega
    obtain rfl : k = B.length := by omega
    obtain ⟨lb, cap, rfl, hl1, hl2, hcm, hos⟩ := HRD.out _ _ HLS.out
    obtain ⟨P, hP⟩ : ∃ P, P = wr.heap.size := ⟨_, rfl⟩
    rw [← hP] at hl2 hos
    have HOS : Hid (OrS w P lb cap b0 o0 c0 g B L (List.range B.length) [] (.slice none 0 0) wr) := hos
    clear hos hP HGK HLS HRD HS0
    obtain ⟨wo, hwo⟩ : ∃ wo, wo = wr := ⟨_, rfl⟩
    rw [← hwo] at HOS
    subst hwo
    go_wp2
    go_loopg [8, 11] (B.length + 1) (fun gg v8 v11 wr => ∃ (l bs : List Nat), gg = l.length + 1 ∧ OrS w P lb cap b0 o0 c0 g B L l bs v8 wr ∧ ordG B L n l.length l bs = ordG B L n B.length (List.range B.length) [])
    case atStart => exact ⟨List.range B.length, [], by simp, HOS.out, by simp⟩
    case round =>
      clear HOS
      obtain ⟨l, bs, hgk, hos, hog⟩ := hrel
      have HOG : Hid (ordG B L n l.length l bs = ordG B L n B.length (List.range B.length) []) := hog
      clear hog
      have HGK : Hid (gk = l.length + 1) := hgk
      have HOS : Hid (OrS w P lb cap b0 o0 c0 g B L l bs u8 wr) := hos
      have e7 := hos.ord.left
      have hs1 := hos.sum
      have hl12 : l.length ≤ 12 := by omega
      have y3 : (l.length : Int) ≤ 12 := by omega
      clear hgk hos
      by_cases hl0 : 0 < l.length
      case neg =>
        have y4 : ¬ (0 : Int) < (l.length : Int) := by omega
        have hbs : 0 < bs.length := by omega
        obtain ⟨gb, cb, hform, hgb1, hgb2⟩ := HOS.out.own.form hbs
        subst hform
        have HRI : Hid (RowI wr gb bs) := fun j hj => ⟨by rw [World.ownsRow.cellAt HOS.out.own j (by omega)]; simp [natV, List.getD, hj], World.ownsRow.frozenAt HOS.out.own j⟩
        have hPw := HOS.out.size
        go_wp2_with (go_at_call 159; refine (reverseO gb cb bs _ HRI.out (by omega)).mono ?_; rintro e w9 ⟨rfl, hr9, hg9⟩; have HR9 : Hid (RowI w9 gb bs.reverse) := hr9; have HG9 : Hid (wr.grownBy w9 (some gb)) := hg9; clear hr9 hg9)
        go_ret
        have hord : orderL B L n = bs.reverse := by
          unfold orderL
          rw [← HOG.out, show l.length = 0 by omega]
          rfl
        rw [hord]
        refine ⟨⟨gb, cb, by simp, by simp; omega, by omega, by have := HG9.out.size; omega, fun j hj => ⟨(HR9.out j hj).1, ?_⟩⟩, HOS.out.bel.grown HG9.out (by have := HOS.out.bel.size; omega) (fun j hj => by simp at hj; omega)⟩
        have hj2 : j < bs.length := by simpa using hj
        have := HOS.out.bl (bs.length - 1 - j) (by omega)
        rw [show bs.reverse.getD j 0 = bs.getD (bs.length - 1 - j) 0 by simp [List.getD, List.getElem?_reverse hj2]]
        exact this
      have y4 : (0 : Int) < (l.length : Int) := by omega
      obtain ⟨rao, rcap, hform⟩ := HOS.out.form
      subst hform
      obtain ⟨t0', hi0, hy0, hy1, hy2⟩ := info_parts infInt
      go_wp2_with fail
      go_at_call 157
      refine (pickO _ _ _ lb cap g b0 o0 c0 l B L n _ HOS.out.ord h12 hl12 hl0).mono ?_
      have hi := pickL_lt B L n l hl0
      have HSTP : Hid (ordG B L n B.length (List.range B.length) [] = ordG B L n (l.length - 1) (l.eraseIdx (pickL B L n l)) (bs ++ [l.getD (pickL B L n l) 0])) := by
        show ordG B L n B.length (List.range B.length) [] = _
        rw [← HOG.out]
        obtain ⟨f, hf⟩ : ∃ f, l.length = f + 1 := ⟨l.length - 1, by omega⟩
        rw [hf]
        rfl
      obtain ⟨i, hi0⟩ : ∃ i, i = pickL B L n l := ⟨_, rfl⟩
      rw [← hi0] at hi HSTP ⊢
      clear hi0
      rintro e w1 ⟨q, rfl, hw1⟩
      have hos1 := HOS.out.drewN q
      rw [← hw1] at hos1
      have HO1 : Hid (OrS w P lb cap b0 o0 c0 g B L l bs (.slice rao bs.length rcap) w1) := hos1
      have e8 := hos1.ord.left
      have e9 := (hos1.row i hi).1
      have hx := hos1.ord.lt i hi
      have hPw := hos1.size
      obtain ⟨x, hx0⟩ : ∃ x, x = l.getD i 0 := ⟨_, rfl⟩
      rw [← hx0] at e9 hx HSTP
      have y5 : (i : Int) < (l.length : Int) := by omega
      have y6 : (0 : Int) ≤ (i : Int) := by omega
      clear hos1 hw1 hx0 HOS e7
      go_wp2_with (first
        | (at_builtin; refine wpList_append_lies _ rfl _ _ 114 rfl P 3 t0' (.int .i64 0) 1 8 Tryz.underlying114 hi0 hy0 hy1 hy2 rfl (by decide) (.slice rao bs.length rcap) bs.length (bs.map natV) rfl (World.ownsRow.alloc HO1.out.own _) ⟨w1.heap.size, 0, none⟩ 1 1 [.int .i64 (x : Nat)] rfl rfl (one_cell _ _ _) (by simp [Value.oneCell']) (by decide) (by unfold maxLen; omega) (by omega) (by first | omega | (simp; omega)) _ rfl ?_; intro g9 cap9 w9 hown hgrow hat hlt9; have hP := HO1.out.push hl1 hl2 hgz hb0 hx hown hgrow; have e10 := hP.ord.left; have HM9 : Hid (OrM w P lb cap b0 o0 c0 g B L l (bs ++ [x]) (.slice (some ⟨g9, 0, none⟩) (bs.length + 1) cap9) w9) := hP; clear hP hown hgrow hat e8 e9)
        | (go_at_call 158; refine (deleteO lb cap i l _ HM9.out.row HO1.out.hcap hcm hi).mono ?_; rintro e w10 ⟨rfl, hr10, hg10⟩; have hD := HM9.out.del hl1 hl2 hgz hb0 HO1.out.hcap hi (by simp; omega) hr10 hg10; obtain ⟨⟨q1, q2⟩, hD⟩ := hD; have HD : Hid (OrS w P lb cap b0 o0 c0 g B L (l.eraseIdx i) (bs ++ [x]) (.slice (some ⟨g9, 0, none⟩) (bs.length + 1) cap9) (w10.setCell ⟨w.heap.size + 1 + 1, 0, none⟩ (.slice (some ⟨lb, 0, none⟩) (l.length - 1) cap))) := hD; clear hD hr10 hg10 e10))
      have hgk := HGK.out
      go_roundg (gk - 1)
      case measure => omega
      case rel => exact ⟨l.eraseIdx i, bs ++ [x], by rw [List.length_eraseIdx_of_lt hi]; omega, HD.out, by rw [List.length_eraseIdx_of_lt hi]; exact HSTP.out.symm⟩
end form
/- What color.Make must answer, by whatever way. -/
namespace form
open Go.RowKit
def PlacesIs (w : World) (v : Value) (L : List LPlace) : Prop :=
  ∃ ao cap, v = .slice ao L.length cap ∧ L.length ≤ 9223372036854775807 ∧ (0 < L.length → ∃ b o, ao = some ⟨b, o, none⟩ ∧ b < w.heap.size ∧ ∀ k, k < L.length → w.cell? ⟨b, o + k * 2, none⟩ = some (.int .i64 (L.getD k .zero).kind) ∧ w.cell? ⟨b, o + k * 2 + 1, none⟩ = some (.int .i64 (L.getD k .zero).n))
def badN (n : Int) : Prop := n < 0 ∨ 16 < n ∨ ¬ n % 2 = 0
end form
/- Places held against each other (== on structs). -/
namespace form
open Go.RowKit
theorem eqPlace (w : World) (a b c d : Int) : (binOp .eql 137 (.agg #[.int .i64 a, .int .i64 b]) (.agg #[.int .i64 c, .int .i64 d])).run Tryz.prog w = .ok (.bool ((a == c) && (b == d))) w := by
  have hu := Tryz.underlying137
  have h3 : Tryz.prog.underlying 3 = some (.int .i64) := Tryz.underlying3
  rw [run_eql_struct, run_equalIn_agg w 9999 137 _ _ (by kernel_rfl) (by kernel_rfl)]
  simp [go_sem, Program.fieldsOf, hu]
  by_cases e1 : a = c <;> by_cases e2 : b = d <;> simp [e1, e2]
end form
end Go.Proofs.YtikhedkhgpjaaacGreatDoor
