/- What may not be in one place, gathered in one row of truths (the closure that near.Of makes), on plain numbers and in memory. -/
import Derived.Test.YtgeimilnddpdmabNearPlain
import Derived.Test.YtgeimilnddpdmabLiveFlat
import Derived.WalkMore
import Derived.Deep.Cut
namespace Go.Proofs.Ytgeimilnddpdmab.form
open Go.RowKit
set_option linter.unusedVariables false
attribute [local go_sem ↓] Go.wp_at_zero Go.wp_at_succ

def joinL (nB : Nat) (L : List Bool) (a b : Nat) : List Bool := if a = b then L else (L.set (a * nB + b) true).set (b * nB + a) true

/-- The truths found till now are just these. -/
structure NrS (nB : Nat) (L : List Bool) (P : Nat → Nat → Prop) : Prop where
  len : L.length = nB * nB
  tru : ∀ x y, x < nB → y < nB → (getF nB L x y = true ↔ P x y)

/-- Besides, one with each of some. -/
def JoinP (P : Nat → Nat → Prop) (d : Nat) (H : Nat → Prop) (x y : Nat) : Prop := P x y ∨ (¬ x = y ∧ ((x = d ∧ H y) ∨ (y = d ∧ H x)))

theorem NrS.congr {nB : Nat} {L : List Bool} {P Q : Nat → Nat → Prop} (h : NrS nB L P) (e : ∀ x y, x < nB → y < nB → (P x y ↔ Q x y)) : NrS nB L Q :=
  ⟨h.len, fun x y hx hy => (h.tru x y hx hy).trans (e x y hx hy)⟩

theorem NrS.join {nB d t : Nat} {L : List Bool} {P : Nat → Nat → Prop} {H : Nat → Prop} (h : NrS nB L (JoinP P d H)) (hd : d < nB) (ht : t < nB) : NrS nB (joinL nB L d t) (JoinP P d (fun y => H y ∨ y = t)) := by
  unfold joinL
  by_cases e : d = t
  · rw [if_pos e]
    refine h.congr fun x y hx hy => ?_
    unfold JoinP
    grind
  · rw [if_neg e]
    refine ⟨by simp [h.len], fun x y hx hy => ?_⟩
    rw [getF_set (nC := nB) (by simp [h.len]) ht hd hy, getF_set (nC := nB) h.len hd ht hy]
    have := h.tru x y hx hy
    unfold JoinP at this ⊢
    grind

theorem NrS.nothing (nB : Nat) : NrS nB (List.replicate (nB * nB) false) (fun _ _ => False) :=
  ⟨by simp, fun x y _ _ => by rw [getF_nothing]; simp⟩

theorem NrS.truth {nB : Nat} {L : List Bool} {P : Nat → Nat → Prop} (h : NrS nB L P) : TruthMat nB nB P ((List.range nB).map (rowF nB L)) := by
  have e : ∀ k, k < nB → ((List.range nB).map (rowF nB L)).getD k [] = rowF nB L k := fun k hk => by simp [List.getD, hk]
  refine ⟨by simp, fun k hk => by rw [e k hk, len_rowF], fun k hk t ht => ?_⟩
  rw [e k hk, getD_rowF ht]
  exact h.tru k t hk ht

/-- All that was there but the blocks from lo to below hi is as it was. -/
structure Apart (lo hi : Nat) (w w' : World) : Prop where
  os : w'.os = w.os
  tape : w'.tape = w.tape
  output : w'.output = w.output
  size : w.heap.size ≤ w'.heap.size
  block : ∀ k, k < w.heap.size → ¬ (lo ≤ k ∧ k < hi) → w'.heap[k]? = w.heap[k]?

theorem Apart.of_below {lo hi : Nat} {w w' : World} (h : Below w.heap.size w w') : Apart lo hi w w' := ⟨h.os, h.tape, h.output, h.size, fun k hk _ => h.block k hk⟩
theorem Apart.refl (lo hi : Nat) (w : World) : Apart lo hi w w := Apart.of_below (Below.refl _ _)
theorem Apart.trans {lo hi : Nat} {a b c : World} (h : Apart lo hi a b) (k : Apart lo hi b c) : Apart lo hi a c :=
  ⟨k.os.trans h.os, k.tape.trans h.tape, k.output.trans h.output, Nat.le_trans h.size k.size, fun i hi' hn => (k.block i (Nat.lt_of_lt_of_le hi' h.size) hn).trans (h.block i hi' hn)⟩
theorem Apart.set {lo hi : Nat} {w w' : World} (h : Apart lo hi w w') {a : Addr} (h1 : lo ≤ a.block) (h2 : a.block < hi) (u : Value) : Apart lo hi w (w'.setCell a u) :=
  h.trans ⟨rfl, rfl, rfl, by simp [World.setCell], fun k hk hn => Below.heap_setCell _ _ _ _ (fun e => hn (by omega))⟩
theorem Apart.cell {lo hi : Nat} {w w' : World} (h : Apart lo hi w w') {p : Addr} {v : Value} (hc : w.cell? p = some v) (hn : ¬ (lo ≤ p.block ∧ p.block < hi)) : w'.cell? p = some v := by
  rw [World.cell?_of_block (w := w) (h.block p.block (World.block_lt_of_cell? w p hc) hn)]
  exact hc
theorem Apart.below {lo hi : Nat} {w w' : World} (h : Apart lo hi w w') (hl : lo ≤ w.heap.size) : Below lo w w' := ⟨h.os, h.tape, h.output, h.size, fun k hk => h.block k (by omega) (by omega)⟩
theorem Apart.mono {lo hi lo' hi' : Nat} {w w' : World} (h : Apart lo hi w w') (h1 : lo' ≤ lo) (h2 : hi ≤ hi') : Apart lo' hi' w w' := ⟨h.os, h.tape, h.output, h.size, fun k hk hn => h.block k hk (by omega)⟩

set_option maxRecDepth 100000 in
theorem join (gn bx nB a b : Nat) (L : List Bool) (w : World) (hB : nB ≤ 12) (hx : w.cell? ⟨bx, 0, none⟩ = some (.slice (some ⟨gn, 0, none⟩) nB nB)) (hxn : ¬ (gn ≤ bx ∧ bx < gn + 1 + nB)) (hM : MatF gn nB nB L w) (ha : a < nB) (hb : b < nB) :
    Calls Try.prog 50 #[.int .i64 a, .int .i64 b, .pointer (some ⟨bx, 0, none⟩)] w fun e w' => e = .returned (.tuple #[]) ∧ MatF gn nB nB (joinL nB L a b) w' ∧ Apart gn (gn + 1 + nB) w w' := by
  have y0 : (0 : Int) ≤ (a : Int) := by omega
  have y1 : (a : Int) < (nB : Int) := by omega
  have y2 : (0 : Int) ≤ (b : Int) := by omega
  have y3 : (b : Int) < (nB : Int) := by omega
  have y4 : (nB : Int) ≤ 12 := by omega
  by_cases hab : a = b
  · subst hab
    go_enter Try.func50, Try.ntmps50
    go_wp2
    go_end0
    exact ⟨rfl, by unfold joinL; rw [if_pos rfl]; exact hM, Apart.refl _ _ _⟩
  have y5 : ¬ (a : Int) = (b : Int) := by omega
  have m1 := hM.top a ha
  have c1 := hM.cell ha hb
  have f1 := (hM.row a ha).frozen b
  obtain ⟨W1, hW1⟩ : ∃ W1, W1 = w.setCell ⟨gn + 1 + a, b, none⟩ (.bool true) := ⟨_, rfl⟩
  have hM1 : MatF gn nB nB (L.set (a * nB + b) true) W1 := by rw [hW1]; exact hM.set ha hb
  have hx1 : W1.cell? ⟨bx, 0, none⟩ = some (.slice (some ⟨gn, 0, none⟩) nB nB) := by rw [hW1]; exact cell_other hx (by show bx ≠ gn + 1 + a; omega)
  have m2 := hM1.top b hb
  have c2 := hM1.cell hb ha
  have f2 := (hM1.row b hb).frozen a
  have HM1 : Hid (MatF gn nB nB (L.set (a * nB + b) true) W1) := hM1
  have HA1 : Hid (Apart gn (gn + 1 + nB) w W1) := by
    have : Apart gn (gn + 1 + nB) w (w.setCell ⟨gn + 1 + a, b, none⟩ (.bool true)) := (Apart.refl _ _ _).set (by show gn ≤ gn + 1 + a; omega) (by show gn + 1 + a < gn + 1 + nB; omega) _
    rw [← hW1] at this
    exact this
  have HW1 : Hid (w.setCell ⟨gn + 1 + a, b, none⟩ (.bool true) = W1) := hW1.symm
  clear hM hM1 hW1
  go_enter Try.func50, Try.ntmps50
  go_upto_region 2 with (fail)
  rw [HW1.out]
  go_wp2
  go_end0
  refine ⟨rfl, ?_, ?_⟩
  · unfold joinL
    rw [if_neg hab]
    exact HM1.out.set hb ha
  · exact HA1.out.set (by show gn ≤ gn + 1 + b; omega) (by show gn + 1 + b < gn + 1 + nB; omega) _

end Go.Proofs.Ytgeimilnddpdmab.form
