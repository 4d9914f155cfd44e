/- What Put must answer, by whatever way. -/
import Derived.WalkMore
import Derived.Deep.Cut
import Derived.Test.YtikhedkhgpjaaacGreatDoorW18
import Derived.Test.YtikhedkhgpjaaacGreatDoorW14
import Derived.Test.YtikhedkhgpjaaacGreatDoorW04
import Derived.Test.YtikhedkhgpjaaacGreatDoorW05

namespace Go.Proofs.YtikhedkhgpjaaacGreatDoor
set_option linter.unusedVariables false
namespace form
open Go.RowKit
def OwnPut (w : World) (slots : Int) (R : List LRow) (e : Ending) (w' : World) : Prop := Below w.heap.size w w' ∧ ∃ bv er, e = .returned (.tuple #[bv, .int .i64 er]) ∧
  ((smallB (putB slots R) = true ∧ er = 0 ∧ BytesIs w' bv (putB slots R)) ∨ (smallB (putB slots R) = false ∧ er = 1 ∧ BytesIs w' bv []))
end form
/- What may not be in one place, on plain numbers: near ones; rows of truths that tell them are only one. -/
namespace form
open Go.RowKit
def NearAt (C : List LIns) (k : Nat) (a b : Int) : Prop :=
  givesT (C.getD k .zero) a = true ∧ ¬ ((C.getD k .zero).op = 2 ∧ (C.getD k .zero).a = b) ∧ ∃ x, x ∈ nextsN (C.getD k .zero) k ∧ Need C b x
def Near (C : List LIns) (a b : Int) : Prop :=
  ¬ a = b ∧ ((Need C a 0 ∧ Need C b 0) ∨ ∃ k, k < C.length ∧ (NearAt C k a b ∨ NearAt C k b a))
theorem Near.symm {C : List LIns} {a b : Int} (h : Near C a b) : Near C b a := by
  obtain ⟨hne, h⟩ := h
  refine ⟨fun e => hne e.symm, ?_⟩
  rcases h with ⟨h1, h2⟩ | ⟨k, hk, h⟩
  · exact Or.inl ⟨h2, h1⟩
  · exact Or.inr ⟨k, hk, h.symm⟩
end form
/- What is needed, found by adding from nothing: the truths of all instructions in one row, on plain numbers and in memory. -/
namespace form
open Go.RowKit
def getF (nB : Nat) (L : List Bool) (k t : Nat) : Bool := L.getD (k * nB + t) false
def rowF (nB : Nat) (L : List Bool) (k : Nat) : List Bool := (List.range nB).map (getF nB L k)
theorem flat_inj {nB k t k' t' : Nat} (h : t < nB) (h' : t' < nB) (e : k * nB + t = k' * nB + t') : k = k' ∧ t = t' := by
  have h1 : (k * nB + t) / nB = k := by rw [Nat.mul_comm, Nat.mul_add_div (by omega), Nat.div_eq_of_lt h]; omega
  have h2 : (k' * nB + t') / nB = k' := by rw [Nat.mul_comm, Nat.mul_add_div (by omega), Nat.div_eq_of_lt h']; omega
  rw [e, h2] at h1
  subst h1
  exact ⟨rfl, by omega⟩
theorem flat_lt {nB nC k t : Nat} (hk : k < nC) (ht : t < nB) : k * nB + t < nC * nB := by
  have : (k + 1) * nB ≤ nC * nB := Nat.mul_le_mul_right _ hk
  rw [Nat.succ_mul] at this
  omega
theorem getF_set {nB nC k t k' t' : Nat} {L : List Bool} (hL : L.length = nC * nB) (hk : k < nC) (ht : t < nB) (ht' : t' < nB) :
    getF nB (L.set (k * nB + t) true) k' t' = if k' = k ∧ t' = t then true else getF nB L k' t' := by
  have hlt := flat_lt hk ht
  unfold getF
  by_cases e : k' = k ∧ t' = t
  · rw [if_pos e, e.1, e.2]
    simp [List.getD, hL, hlt]
  · rw [if_neg e]
    have : k * nB + t ≠ k' * nB + t' := fun h => e (by have := flat_inj ht ht' h; omega)
    simp [List.getD, this]
def stepB (nB : Nat) (C : List LIns) (L : List Bool) (k t : Nat) : Bool :=
  takesI (C.getD k .zero) t || (!givesT (C.getD k .zero) t && (nextsN (C.getD k .zero) k).any fun x => decide (x < C.length) && getF nB L x t)
def Snd (nB : Nat) (C : List LIns) (L : List Bool) : Prop := ∀ k t, k < C.length → t < nB → getF nB L k t = true → Need C t k
def Cls (nB : Nat) (C : List LIns) (L : List Bool) : Prop := ∀ k t, k < C.length → t < nB → getF nB L k t = false → stepB nB C L k t = false
theorem step_need {nB : Nat} {C : List LIns} {L : List Bool} {k t : Nat} (h : Snd nB C L) (hk : k < C.length) (ht : t < nB) (hs : stepB nB C L k t = true) : Need C t k := by
  rw [need_iff]
  refine ⟨hk, ?_⟩
  unfold stepB at hs
  simp only [Bool.or_eq_true, Bool.and_eq_true, Bool.not_eq_true', List.any_eq_true, decide_eq_true_eq] at hs
  rcases hs with hs | ⟨hg, x, hx, hxl, hxt⟩
  · exact Or.inl hs
  · exact Or.inr ⟨hg, x, hx, h x t hxl ht hxt⟩
theorem snd_set {nB : Nat} {C : List LIns} {L : List Bool} {k t : Nat} (h : Snd nB C L) (hL : L.length = C.length * nB) (hk : k < C.length) (ht : t < nB) (hs : stepB nB C L k t = true) : Snd nB C (L.set (k * nB + t) true) := by
  intro k' t' hk' ht' hg
  rw [getF_set hL hk ht ht'] at hg
  by_cases e : k' = k ∧ t' = t
  · rw [e.1, e.2]; exact step_need h hk ht hs
  · rw [if_neg e] at hg; exact h k' t' hk' ht' hg
theorem getF_nothing (nB nC k t : Nat) : getF nB (List.replicate (nC * nB) false) k t = false := by
  unfold getF
  by_cases h : k * nB + t < nC * nB <;> simp [List.getD, h]
theorem snd_nothing (nB : Nat) (C : List LIns) : Snd nB C (List.replicate (C.length * nB) false) := by
  intro k t _ _ h
  rw [getF_nothing] at h
  exact absurd h (by simp)
theorem flat_need {nB : Nat} {C : List LIns} {L : List Bool} (hS : Snd nB C L) (hC : Cls nB C L) {k t : Nat} (hk : k < C.length) (ht : t < nB) : getF nB L k t = true ↔ Need C t k := by
  refine ⟨hS k t hk ht, fun hn => ?_⟩
  refine (need_least C t (fun k => k < C.length ∧ getF nB L k t = true) (fun j hj hor => ⟨hj, ?_⟩) k hn).2
  cases hg : getF nB L j t with
  | true => rfl
  | false =>
    have := hC j t hj ht hg
    unfold stepB at this
    simp only [Bool.or_eq_false_iff, Bool.and_eq_false_iff, Bool.not_eq_false'] at this
    rcases hor with hor | ⟨h1, x, hx, hxl, hxt⟩
    · rw [hor] at this; exact absurd this.1 (by simp)
    · rcases this.2 with h2 | h2
      · rw [h1] at h2; exact absurd h2 (by simp)
      · have := List.any_eq_false.1 h2 x hx
        simp [hxl, hxt] at this
theorem len_rowF (nB : Nat) (L : List Bool) (k : Nat) : (rowF nB L k).length = nB := by simp [rowF]
theorem getD_rowF {nB : Nat} {L : List Bool} {k t : Nat} (ht : t < nB) : (rowF nB L k).getD t false = getF nB L k t := by simp [rowF, List.getD, ht]
theorem rowF_set {nB nC k t k' : Nat} {L : List Bool} (hL : L.length = nC * nB) (hk : k < nC) (ht : t < nB) : rowF nB (L.set (k * nB + t) true) k' = if k' = k then (rowF nB L k').set t true else rowF nB L k' := by
  by_cases e : k' = k
  · rw [if_pos e]
    subst e
    apply List.ext_getElem (by simp [rowF])
    intro q h1 h2
    have hq : q < nB := by simpa [rowF] using h1
    simp only [rowF, List.getElem_map, List.getElem_range, List.getElem_set]
    rw [getF_set hL hk ht hq]
    by_cases e2 : q = t
    · simp [e2]
    · rw [if_neg (by omega), if_neg (by omega)]
  · rw [if_neg e]
    unfold rowF
    apply List.map_congr_left
    intro q hq
    rw [getF_set hL hk ht (by simpa using hq), if_neg (by omega)]
structure MatF (g nB nC : Nat) (L : List Bool) (w : World) : Prop where
  len : L.length = nC * nB
  top : ∀ k, k < nC → w.cell? ⟨g, k, none⟩ = some (.slice (some ⟨g + 1 + k, 0, none⟩) nB nB)
  row : ∀ k, k < nC → Row w (g + 1 + k) 4 ((rowF nB L k).map Value.bool)
theorem MatF.cell {g nB nC : Nat} {L : List Bool} {w : World} (h : MatF g nB nC L w) {k t : Nat} (hk : k < nC) (ht : t < nB) : w.cell? ⟨g + 1 + k, t, none⟩ = some (.bool (getF nB L k t)) := by
  rw [(h.row k hk).cell]
  simp [rowF, ht]
theorem MatF.below {g nB nC : Nat} {L : List Bool} {w w' : World} (h : MatF g nB nC L w) (hb : Below w.heap.size w w') : MatF g nB nC L w' :=
  ⟨h.len, fun k hk => step_cell hb (h.top k hk), fun k hk => (h.row k hk).below hb⟩
theorem MatF.set {g nB nC : Nat} {L : List Bool} {w : World} (h : MatF g nB nC L w) {k t : Nat} (hk : k < nC) (ht : t < nB) : MatF g nB nC (L.set (k * nB + t) true) (w.setCell ⟨g + 1 + k, t, none⟩ (.bool true)) := by
  refine ⟨by simp [h.len], fun j hj => cell_other (h.top j hj) (by show g ≠ g + 1 + k; omega), fun j hj => ?_⟩
  rw [rowF_set h.len hk ht]
  by_cases e : j = k
  · subst e
    rw [if_pos rfl]
    have := (h.row j hj).set t (.bool true)
    simpa [List.map_set] using this
  · rw [if_neg e]
    exact (h.row j hj).other (by simp; omega) _
end form
/- What may not be in one place, gathered in one row of truths (the closure that near.Of makes), on plain numbers and in memory. -/
namespace form
open Go.RowKit
attribute [local go_sem ↓] Go.wp_at_zero Go.wp_at_succ
def joinL (nB : Nat) (L : List Bool) (a b : Nat) : List Bool := if a = b then L else (L.set (a * nB + b) true).set (b * nB + a) true
structure NrS (nB : Nat) (L : List Bool) (P : Nat → Nat → Prop) : Prop where
  len : L.length = nB * nB
  tru : ∀ x y, x < nB → y < nB → (getF nB L x y = true ↔ P x y)
def JoinP (P : Nat → Nat → Prop) (d : Nat) (H : Nat → Prop) (x y : Nat) : Prop := P x y ∨ (¬ x = y ∧ ((x = d ∧ H y) ∨ (y = d ∧ H x)))
theorem NrS.congr {nB : Nat} {L : List Bool} {P Q : Nat → Nat → Prop} (h : NrS nB L P) (e : ∀ x y, x < nB → y < nB → (P x y ↔ Q x y)) : NrS nB L Q :=
  ⟨h.len, fun x y hx hy => (h.tru x y hx hy).trans (e x y hx hy)⟩
theorem NrS.join {nB d t : Nat} {L : List Bool} {P : Nat → Nat → Prop} {H : Nat → Prop} (h : NrS nB L (JoinP P d H)) (hd : d < nB) (ht : t < nB) : NrS nB (joinL nB L d t) (JoinP P d (fun y => H y ∨ y = t)) := by
  unfold joinL
  by_cases e : d = t
  · rw [if_pos e]
    refine h.congr fun x y hx hy => ?_
    unfold JoinP
    grind
  · rw [if_neg e]
    refine ⟨by simp [h.len], fun x y hx hy => ?_⟩
    rw [getF_set (nC := nB) (by simp [h.len]) ht hd hy, getF_set (nC := nB) h.len hd ht hy]
    have := h.tru x y hx hy
    unfold JoinP at this ⊢
    grind
theorem NrS.nothing (nB : Nat) : NrS nB (List.replicate (nB * nB) false) (fun _ _ => False) :=
  ⟨by simp, fun x y _ _ => by rw [getF_nothing]; simp⟩
structure Apart (lo hi : Nat) (w w' : World) : Prop where
  os : w'.os = w.os
  tape : w'.tape = w.tape
  output : w'.output = w.output
  size : w.heap.size ≤ w'.heap.size
  block : ∀ k, k < w.heap.size → ¬ (lo ≤ k ∧ k < hi) → w'.heap[k]? = w.heap[k]?
theorem Apart.of_below {lo hi : Nat} {w w' : World} (h : Below w.heap.size w w') : Apart lo hi w w' := ⟨h.os, h.tape, h.output, h.size, fun k hk _ => h.block k hk⟩
theorem Apart.refl (lo hi : Nat) (w : World) : Apart lo hi w w := Apart.of_below (Below.refl _ _)
theorem Apart.trans {lo hi : Nat} {a b c : World} (h : Apart lo hi a b) (k : Apart lo hi b c) : Apart lo hi a c :=
  ⟨k.os.trans h.os, k.tape.trans h.tape, k.output.trans h.output, Nat.le_trans h.size k.size, fun i hi' hn => (k.block i (Nat.lt_of_lt_of_le hi' h.size) hn).trans (h.block i hi' hn)⟩
theorem Apart.set {lo hi : Nat} {w w' : World} (h : Apart lo hi w w') {a : Addr} (h1 : lo ≤ a.block) (h2 : a.block < hi) (u : Value) : Apart lo hi w (w'.setCell a u) :=
  h.trans ⟨rfl, rfl, rfl, by simp [World.setCell], fun k hk hn => Below.heap_setCell _ _ _ _ (fun e => hn (by omega))⟩
theorem Apart.cell {lo hi : Nat} {w w' : World} (h : Apart lo hi w w') {p : Addr} {v : Value} (hc : w.cell? p = some v) (hn : ¬ (lo ≤ p.block ∧ p.block < hi)) : w'.cell? p = some v := by
  rw [World.cell?_of_block (w := w) (h.block p.block (World.block_lt_of_cell? w p hc) hn)]
  exact hc
theorem Apart.below {lo hi : Nat} {w w' : World} (h : Apart lo hi w w') (hl : lo ≤ w.heap.size) : Below lo w w' := ⟨h.os, h.tape, h.output, h.size, fun k hk => h.block k (by omega) (by omega)⟩
set_option maxRecDepth 100000 in
theorem join (gn bx nB a b : Nat) (L : List Bool) (w : World) (hB : nB ≤ 12) (hx : w.cell? ⟨bx, 0, none⟩ = some (.slice (some ⟨gn, 0, none⟩) nB nB)) (hxn : ¬ (gn ≤ bx ∧ bx < gn + 1 + nB)) (hM : MatF gn nB nB L w) (ha : a < nB) (hb : b < nB) :
    Calls Tryz.prog 74 #[.int .i64 a, .int .i64 b, .pointer (some ⟨bx, 0, none⟩)] w fun e w' => e = .returned (.tuple #[]) ∧ MatF gn nB nB (joinL nB L a b) w' ∧ Apart gn (gn + 1 + nB) w w' := by
  have y0 : (0 : Int) ≤ (a : Int) := by omega
  have y1 : (a : Int) < (nB : Int) := by omega
  have y2 : (0 : Int) ≤ (b : Int) := by omega
  have y3 : (b : Int) < (nB : Int) := by omega
  have y4 : (nB : Int) ≤ 12 := by omega
  by_cases hab : a = b
  · subst hab
    go_enter Tryz.func74, Tryz.ntmps74
    go_wp2
    go_end0
    exact ⟨rfl, by unfold joinL; rw [if_pos rfl]; exact hM, Apart.refl _ _ _⟩
  have y5 : ¬ (a : Int) = (b : Int) := by omega
  have m1 := hM.top a ha
  have c1 := hM.cell ha hb
  have f1 := (hM.row a ha).frozen b
  obtain ⟨W1, hW1⟩ : ∃ W1, W1 = w.setCell ⟨gn + 1 + a, b, none⟩ (.bool true) := ⟨_, rfl⟩
  have hM1 : MatF gn nB nB (L.set (a * nB + b) true) W1 := by rw [hW1]; exact hM.set ha hb
  have hx1 : W1.cell? ⟨bx, 0, none⟩ = some (.slice (some ⟨gn, 0, none⟩) nB nB) := by rw [hW1]; exact cell_other hx (by show bx ≠ gn + 1 + a; omega)
  have m2 := hM1.top b hb
  have c2 := hM1.cell hb ha
  have f2 := (hM1.row b hb).frozen a
  have HM1 : Hid (MatF gn nB nB (L.set (a * nB + b) true) W1) := hM1
  have HA1 : Hid (Apart gn (gn + 1 + nB) w W1) := by
    have : Apart gn (gn + 1 + nB) w (w.setCell ⟨gn + 1 + a, b, none⟩ (.bool true)) := (Apart.refl _ _ _).set (by show gn ≤ gn + 1 + a; omega) (by show gn + 1 + a < gn + 1 + nB; omega) _
    rw [← hW1] at this
    exact this
  have HW1 : Hid (w.setCell ⟨gn + 1 + a, b, none⟩ (.bool true) = W1) := hW1.symm
  clear hM hM1 hW1
  go_enter Tryz.func74, Tryz.ntmps74
  go_upto_region 2 with (fail)
  rw [HW1.out]
  go_wp2
  go_end0
  refine ⟨rfl, ?_, ?_⟩
  · unfold joinL
    rw [if_neg hab]
    exact HM1.out.set hb ha
  · exact HA1.out.set (by show gn ≤ gn + 1 + b; omega) (by show gn + 1 + b < gn + 1 + nB; omega) _
end form
end Go.Proofs.YtikhedkhgpjaaacGreatDoor
