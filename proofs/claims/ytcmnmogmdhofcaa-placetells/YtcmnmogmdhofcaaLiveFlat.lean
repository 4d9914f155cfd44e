/- What is needed, found by adding from nothing: the truths of all instructions in one row, on plain numbers and in memory. -/
import Derived.Test.YtcmnmogmdhofcaaLiveNexts
import Derived.Test.YtcmnmogmdhofcaaRunPlain
namespace Go.Proofs.Ytcmnmogmdhofcaa.form
open Go.RowKit
set_option linter.unusedVariables false

/-- The truth of an instruction and a temporary. -/
def getF (nB : Nat) (L : List Bool) (k t : Nat) : Bool := L.getD (k * nB + t) false
def rowF (nB : Nat) (L : List Bool) (k : Nat) : List Bool := (List.range nB).map (getF nB L k)

theorem flat_inj {nB k t k' t' : Nat} (h : t < nB) (h' : t' < nB) (e : k * nB + t = k' * nB + t') : k = k' ∧ t = t' := by
  have h1 : (k * nB + t) / nB = k := by rw [Nat.mul_comm, Nat.mul_add_div (by omega), Nat.div_eq_of_lt h]; omega
  have h2 : (k' * nB + t') / nB = k' := by rw [Nat.mul_comm, Nat.mul_add_div (by omega), Nat.div_eq_of_lt h']; omega
  rw [e, h2] at h1
  subst h1
  exact ⟨rfl, by omega⟩
theorem flat_lt {nB nC k t : Nat} (hk : k < nC) (ht : t < nB) : k * nB + t < nC * nB := by
  have : (k + 1) * nB ≤ nC * nB := Nat.mul_le_mul_right _ hk
  rw [Nat.succ_mul] at this
  omega
theorem getF_set {nB nC k t k' t' : Nat} {L : List Bool} (hL : L.length = nC * nB) (hk : k < nC) (ht : t < nB) (ht' : t' < nB) :
    getF nB (L.set (k * nB + t) true) k' t' = if k' = k ∧ t' = t then true else getF nB L k' t' := by
  have hlt := flat_lt hk ht
  unfold getF
  by_cases e : k' = k ∧ t' = t
  · rw [if_pos e, e.1, e.2]
    simp [List.getD, hL, hlt]
  · rw [if_neg e]
    have : k * nB + t ≠ k' * nB + t' := fun h => e (by have := flat_inj ht ht' h; omega)
    simp [List.getD, this]

/-- What is needed, by the truths found till now. -/
def stepB (nB : Nat) (C : List LIns) (L : List Bool) (k t : Nat) : Bool :=
  takesI (C.getD k .zero) t || (!givesT (C.getD k .zero) t && (nextsN (C.getD k .zero) k).any fun x => decide (x < C.length) && getF nB L x t)

def Snd (nB : Nat) (C : List LIns) (L : List Bool) : Prop := ∀ k t, k < C.length → t < nB → getF nB L k t = true → Need C t k
def Cls (nB : Nat) (C : List LIns) (L : List Bool) : Prop := ∀ k t, k < C.length → t < nB → getF nB L k t = false → stepB nB C L k t = false

theorem step_need {nB : Nat} {C : List LIns} {L : List Bool} {k t : Nat} (h : Snd nB C L) (hk : k < C.length) (ht : t < nB) (hs : stepB nB C L k t = true) : Need C t k := by
  rw [need_iff]
  refine ⟨hk, ?_⟩
  unfold stepB at hs
  simp only [Bool.or_eq_true, Bool.and_eq_true, Bool.not_eq_true', List.any_eq_true, decide_eq_true_eq] at hs
  rcases hs with hs | ⟨hg, x, hx, hxl, hxt⟩
  · exact Or.inl hs
  · exact Or.inr ⟨hg, x, hx, h x t hxl ht hxt⟩

theorem snd_set {nB : Nat} {C : List LIns} {L : List Bool} {k t : Nat} (h : Snd nB C L) (hL : L.length = C.length * nB) (hk : k < C.length) (ht : t < nB) (hs : stepB nB C L k t = true) : Snd nB C (L.set (k * nB + t) true) := by
  intro k' t' hk' ht' hg
  rw [getF_set hL hk ht ht'] at hg
  by_cases e : k' = k ∧ t' = t
  · rw [e.1, e.2]; exact step_need h hk ht hs
  · rw [if_neg e] at hg; exact h k' t' hk' ht' hg

theorem getF_nothing (nB nC k t : Nat) : getF nB (List.replicate (nC * nB) false) k t = false := by
  unfold getF
  by_cases h : k * nB + t < nC * nB <;> simp [List.getD, h]
theorem snd_nothing (nB : Nat) (C : List LIns) : Snd nB C (List.replicate (C.length * nB) false) := by
  intro k t _ _ h
  rw [getF_nothing] at h
  exact absurd h (by simp)

theorem flat_need {nB : Nat} {C : List LIns} {L : List Bool} (hS : Snd nB C L) (hC : Cls nB C L) {k t : Nat} (hk : k < C.length) (ht : t < nB) : getF nB L k t = true ↔ Need C t k := by
  refine ⟨hS k t hk ht, fun hn => ?_⟩
  refine (need_least C t (fun k => k < C.length ∧ getF nB L k t = true) (fun j hj hor => ⟨hj, ?_⟩) k hn).2
  cases hg : getF nB L j t with
  | true => rfl
  | false =>
    have := hC j t hj ht hg
    unfold stepB at this
    simp only [Bool.or_eq_false_iff, Bool.and_eq_false_iff, Bool.not_eq_false'] at this
    rcases hor with hor | ⟨h1, x, hx, hxl, hxt⟩
    · rw [hor] at this; exact absurd this.1 (by simp)
    · rcases this.2 with h2 | h2
      · rw [h1] at h2; exact absurd h2 (by simp)
      · have := List.any_eq_false.1 h2 x hx
        simp [hxl, hxt] at this

theorem len_rowF (nB : Nat) (L : List Bool) (k : Nat) : (rowF nB L k).length = nB := by simp [rowF]
theorem getD_rowF {nB : Nat} {L : List Bool} {k t : Nat} (ht : t < nB) : (rowF nB L k).getD t false = getF nB L k t := by simp [rowF, List.getD, ht]
theorem rowF_set {nB nC k t k' : Nat} {L : List Bool} (hL : L.length = nC * nB) (hk : k < nC) (ht : t < nB) : rowF nB (L.set (k * nB + t) true) k' = if k' = k then (rowF nB L k').set t true else rowF nB L k' := by
  by_cases e : k' = k
  · rw [if_pos e]
    subst e
    apply List.ext_getElem (by simp [rowF])
    intro q h1 h2
    have hq : q < nB := by simpa [rowF] using h1
    simp only [rowF, List.getElem_map, List.getElem_range, List.getElem_set]
    rw [getF_set hL hk ht hq]
    by_cases e2 : q = t
    · simp [e2]
    · rw [if_neg (by omega), if_neg (by omega)]
  · rw [if_neg e]
    unfold rowF
    apply List.map_congr_left
    intro q hq
    rw [getF_set hL hk ht (by simpa using hq), if_neg (by omega)]

/-- The rows in memory, one block behind the other. -/
structure MatF (g nB nC : Nat) (L : List Bool) (w : World) : Prop where
  len : L.length = nC * nB
  top : ∀ k, k < nC → w.cell? ⟨g, k, none⟩ = some (.slice (some ⟨g + 1 + k, 0, none⟩) nB nB)
  row : ∀ k, k < nC → Row w (g + 1 + k) 4 ((rowF nB L k).map Value.bool)

theorem MatF.cell {g nB nC : Nat} {L : List Bool} {w : World} (h : MatF g nB nC L w) {k t : Nat} (hk : k < nC) (ht : t < nB) : w.cell? ⟨g + 1 + k, t, none⟩ = some (.bool (getF nB L k t)) := by
  rw [(h.row k hk).cell]
  simp [rowF, ht]
theorem MatF.below {g nB nC : Nat} {L : List Bool} {w w' : World} (h : MatF g nB nC L w) (hb : Below w.heap.size w w') : MatF g nB nC L w' :=
  ⟨h.len, fun k hk => step_cell hb (h.top k hk), fun k hk => (h.row k hk).below hb⟩
theorem MatF.set {g nB nC : Nat} {L : List Bool} {w : World} (h : MatF g nB nC L w) {k t : Nat} (hk : k < nC) (ht : t < nB) : MatF g nB nC (L.set (k * nB + t) true) (w.setCell ⟨g + 1 + k, t, none⟩ (.bool true)) := by
  refine ⟨by simp [h.len], fun j hj => cell_other (h.top j hj) (by show g ≠ g + 1 + k; omega), fun j hj => ?_⟩
  rw [rowF_set h.len hk ht]
  by_cases e : j = k
  · subst e
    rw [if_pos rfl]
    have := (h.row j hj).set t (.bool true)
    simpa [List.map_set] using this
  · rw [if_neg e]
    exact (h.row j hj).other (by simp; omega) _

theorem MatF.mat {g nB nC : Nat} {L : List Bool} {w : World} (h : MatF g nB nC L w) (h1 : 1 ≤ nC) (h2 : nC ≤ 40) (h3 : nB ≤ 12) {cap : Nat} : MatIs w (.slice (some ⟨g, 0, none⟩) nC cap) ((List.range nC).map (rowF nB L)) := by
  refine ⟨some ⟨g, 0, none⟩, cap, by simp, by simp; omega, fun _ => ⟨g, 0, rfl, World.block_lt_of_cell? w _ (h.top 0 (by omega)), fun k hk => ?_⟩⟩
  have hk' : k < nC := by simpa using hk
  refine ⟨_, by rw [Nat.zero_add]; exact h.top k hk', ?_⟩
  have e : ((List.range nC).map (rowF nB L)).getD k [] = rowF nB L k := by simp [List.getD, hk']
  rw [e]
  refine ⟨some ⟨g + 1 + k, 0, none⟩, nB, by rw [len_rowF], by rw [len_rowF]; omega, fun _ => ⟨g + 1 + k, 0, rfl, (h.row k hk').lt, fun j hj => ?_⟩⟩
  rw [len_rowF] at hj
  rw [Nat.zero_add, h.cell hk' hj, getD_rowF hj]

theorem needF {nB : Nat} {C : List LIns} {L : List Bool} (hS : Snd nB C L) (hC : Cls nB C L) : NeedMat nB C ((List.range C.length).map (rowF nB L)) := by
  have e : ∀ k, k < C.length → ((List.range C.length).map (rowF nB L)).getD k [] = rowF nB L k := fun k hk => by simp [List.getD, hk]
  refine ⟨by simp, fun k hk => by rw [e k hk, len_rowF], fun k hk t ht => ?_⟩
  rw [e k hk, getD_rowF ht]
  exact flat_need hS hC hk ht

end Go.Proofs.Ytcmnmogmdhofcaa.form
