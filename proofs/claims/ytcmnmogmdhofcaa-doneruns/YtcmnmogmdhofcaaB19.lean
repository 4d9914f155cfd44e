/- A search along the ways of a program, on plain numbers: what it has come to, and what it has done with. -/
import Derived.Test.YtcmnmogmdhofcaaB09
import Derived.Test.YtcmnmogmdhofcaaB02

namespace Go.Proofs.Ytcmnmogmdhofcaa.form
open Go.RowKit
set_option linter.unusedVariables false

structure Srch (C : List LIns) (t : Int) (s : Nat) (come : List Bool) (way : List Nat) (k : Nat) : Prop where
  clen : come.length = C.length
  mark : ∀ x, x < C.length → (come.getD x false = true ↔ x ∈ way)
  inb : ∀ x, x ∈ way → x < C.length
  cnt : way.length = come.count true
  st : s ∈ way
  back : ∀ x, x ∈ way → Need C t x → Need C t s
  done : ∀ j, j < k → takesI (C.getD (way.getD j 0) .zero) t = false ∧ (givesT (C.getD (way.getD j 0) .zero) t = true ∨ ∀ y, y ∈ nextsN (C.getD (way.getD j 0) .zero) (way.getD j 0) → y < C.length → y ∈ way)

theorem Srch.len {C : List LIns} {t : Int} {s : Nat} {come : List Bool} {way : List Nat} {k : Nat} (h : Srch C t s come way k) : way.length ≤ C.length := by
  rw [h.cnt, ← h.clen]; exact List.count_le_length

theorem count_mark (l : List Bool) (y : Nat) (hy : y < l.length) (h : l.getD y false = false) : (l.set y true).count true = l.count true + 1 := by
  have e : l[y] = false := by simpa [List.getD, hy] using h
  rw [List.count_set hy]
  simp [e]

theorem srch_start (C : List LIns) (t : Int) (s : Nat) (hs : s < C.length) : Srch C t s ((List.replicate C.length false).set s true) [s] 0 := by
  refine ⟨by simp, fun x hx => ?_, fun x hx => ?_, ?_, by simp, fun x hx h => ?_, fun j hj => absurd hj (by omega)⟩
  · by_cases e : s = x
    · subst e; simp [List.getD, hx]
    · have : ¬ x = s := fun h => e h.symm
      simp [List.getD, hx, e, this]
  · simp at hx; omega
  · rw [count_mark _ _ (by simpa using hs) (by simp [List.getD, hs])]
    simp [List.count_replicate]
  · simp at hx; subst hx; exact h

theorem getD_append_left {l r : List Nat} {j : Nat} (h : j < l.length) : (l ++ r).getD j 0 = l.getD j 0 := by simp [List.getD, List.getElem?_append_left h]

/-- One more is come to. -/
theorem Srch.push {C : List LIns} {t : Int} {s : Nat} {come : List Bool} {way : List Nat} {k x y : Nat} (h : Srch C t s come way k) (hk : k ≤ way.length) (hx : x ∈ way) (hg : givesT (C.getD x .zero) t = false) (hy : y ∈ nextsN (C.getD x .zero) x) (hyl : y < C.length) (hc : come.getD y false = false) :
    Srch C t s (come.set y true) (way ++ [y]) k := by
  have hyc : y < come.length := by rw [h.clen]; exact hyl
  refine ⟨by simp [h.clen], fun z hz => ?_, fun z hz => ?_, ?_, by simp [h.st], fun z hz hn => ?_, fun j hj => ?_⟩
  · by_cases e : y = z
    · subst e; simp [List.getD, hyc]
    · have e' : ¬ z = y := fun h => e h.symm
      have := h.mark z hz
      have e3 : (come.set y true).getD z false = come.getD z false := by simp [List.getD, e]
      rw [e3, this]
      simp [e']
  · rcases List.mem_append.1 hz with hz | hz
    · exact h.inb z hz
    · simp at hz; omega
  · rw [count_mark _ _ hyc hc, ← h.cnt]; simp
  · rcases List.mem_append.1 hz with hz | hz
    · exact h.back z hz hn
    · simp at hz
      subst hz
      exact h.back x hx ((need_iff C t x).2 ⟨h.inb x hx, Or.inr ⟨hg, _, hy, hn⟩⟩)
  · rw [getD_append_left (by omega)]
    obtain ⟨h1, h2⟩ := h.done j hj
    exact ⟨h1, h2.imp id (fun h3 y hy hyl => List.mem_append.2 (Or.inl (h3 y hy hyl)))⟩

/-- An instruction is done with. -/
theorem Srch.next {C : List LIns} {t : Int} {s : Nat} {come : List Bool} {way : List Nat} {k : Nat} (h : Srch C t s come way k) (ht : takesI (C.getD (way.getD k 0) .zero) t = false)
    (hg : givesT (C.getD (way.getD k 0) .zero) t = true ∨ ∀ y, y ∈ nextsN (C.getD (way.getD k 0) .zero) (way.getD k 0) → y < C.length → y ∈ way) : Srch C t s come way (k + 1) := by
  refine ⟨h.clen, h.mark, h.inb, h.cnt, h.st, h.back, fun j hj => ?_⟩
  by_cases e : j = k
  · subst e; exact ⟨ht, hg⟩
  · exact h.done j (by omega)

/-- It has found one. -/
theorem Srch.found {C : List LIns} {t : Int} {s : Nat} {come : List Bool} {way : List Nat} {k : Nat} (h : Srch C t s come way k) (hk : k < way.length) (ht : takesI (C.getD (way.getD k 0) .zero) t = true) : Need C t s := by
  have hm : way.getD k 0 ∈ way := by simp [List.getD, hk]
  exact h.back _ hm ((need_iff C t _).2 ⟨h.inb _ hm, Or.inl ht⟩)

/-- It has found none. -/
theorem Srch.none {C : List LIns} {t : Int} {s : Nat} {come : List Bool} {way : List Nat} {k : Nat} (h : Srch C t s come way k) (hk : way.length ≤ k) : ¬ Need C t s := by
  refine need_none C t (fun x => x ∈ way) (fun x hx => ?_) s h.st
  obtain ⟨j, hj, rfl⟩ := List.getElem_of_mem hx
  have := h.done j (by omega)
  rwa [show way.getD j 0 = way[j] by simp [List.getD, hj]] at this

end Go.Proofs.Ytcmnmogmdhofcaa.form

/- Where an instruction goes on (loanbookref2.Nexts). -/
namespace Go.Proofs.Ytcmnmogmdhofcaa.form
open Go.RowKit
set_option linter.unusedVariables false
attribute [local go_sem ↓] Go.wp_at_zero Go.wp_at_succ

/-- A row of numbers in new memory. -/
def IntsAt (lo : Nat) (w : World) (v : Value) (l : List Int) : Prop :=
  ∃ ao cap, v = .slice ao l.length cap ∧ (0 < l.length → ∃ b, ao = some ⟨b, 0, none⟩ ∧ lo ≤ b ∧ b < w.heap.size ∧ ∀ j, j < l.length → w.cell? ⟨b, j, none⟩ = some (.int .i64 (l.getD j 0)))

theorem ints_one {lo : Nat} {w : World} {b : Nat} {x : Int} {cap : Nat} (hlo : lo ≤ b) (h : w.cell? ⟨b, 0, none⟩ = some (.int .i64 x)) : IntsAt lo w (.slice (some ⟨b, 0, none⟩) 1 cap) [x] :=
  ⟨_, _, rfl, fun _ => ⟨b, rfl, hlo, World.block_lt_of_cell? w _ h, fun j hj => by
    obtain rfl : j = 0 := by simp at hj; omega
    simpa using h⟩⟩
theorem ints_two {lo : Nat} {w : World} {b : Nat} {x y : Int} {cap : Nat} (hlo : lo ≤ b) (h : w.cell? ⟨b, 0, none⟩ = some (.int .i64 x)) (g : w.cell? ⟨b, 1, none⟩ = some (.int .i64 y)) : IntsAt lo w (.slice (some ⟨b, 0, none⟩) 2 cap) [x, y] :=
  ⟨_, _, rfl, fun _ => ⟨b, rfl, hlo, World.block_lt_of_cell? w _ h, fun j hj => by
    rcases (show j = 0 ∨ j = 1 by simp at hj; omega) with rfl | rfl
    · simpa using h
    · simpa using g⟩⟩

theorem nexts2 (i : LIns) (pc : Nat) (hpc : pc ≤ 40) (w : World) :
    Calls Try.prog 92 #[i.val, .int .i64 pc] w fun e w' => (∃ v, e = .returned v ∧ IntsAt w.heap.size w' v (nextsI i pc)) ∧ Below w.heap.size w w' := by
  unfold LIns.val
  have y1 : (pc : Int) ≤ 40 := by omega
  have y0 : (0 : Int) ≤ (pc : Int) := by omega
  have HB2 : Hid (∀ o1 o2 : Obj, Below w.heap.size w ((w.alloc o1).alloc o2)) := fun o1 o2 => ((Below.refl _ _).alloc (Nat.le_refl _) _).alloc (by simp) _
  go_enter Try.func92, Try.ntmps92
  go_wp2
  all_goals go_ret
  · refine ⟨⟨.slice (some ⟨w.heap.size + 1, 0, none⟩) 1 1, rfl, ?_⟩, HB2.out _ _⟩
    rw [show nextsI i pc = [i.c] by unfold nextsI; simp_all]
    exact ints_one (by omega) (by simp [go_sem])
  · refine ⟨⟨.slice none 0 0, rfl, ?_⟩, (Below.refl _ _).alloc (Nat.le_refl _) _⟩
    rw [show nextsI i pc = [] by unfold nextsI; simp_all]
    exact ⟨none, 0, rfl, fun hh => absurd hh (by simp)⟩
  · refine ⟨⟨.slice (some ⟨w.heap.size + 1, 0, none⟩) 2 2, rfl, ?_⟩, HB2.out _ _⟩
    rw [show nextsI i pc = [(pc : Int) + 1, i.c] by unfold nextsI; simp_all]
    exact ints_two (by omega) (by simp [go_sem]) (by simp [go_sem])
  · refine ⟨⟨.slice (some ⟨w.heap.size + 1, 0, none⟩) 1 1, rfl, ?_⟩, HB2.out _ _⟩
    rw [show nextsI i pc = [(pc : Int) + 1] by unfold nextsI; simp_all]
    exact ints_one (by omega) (by simp [go_sem])

theorem takes_of (i : LIns) (m : Nat) (hm : manyI i.op = m) (hm2 : m ≤ 2) (t : Int) : takesI i t = (decide (0 < m) && (i.a == t) || decide (1 < m) && (i.b == t)) := by
  unfold takesI usesI
  rw [hm]
  rcases (show m = 0 ∨ m = 1 ∨ m = 2 by omega) with rfl | rfl | rfl
  · simp
  · rw [Bool.eq_iff_iff]; simp; omega
  · rw [Bool.eq_iff_iff]; simp; omega

end Go.Proofs.Ytcmnmogmdhofcaa.form

/- What is needed, found by adding from nothing: the truths of all instructions in one row, on plain numbers and in memory. -/
namespace Go.Proofs.Ytcmnmogmdhofcaa.form
open Go.RowKit
set_option linter.unusedVariables false

/-- The truth of an instruction and a temporary. -/
def getF (nB : Nat) (L : List Bool) (k t : Nat) : Bool := L.getD (k * nB + t) false
def rowF (nB : Nat) (L : List Bool) (k : Nat) : List Bool := (List.range nB).map (getF nB L k)

theorem flat_inj {nB k t k' t' : Nat} (h : t < nB) (h' : t' < nB) (e : k * nB + t = k' * nB + t') : k = k' ∧ t = t' := by
  have h1 : (k * nB + t) / nB = k := by rw [Nat.mul_comm, Nat.mul_add_div (by omega), Nat.div_eq_of_lt h]; omega
  have h2 : (k' * nB + t') / nB = k' := by rw [Nat.mul_comm, Nat.mul_add_div (by omega), Nat.div_eq_of_lt h']; omega
  rw [e, h2] at h1
  subst h1
  exact ⟨rfl, by omega⟩
theorem flat_lt {nB nC k t : Nat} (hk : k < nC) (ht : t < nB) : k * nB + t < nC * nB := by
  have : (k + 1) * nB ≤ nC * nB := Nat.mul_le_mul_right _ hk
  rw [Nat.succ_mul] at this
  omega
theorem getF_set {nB nC k t k' t' : Nat} {L : List Bool} (hL : L.length = nC * nB) (hk : k < nC) (ht : t < nB) (ht' : t' < nB) :
    getF nB (L.set (k * nB + t) true) k' t' = if k' = k ∧ t' = t then true else getF nB L k' t' := by
  have hlt := flat_lt hk ht
  unfold getF
  by_cases e : k' = k ∧ t' = t
  · rw [if_pos e, e.1, e.2]
    simp [List.getD, hL, hlt]
  · rw [if_neg e]
    have : k * nB + t ≠ k' * nB + t' := fun h => e (by have := flat_inj ht ht' h; omega)
    simp [List.getD, this]

/-- What is needed, by the truths found till now. -/
def stepB (nB : Nat) (C : List LIns) (L : List Bool) (k t : Nat) : Bool :=
  takesI (C.getD k .zero) t || (!givesT (C.getD k .zero) t && (nextsN (C.getD k .zero) k).any fun x => decide (x < C.length) && getF nB L x t)

def Snd (nB : Nat) (C : List LIns) (L : List Bool) : Prop := ∀ k t, k < C.length → t < nB → getF nB L k t = true → Need C t k
def Cls (nB : Nat) (C : List LIns) (L : List Bool) : Prop := ∀ k t, k < C.length → t < nB → getF nB L k t = false → stepB nB C L k t = false

theorem step_need {nB : Nat} {C : List LIns} {L : List Bool} {k t : Nat} (h : Snd nB C L) (hk : k < C.length) (ht : t < nB) (hs : stepB nB C L k t = true) : Need C t k := by
  rw [need_iff]
  refine ⟨hk, ?_⟩
  unfold stepB at hs
  simp only [Bool.or_eq_true, Bool.and_eq_true, Bool.not_eq_true', List.any_eq_true, decide_eq_true_eq] at hs
  rcases hs with hs | ⟨hg, x, hx, hxl, hxt⟩
  · exact Or.inl hs
  · exact Or.inr ⟨hg, x, hx, h x t hxl ht hxt⟩

theorem snd_set {nB : Nat} {C : List LIns} {L : List Bool} {k t : Nat} (h : Snd nB C L) (hL : L.length = C.length * nB) (hk : k < C.length) (ht : t < nB) (hs : stepB nB C L k t = true) : Snd nB C (L.set (k * nB + t) true) := by
  intro k' t' hk' ht' hg
  rw [getF_set hL hk ht ht'] at hg
  by_cases e : k' = k ∧ t' = t
  · rw [e.1, e.2]; exact step_need h hk ht hs
  · rw [if_neg e] at hg; exact h k' t' hk' ht' hg

theorem getF_nothing (nB nC k t : Nat) : getF nB (List.replicate (nC * nB) false) k t = false := by
  unfold getF
  by_cases h : k * nB + t < nC * nB <;> simp [List.getD, h]
theorem snd_nothing (nB : Nat) (C : List LIns) : Snd nB C (List.replicate (C.length * nB) false) := by
  intro k t _ _ h
  rw [getF_nothing] at h
  exact absurd h (by simp)

theorem flat_need {nB : Nat} {C : List LIns} {L : List Bool} (hS : Snd nB C L) (hC : Cls nB C L) {k t : Nat} (hk : k < C.length) (ht : t < nB) : getF nB L k t = true ↔ Need C t k := by
  refine ⟨hS k t hk ht, fun hn => ?_⟩
  refine (need_least C t (fun k => k < C.length ∧ getF nB L k t = true) (fun j hj hor => ⟨hj, ?_⟩) k hn).2
  cases hg : getF nB L j t with
  | true => rfl
  | false =>
    have := hC j t hj ht hg
    unfold stepB at this
    simp only [Bool.or_eq_false_iff, Bool.and_eq_false_iff, Bool.not_eq_false'] at this
    rcases hor with hor | ⟨h1, x, hx, hxl, hxt⟩
    · rw [hor] at this; exact absurd this.1 (by simp)
    · rcases this.2 with h2 | h2
      · rw [h1] at h2; exact absurd h2 (by simp)
      · have := List.any_eq_false.1 h2 x hx
        simp [hxl, hxt] at this

theorem len_rowF (nB : Nat) (L : List Bool) (k : Nat) : (rowF nB L k).length = nB := by simp [rowF]
theorem getD_rowF {nB : Nat} {L : List Bool} {k t : Nat} (ht : t < nB) : (rowF nB L k).getD t false = getF nB L k t := by simp [rowF, List.getD, ht]
theorem rowF_set {nB nC k t k' : Nat} {L : List Bool} (hL : L.length = nC * nB) (hk : k < nC) (ht : t < nB) : rowF nB (L.set (k * nB + t) true) k' = if k' = k then (rowF nB L k').set t true else rowF nB L k' := by
  by_cases e : k' = k
  · rw [if_pos e]
    subst e
    apply List.ext_getElem (by simp [rowF])
    intro q h1 h2
    have hq : q < nB := by simpa [rowF] using h1
    simp only [rowF, List.getElem_map, List.getElem_range, List.getElem_set]
    rw [getF_set hL hk ht hq]
    by_cases e2 : q = t
    · simp [e2]
    · rw [if_neg (by omega), if_neg (by omega)]
  · rw [if_neg e]
    unfold rowF
    apply List.map_congr_left
    intro q hq
    rw [getF_set hL hk ht (by simpa using hq), if_neg (by omega)]

/-- The rows in memory, one block behind the other. -/
structure MatF (g nB nC : Nat) (L : List Bool) (w : World) : Prop where
  len : L.length = nC * nB
  top : ∀ k, k < nC → w.cell? ⟨g, k, none⟩ = some (.slice (some ⟨g + 1 + k, 0, none⟩) nB nB)
  row : ∀ k, k < nC → Row w (g + 1 + k) 4 ((rowF nB L k).map Value.bool)

theorem MatF.cell {g nB nC : Nat} {L : List Bool} {w : World} (h : MatF g nB nC L w) {k t : Nat} (hk : k < nC) (ht : t < nB) : w.cell? ⟨g + 1 + k, t, none⟩ = some (.bool (getF nB L k t)) := by
  rw [(h.row k hk).cell]
  simp [rowF, ht]
theorem MatF.below {g nB nC : Nat} {L : List Bool} {w w' : World} (h : MatF g nB nC L w) (hb : Below w.heap.size w w') : MatF g nB nC L w' :=
  ⟨h.len, fun k hk => step_cell hb (h.top k hk), fun k hk => (h.row k hk).below hb⟩
theorem MatF.set {g nB nC : Nat} {L : List Bool} {w : World} (h : MatF g nB nC L w) {k t : Nat} (hk : k < nC) (ht : t < nB) : MatF g nB nC (L.set (k * nB + t) true) (w.setCell ⟨g + 1 + k, t, none⟩ (.bool true)) := by
  refine ⟨by simp [h.len], fun j hj => cell_other (h.top j hj) (by show g ≠ g + 1 + k; omega), fun j hj => ?_⟩
  rw [rowF_set h.len hk ht]
  by_cases e : j = k
  · subst e
    rw [if_pos rfl]
    have := (h.row j hj).set t (.bool true)
    simpa [List.map_set] using this
  · rw [if_neg e]
    exact (h.row j hj).other (by simp; omega) _

theorem MatF.mat {g nB nC : Nat} {L : List Bool} {w : World} (h : MatF g nB nC L w) (h1 : 1 ≤ nC) (h2 : nC ≤ 40) (h3 : nB ≤ 12) {cap : Nat} : MatIs w (.slice (some ⟨g, 0, none⟩) nC cap) ((List.range nC).map (rowF nB L)) := by
  refine ⟨some ⟨g, 0, none⟩, cap, by simp, by simp; omega, fun _ => ⟨g, 0, rfl, World.block_lt_of_cell? w _ (h.top 0 (by omega)), fun k hk => ?_⟩⟩
  have hk' : k < nC := by simpa using hk
  refine ⟨_, by rw [Nat.zero_add]; exact h.top k hk', ?_⟩
  have e : ((List.range nC).map (rowF nB L)).getD k [] = rowF nB L k := by simp [List.getD, hk']
  rw [e]
  refine ⟨some ⟨g + 1 + k, 0, none⟩, nB, by rw [len_rowF], by rw [len_rowF]; omega, fun _ => ⟨g + 1 + k, 0, rfl, (h.row k hk').lt, fun j hj => ?_⟩⟩
  rw [len_rowF] at hj
  rw [Nat.zero_add, h.cell hk' hj, getD_rowF hj]

theorem needF {nB : Nat} {C : List LIns} {L : List Bool} (hS : Snd nB C L) (hC : Cls nB C L) : NeedMat nB C ((List.range C.length).map (rowF nB L)) := by
  have e : ∀ k, k < C.length → ((List.range C.length).map (rowF nB L)).getD k [] = rowF nB L k := fun k hk => by simp [List.getD, hk]
  refine ⟨by simp, fun k hk => by rw [e k hk, len_rowF], fun k hk t ht => ?_⟩
  rw [e k hk, getD_rowF ht]
  exact flat_need hS hC hk ht

end Go.Proofs.Ytcmnmogmdhofcaa.form
