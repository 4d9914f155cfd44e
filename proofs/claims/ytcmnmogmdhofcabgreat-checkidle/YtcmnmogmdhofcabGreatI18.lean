/- What is needed, found by adding from nothing: the truths of all instructions in one row, on plain numbers and in memory. -/
import Derived.BigQuiet
import Derived.Deep.QuietTactic
import Derived.Deep.OwnRows
import Derived.Deep.DeepCutAuto
import Derived.Test.YtcmnmogmdhofcabGreatI17
import Derived.Test.YtcmnmogmdhofcabGreatI06
import Derived.Test.YtcmnmogmdhofcabGreatI12

namespace Go.Proofs.YtcmnmogmdhofcabGreat.form
open Go.RowKit
set_option linter.unusedVariables false

def getF (nB : Nat) (L : List Bool) (k t : Nat) : Bool := L.getD (k * nB + t) false
def rowF (nB : Nat) (L : List Bool) (k : Nat) : List Bool := (List.range nB).map (getF nB L k)

theorem flat_inj {nB k t k' t' : Nat} (h : t < nB) (h' : t' < nB) (e : k * nB + t = k' * nB + t') : k = k' ∧ t = t' := by
  have h1 : (k * nB + t) / nB = k := by rw [Nat.mul_comm, Nat.mul_add_div (by omega), Nat.div_eq_of_lt h]; omega
  have h2 : (k' * nB + t') / nB = k' := by rw [Nat.mul_comm, Nat.mul_add_div (by omega), Nat.div_eq_of_lt h']; omega
  rw [e, h2] at h1
  subst h1
  exact ⟨rfl, by omega⟩
theorem flat_lt {nB nC k t : Nat} (hk : k < nC) (ht : t < nB) : k * nB + t < nC * nB := by
  have : (k + 1) * nB ≤ nC * nB := Nat.mul_le_mul_right _ hk
  rw [Nat.succ_mul] at this
  omega
theorem getF_set {nB nC k t k' t' : Nat} {L : List Bool} (hL : L.length = nC * nB) (hk : k < nC) (ht : t < nB) (ht' : t' < nB) :
    getF nB (L.set (k * nB + t) true) k' t' = if k' = k ∧ t' = t then true else getF nB L k' t' := by
  have hlt := flat_lt hk ht
  unfold getF
  by_cases e : k' = k ∧ t' = t
  · rw [if_pos e, e.1, e.2]
    simp [List.getD, hL, hlt]
  · rw [if_neg e]
    have : k * nB + t ≠ k' * nB + t' := fun h => e (by have := flat_inj ht ht' h; omega)
    simp [List.getD, this]

def stepB (nB : Nat) (C : List LIns) (L : List Bool) (k t : Nat) : Bool :=
  takesI (C.getD k .zero) t || (!givesT (C.getD k .zero) t && (nextsN (C.getD k .zero) k).any fun x => decide (x < C.length) && getF nB L x t)

def Snd (nB : Nat) (C : List LIns) (L : List Bool) : Prop := ∀ k t, k < C.length → t < nB → getF nB L k t = true → Need C t k
def Cls (nB : Nat) (C : List LIns) (L : List Bool) : Prop := ∀ k t, k < C.length → t < nB → getF nB L k t = false → stepB nB C L k t = false

theorem step_need {nB : Nat} {C : List LIns} {L : List Bool} {k t : Nat} (h : Snd nB C L) (hk : k < C.length) (ht : t < nB) (hs : stepB nB C L k t = true) : Need C t k := by
  rw [need_iff]
  refine ⟨hk, ?_⟩
  unfold stepB at hs
  simp only [Bool.or_eq_true, Bool.and_eq_true, Bool.not_eq_true', List.any_eq_true, decide_eq_true_eq] at hs
  rcases hs with hs | ⟨hg, x, hx, hxl, hxt⟩
  · exact Or.inl hs
  · exact Or.inr ⟨hg, x, hx, h x t hxl ht hxt⟩

theorem snd_set {nB : Nat} {C : List LIns} {L : List Bool} {k t : Nat} (h : Snd nB C L) (hL : L.length = C.length * nB) (hk : k < C.length) (ht : t < nB) (hs : stepB nB C L k t = true) : Snd nB C (L.set (k * nB + t) true) := by
  intro k' t' hk' ht' hg
  rw [getF_set hL hk ht ht'] at hg
  by_cases e : k' = k ∧ t' = t
  · rw [e.1, e.2]; exact step_need h hk ht hs
  · rw [if_neg e] at hg; exact h k' t' hk' ht' hg

theorem getF_nothing (nB nC k t : Nat) : getF nB (List.replicate (nC * nB) false) k t = false := by
  unfold getF
  by_cases h : k * nB + t < nC * nB <;> simp [List.getD, h]
theorem snd_nothing (nB : Nat) (C : List LIns) : Snd nB C (List.replicate (C.length * nB) false) := by
  intro k t _ _ h
  rw [getF_nothing] at h
  exact absurd h (by simp)

theorem flat_need {nB : Nat} {C : List LIns} {L : List Bool} (hS : Snd nB C L) (hC : Cls nB C L) {k t : Nat} (hk : k < C.length) (ht : t < nB) : getF nB L k t = true ↔ Need C t k := by
  refine ⟨hS k t hk ht, fun hn => ?_⟩
  refine (need_least C t (fun k => k < C.length ∧ getF nB L k t = true) (fun j hj hor => ⟨hj, ?_⟩) k hn).2
  cases hg : getF nB L j t with
  | true => rfl
  | false =>
    have := hC j t hj ht hg
    unfold stepB at this
    simp only [Bool.or_eq_false_iff, Bool.and_eq_false_iff, Bool.not_eq_false'] at this
    rcases hor with hor | ⟨h1, x, hx, hxl, hxt⟩
    · rw [hor] at this; exact absurd this.1 (by simp)
    · rcases this.2 with h2 | h2
      · rw [h1] at h2; exact absurd h2 (by simp)
      · have := List.any_eq_false.1 h2 x hx
        simp [hxl, hxt] at this

theorem len_rowF (nB : Nat) (L : List Bool) (k : Nat) : (rowF nB L k).length = nB := by simp [rowF]
theorem getD_rowF {nB : Nat} {L : List Bool} {k t : Nat} (ht : t < nB) : (rowF nB L k).getD t false = getF nB L k t := by simp [rowF, List.getD, ht]
theorem rowF_set {nB nC k t k' : Nat} {L : List Bool} (hL : L.length = nC * nB) (hk : k < nC) (ht : t < nB) : rowF nB (L.set (k * nB + t) true) k' = if k' = k then (rowF nB L k').set t true else rowF nB L k' := by
  by_cases e : k' = k
  · rw [if_pos e]
    subst e
    apply List.ext_getElem (by simp [rowF])
    intro q h1 h2
    have hq : q < nB := by simpa [rowF] using h1
    simp only [rowF, List.getElem_map, List.getElem_range, List.getElem_set]
    rw [getF_set hL hk ht hq]
    by_cases e2 : q = t
    · simp [e2]
    · rw [if_neg (by omega), if_neg (by omega)]
  · rw [if_neg e]
    unfold rowF
    apply List.map_congr_left
    intro q hq
    rw [getF_set hL hk ht (by simpa using hq), if_neg (by omega)]

structure MatF (g nB nC : Nat) (L : List Bool) (w : World) : Prop where
  len : L.length = nC * nB
  top : ∀ k, k < nC → w.cell? ⟨g, k, none⟩ = some (.slice (some ⟨g + 1 + k, 0, none⟩) nB nB)
  row : ∀ k, k < nC → Row w (g + 1 + k) 4 ((rowF nB L k).map Value.bool)

theorem MatF.cell {g nB nC : Nat} {L : List Bool} {w : World} (h : MatF g nB nC L w) {k t : Nat} (hk : k < nC) (ht : t < nB) : w.cell? ⟨g + 1 + k, t, none⟩ = some (.bool (getF nB L k t)) := by
  rw [(h.row k hk).cell]
  simp [rowF, ht]
theorem MatF.below {g nB nC : Nat} {L : List Bool} {w w' : World} (h : MatF g nB nC L w) (hb : Below w.heap.size w w') : MatF g nB nC L w' :=
  ⟨h.len, fun k hk => step_cell hb (h.top k hk), fun k hk => (h.row k hk).below hb⟩
theorem MatF.set {g nB nC : Nat} {L : List Bool} {w : World} (h : MatF g nB nC L w) {k t : Nat} (hk : k < nC) (ht : t < nB) : MatF g nB nC (L.set (k * nB + t) true) (w.setCell ⟨g + 1 + k, t, none⟩ (.bool true)) := by
  refine ⟨by simp [h.len], fun j hj => cell_other (h.top j hj) (by show g ≠ g + 1 + k; omega), fun j hj => ?_⟩
  rw [rowF_set h.len hk ht]
  by_cases e : j = k
  · subst e
    rw [if_pos rfl]
    have := (h.row j hj).set t (.bool true)
    simpa [List.map_set] using this
  · rw [if_neg e]
    exact (h.row j hj).other (by simp; omega) _

theorem MatF.mat {g nB nC : Nat} {L : List Bool} {w : World} (h : MatF g nB nC L w) (h1 : 1 ≤ nC) (h2 : nC ≤ 40) (h3 : nB ≤ 12) {cap : Nat} : MatIs w (.slice (some ⟨g, 0, none⟩) nC cap) ((List.range nC).map (rowF nB L)) := by
  refine ⟨some ⟨g, 0, none⟩, cap, by simp, by simp; omega, fun _ => ⟨g, 0, rfl, World.block_lt_of_cell? w _ (h.top 0 (by omega)), fun k hk => ?_⟩⟩
  have hk' : k < nC := by simpa using hk
  refine ⟨_, by rw [Nat.zero_add]; exact h.top k hk', ?_⟩
  have e : ((List.range nC).map (rowF nB L)).getD k [] = rowF nB L k := by simp [List.getD, hk']
  rw [e]
  refine ⟨some ⟨g + 1 + k, 0, none⟩, nB, by rw [len_rowF], by rw [len_rowF]; omega, fun _ => ⟨g + 1 + k, 0, rfl, (h.row k hk').lt, fun j hj => ?_⟩⟩
  rw [len_rowF] at hj
  rw [Nat.zero_add, h.cell hk' hj, getD_rowF hj]

end Go.Proofs.YtcmnmogmdhofcabGreat.form

/- What layout's functions on an instruction's fields and ways answer (layout.isTemp, Has, leads). -/
namespace Go.Proofs.YtcmnmogmdhofcabGreat.form
open Go.RowKit
set_option linter.unusedVariables false
attribute [local go_sem ↓] Go.wp_at_zero Go.wp_at_succ

def isT (k : Int) : Bool := k == 1 || k == 2 || k == 3

theorem isTemp (k : Int) (w : World) :
    Calls Tryz.prog 76 #[.int .i64 k] w fun e w' => e = .returned (.bool (isT k)) ∧ w' = w := by
  go_enter Tryz.func76, Tryz.ntmps76
  go_wp2
  all_goals
    go_ret
    exact ⟨ret_bool (by simp_all [isT]), rfl⟩

theorem isT_gives {op : Int} (h : knownB op = true) : isT (kd op 0) = givesB op := by
  unfold knownB at h
  simp at h
  unfold kd isT givesB
  rcases h with (h | h) | h
  · rcases (show op = 1 ∨ op = 2 ∨ op = 3 ∨ op = 4 ∨ op = 5 ∨ op = 6 ∨ op = 7 ∨ op = 8 ∨ op = 9 ∨ op = 10 by omega) with rfl | rfl | rfl | rfl | rfl | rfl | rfl | rfl | rfl | rfl <;> simp
  · rcases (show op = 21 ∨ op = 22 ∨ op = 23 ∨ op = 24 ∨ op = 25 ∨ op = 26 by omega) with rfl | rfl | rfl | rfl | rfl | rfl <;> simp
  · rcases (show op = 41 ∨ op = 42 ∨ op = 43 ∨ op = 44 ∨ op = 45 by omega) with rfl | rfl | rfl | rfl | rfl <;> simp
theorem isT_many {op : Int} (h : knownB op = true) : isT (kd op 1) = decide (0 < manyI op) ∧ isT (kd op 2) = decide (1 < manyI op) := by
  unfold knownB at h
  simp at h
  unfold kd isT manyI
  rcases h with (h | h) | h
  · rcases (show op = 1 ∨ op = 2 ∨ op = 3 ∨ op = 4 ∨ op = 5 ∨ op = 6 ∨ op = 7 ∨ op = 8 ∨ op = 9 ∨ op = 10 by omega) with rfl | rfl | rfl | rfl | rfl | rfl | rfl | rfl | rfl | rfl <;> simp
  · rcases (show op = 21 ∨ op = 22 ∨ op = 23 ∨ op = 24 ∨ op = 25 ∨ op = 26 by omega) with rfl | rfl | rfl | rfl | rfl | rfl <;> simp
  · rcases (show op = 41 ∨ op = 42 ∨ op = 43 ∨ op = 44 ∨ op = 45 by omega) with rfl | rfl | rfl | rfl | rfl <;> simp
theorem isT_takes {i : LIns} (h : knownB i.op = true) (t : Int) : takesI i t = (isT (kd i.op 1) && (i.a == t) || isT (kd i.op 2) && (i.b == t)) := by
  obtain ⟨m, hm, hm2⟩ : ∃ m : Nat, manyI i.op = m ∧ m ≤ 2 := by
    rcases many_of i.op with h | h | h
    · exact ⟨0, h, by omega⟩
    · exact ⟨1, h, by omega⟩
    · exact ⟨2, h, by omega⟩
  have hh := isT_many h
  rw [takes_of i m hm hm2 t, hh.1, hh.2, hm]
  rcases (show m = 0 ∨ m = 1 ∨ m = 2 by omega) with rfl | rfl | rfl <;> simp

set_option maxRecDepth 100000 in
theorem has (op : Int) (w : World) :
    Calls Tryz.prog 45 #[.int .i64 op] w fun e w' => e = .returned (.tuple #[.bool (isT (kd op 0)), .bool (isT (kd op 1)), .bool (isT (kd op 2))]) ∧ Below w.heap.size w w' := by
  go_enter Tryz.func45, Tryz.ntmps45
  go_wp2_with (go_at_call 75; refine (kindsOf _ _).mono ?_; rintro e w1 ⟨rfl, hb1⟩; unfold fiveV)
  go_quiet (first | (go_at_call_of 76 (Value.int .i64 (kd op 0)); exact Calls.quiet_of_same (isTemp _ _)) | (go_at_call_of 76 (Value.int .i64 (kd op 1)); exact Calls.quiet_of_same (isTemp _ _)) | (go_at_call_of 76 (Value.int .i64 (kd op 2)); exact Calls.quiet_of_same (isTemp _ _)))
  go_wp2
  refine bodyPost_ret (v := .tuple #[.bool (isT (kd op 0)), .bool (isT (kd op 1)), .bool (isT (kd op 2))]) ?_ rfl ⟨rfl, ?_⟩
  · simp [results, Tryz.results45, go_sem]
  · exact below_drewN (hb1.alloc hb1.size _) _

theorem leads (i : LIns) (pc : Nat) (hpc : pc ≤ 40) (w : World) :
    Calls Tryz.prog 104 #[i.val, .int .i64 pc] w fun e w' => (∃ v, e = .returned v ∧ IntsAt w.heap.size w' v (nextsI i pc)) ∧ Below w.heap.size w w' := by
  unfold LIns.val
  have y1 : (pc : Int) ≤ 40 := by omega
  have y0 : (0 : Int) ≤ (pc : Int) := by omega
  have HB2 : Hid (∀ o1 o2 : Obj, Below w.heap.size w ((w.alloc o1).alloc o2)) := fun o1 o2 => ((Below.refl _ _).alloc (Nat.le_refl _) _).alloc (by simp) _
  go_enter Tryz.func104, Tryz.ntmps104
  go_wp2
  all_goals go_ret
  · refine ⟨⟨.slice (some ⟨w.heap.size + 1, 0, none⟩) 1 1, rfl, ?_⟩, HB2.out _ _⟩
    rw [show nextsI i pc = [i.c] by unfold nextsI; simp_all]
    exact ints_one (by omega) (by simp [go_sem])
  · refine ⟨⟨.slice (some ⟨w.heap.size + 1, 0, none⟩) 2 2, rfl, ?_⟩, HB2.out _ _⟩
    rw [show nextsI i pc = [(pc : Int) + 1, i.c] by unfold nextsI; simp_all]
    exact ints_two (by omega) (by simp [go_sem]) (by simp [go_sem])
  · refine ⟨⟨.slice none 0 0, rfl, ?_⟩, (Below.refl _ _).alloc (Nat.le_refl _) _⟩
    rw [show nextsI i pc = [] by unfold nextsI; simp_all]
    exact ⟨none, 0, rfl, fun hh => absurd hh (by simp)⟩
  · refine ⟨⟨.slice (some ⟨w.heap.size + 1, 0, none⟩) 1 1, rfl, ?_⟩, HB2.out _ _⟩
    rw [show nextsI i pc = [(pc : Int) + 1] by unfold nextsI; simp_all]
    exact ints_one (by omega) (by simp [go_sem])

end Go.Proofs.YtcmnmogmdhofcabGreat.form

/- Small facts on rows of truths and numbers in memory. -/
namespace Go.Proofs.YtcmnmogmdhofcabGreat.form
open Go.RowKit
set_option linter.unusedVariables false

def natV (x : Nat) : Value := .int .i64 x

theorem infBool : (Tryz.prog.info? 4).map (fun i => (i.zero, i.size, i.bytes)) = some (some (.bool false), 1, 1) := by kernel_rfl
theorem infInt : (Tryz.prog.info? 3).map (fun i => (i.zero, i.size, i.bytes)) = some (some (.int .i64 0), 1, 8) := by kernel_rfl

theorem made_bool (n : Nat) : madeCells #[Value.bool false] n = ((List.replicate n false).map Value.bool).toArray := by
  apply Array.toList_inj.1
  rw [toList_madeCells_one]
  simp

end Go.Proofs.YtcmnmogmdhofcabGreat.form

/- With which instructions a program goes on behind one (layout.GoesOn): such of its ways as are there. -/
namespace Go.Proofs.YtcmnmogmdhofcabGreat.form
open Go.RowKit
set_option linter.unusedVariables false
attribute [local go_sem ↓] Go.wp_at_zero Go.wp_at_succ

def thereB (nC : Nat) (x : Int) : Bool := decide (0 ≤ x) && decide (x < nC)
def goesI (nC : Nat) (i : LIns) (pc : Nat) : List Int := (nextsI i pc).filter (thereB nC)
def intV (x : Int) : Value := .int .i64 x

structure GS (w : World) (b1 o1 c1 nC : Nat) (l : List Int) (v : Value) (wr : World) : Prop where
  bel : Below w.heap.size w wr
  p1 : wr.cell? ⟨w.heap.size, 1, none⟩ = some (.slice (some ⟨b1, o1, none⟩) nC c1)
  own : wr.ownsRow (w.heap.size + 1) 3 1 v l.length (l.map intV)

section
variable {w : World} {b1 o1 c1 nC : Nat} {l : List Int} {v : Value} {wr w1 : World}
theorem GS.below (h : GS w b1 o1 c1 nC l v wr) (hb : Below wr.heap.size wr w1) : GS w b1 o1 c1 nC l v w1 :=
  ⟨step_below hb h.bel, step_cell hb h.p1, World.ownsRow.kept h.own ⟨hb.os, hb.tape, hb.output, hb.size, fun j hj _ => hb.block j hj⟩ (row := none) (by cases v.ownBlock <;> simp)⟩
theorem GS.ownNe (h : GS w b1 o1 c1 nC l v wr) {b : Nat} (hb : b < w.heap.size + 1) : v.ownBlock ≠ some b := fun e => by have := (World.ownsRow.lt h.own _ e).1; omega
theorem GS.push (h : GS w b1 o1 c1 nC l v wr) {g cap : Nat} {y : Int} (hz : w.heap.size + 1 ≤ wr.heap.size)
    (hown : w1.ownsRow (w.heap.size + 1) 3 1 (.slice (some ⟨g, 0, none⟩) (l.length + 1) cap) (l.length + 1) (l.map intV ++ [.int .i64 y])) (hgrow : wr.grownBy w1 v.ownBlock) :
    GS w b1 o1 c1 nC (l ++ [y]) (.slice (some ⟨g, 0, none⟩) (l.length + 1) cap) w1 :=
  ⟨h.bel.grown hgrow (by omega) (fun j hj => by have := (World.ownsRow.lt h.own _ hj).1; omega), by rw [hgrow.cell_far _ (by dsimp only; omega) (Ne.symm (h.ownNe (by dsimp only; omega)))]; exact h.p1, by simpa [intV] using hown⟩
theorem GS.ints (h : GS w b1 o1 c1 nC l v wr) : IntsAt w.heap.size wr v l := by
  by_cases hn : 0 < l.length
  · obtain ⟨g, cap, rfl, hbg, hlt⟩ := h.own.form hn
    refine ⟨_, cap, rfl, fun _ => ⟨g, rfl, by omega, hlt, fun j hj => ?_⟩⟩
    rw [World.ownsRow.cellAt h.own j (by omega)]
    simp [List.getD, hj, intV]
  · have hl : l = [] := List.length_eq_zero_iff.1 (by omega)
    subst hl
    rcases h.own.2 with ⟨rfl, _⟩ | ⟨g, cap, cur, rfl, _⟩
    · exact ⟨none, 0, rfl, fun hh => absurd hh (by simp)⟩
    · exact ⟨_, cap, rfl, fun hh => absurd hh (by simp)⟩
end

theorem take_filter {N : List Int} {q : Int → Bool} {j : Nat} (hj : j < N.length) : (N.take (j + 1)).filter q = (N.take j).filter q ++ (if q (N.getD j 0) then [N.getD j 0] else []) := by
  have e : N.getD j 0 = N[j] := by simp [List.getD, hj]
  rw [List.take_succ_eq_append_getElem hj, List.filter_append, e]
  cases h : q N[j] <;> simp [h]

set_option maxRecDepth 100000 in
set_option maxHeartbeats 1000000 in
theorem goesOn (b0 o0 c0 b1 o1 c1 : Nat) (B : List Bool) (C : List LIns) (k : Nat) (w : World) (hC : C.length ≤ 40) (h : Held w b0 o0 b1 o1 B C) (hk : k < C.length) :
    Calls Tryz.prog 70 #[progV b0 o0 B.length c0 b1 o1 C.length c1, .int .i64 k] w fun e w' => (∃ v, e = .returned v ∧ IntsAt w.heap.size w' v (goesI C.length (C.getD k .zero) k)) ∧ Below w.heap.size w w' := by
  obtain ⟨d0, d1, d2, d3, d4, d5⟩ := h.code k hk
  obtain ⟨i, hi⟩ : ∃ i, i = C.getD k .zero := ⟨_, rfl⟩
  rw [← hi] at d0 d1 d2 d3 d4 d5 ⊢
  clear hi
  have hlt1 := h.lt1
  have y0 : (0 : Int) ≤ (k : Int) := by omega
  have y1 : (k : Int) < (C.length : Int) := by omega
  have y2 : (C.length : Int) ≤ 40 := by omega
  unfold progV
  go_enter Tryz.func70, Tryz.ntmps70
  go_wp2_with (first
    | (go_at_call 103; refine (isIn _ _ _).mono ?_; rintro e w' ⟨rfl, rfl⟩)
    | (go_at_call 104; refine (leads i k (by omega) _).mono ?_; rintro e w3 ⟨⟨nv, rfl, hnv⟩, hb3⟩; have HNV : Hid _ := hnv; obtain ⟨nao, ncap, rfl, -⟩ := hnv; have HB3 : Hid (Below (w.alloc (.cells #[.slice (some ⟨b0, o0, none⟩) B.length c0, .slice (some ⟨b1, o1, none⟩) C.length c1] 25)).heap.size (w.alloc (.cells #[.slice (some ⟨b0, o0, none⟩) B.length c0, .slice (some ⟨b1, o1, none⟩) C.length c1] 25)) w3) := hb3))
  have hnl : (nextsI i k).length ≤ 2 := nexts_len i k
  obtain ⟨N, hN⟩ : ∃ N, N = nextsI i k := ⟨_, rfl⟩
  rw [← hN] at hnl HNV ⊢
  have HN : Hid (nextsI i k = N) := hN.symm
  clear hN
  have z3 : (N.length : Int) ≤ 2 := by omega
  have HG0 : Hid (GS w b1 o1 c1 C.length [] (.slice none 0 0) w3) := ⟨over_alloc HB3.out, step_cell HB3.out (by simp [go_sem]), World.ownsRow_nil _ _ _ _⟩
  have HW3 : Hid (0 < N.length → ∃ gb, nao = some ⟨gb, 0, none⟩ ∧ w.heap.size + 1 ≤ gb ∧ gb < w3.heap.size ∧ ∀ q, q < N.length → w3.cell? ⟨gb, q, none⟩ = some (.int .i64 (N.getD q 0))) := by
    intro h0
    obtain ⟨_, _, he, hh⟩ := HNV.out
    simp at he
    obtain ⟨rfl, rfl⟩ := he
    obtain ⟨gb, e1, e2, e3, e4⟩ := hh h0
    simp at e2
    exact ⟨gb, e1, by omega, e3, e4⟩
  clear HNV HB3 hb3 d0 d1 d2 d3 d4 d5
  go_loopw [5, 22] (fun v jv wr => ∃ (j : Nat) (v0 : Value), v0 = v ∧ jv = .int .i64 j ∧ j ≤ N.length ∧ GS w b1 o1 c1 C.length ((N.take j).filter (thereB C.length)) v wr ∧
      (0 < N.length → ∃ gb, nao = some ⟨gb, 0, none⟩ ∧ w.heap.size + 1 ≤ gb ∧ gb < wr.heap.size ∧ v.ownBlock ≠ some gb ∧ ∀ q, q < N.length → wr.cell? ⟨gb, q, none⟩ = some (.int .i64 (N.getD q 0)))) (fun _ jv _ => N.length - (intOf jv).toNat)
  case atStart =>
    refine ⟨0, _, rfl, rfl, by omega, by simpa using HG0.out, fun h0 => ?_⟩
    obtain ⟨gb, e1, e2, e3, e4⟩ := HW3.out h0
    exact ⟨gb, e1, e2, e3, by simp [Value.ownBlock], e4⟩
  case round =>
    obtain ⟨j, v, rfl, rfl, hj, hgs, hnx⟩ := hrel
    obtain ⟨l, hl⟩ : ∃ l, l = (N.take j).filter (thereB C.length) := ⟨_, rfl⟩
    rw [← hl] at hgs
    have HL : Hid (l = (N.take j).filter (thereB C.length)) := hl
    have hll : l.length ≤ 2 := by rw [hl]; exact Nat.le_trans (List.length_filter_le _ _) (by simp; omega)
    clear hl
    have HGS : Hid (GS w b1 o1 c1 C.length l v wr) := hgs
    have HNX : Hid (0 < N.length → ∃ gb, nao = some ⟨gb, 0, none⟩ ∧ w.heap.size + 1 ≤ gb ∧ gb < wr.heap.size ∧ v.ownBlock ≠ some gb ∧ ∀ q, q < N.length → wr.cell? ⟨gb, q, none⟩ = some (.int .i64 (N.getD q 0))) := hnx
    have p1 := hgs.p1
    have hzz : w.heap.size < wr.heap.size := World.block_lt_of_cell? wr _ p1
    clear hgs hnx
    by_cases hjl : j < N.length
    case neg =>
      have y9 : ¬ (j : Int) < (N.length : Int) := by omega
      go_wp2
      go_ret
      refine ⟨⟨_, rfl, ?_⟩, HGS.out.bel⟩
      obtain rfl : j = N.length := by omega
      have := HGS.out.ints
      rw [HL.out, List.take_length] at this
      unfold goesI
      rw [HN.out]
      exact this
    obtain ⟨gb, rfl, hgb1, hgb2, hgb3, hgbc⟩ := HNX.out (by omega)
    have nj := hgbc j hjl
    obtain ⟨Y, hY⟩ : ∃ Y, Y = N.getD j 0 := ⟨_, rfl⟩
    rw [← hY] at nj
    have HY : Hid (Y = N.getD j 0) := hY
    have HGBC : Hid (∀ q, q < N.length → wr.cell? ⟨gb, q, none⟩ = some (.int .i64 (N.getD q 0))) := hgbc
    have y8 : (j : Int) < (N.length : Int) := by omega
    have y7 : (0 : Int) ≤ (j : Int) := by omega
    clear hgbc hY
    obtain ⟨t0', hi0, hy0, hy1, hy2⟩ := info_parts infInt
    cases hq : thereB C.length Y with
    | false =>
      have HQ : Hid (thereB C.length Y = false) := hq
      have hq2 : (decide (0 ≤ Y) && decide (Y < (C.length : Int))) = false := hq
      clear hq
      go_wp2_with (go_at_call 103; refine (isIn _ _ _).mono ?_; rw [hq2]; rintro e w' ⟨rfl, hw'⟩; obtain rfl := hw'.symm)
      refine ⟨⟨j + 1, _, rfl, by go_num, by omega, ?_, fun _ => ⟨gb, rfl, hgb1, hgb2, hgb3, HGBC.out⟩⟩, by simp [intOf]; omega⟩
      rw [take_filter hjl, ← HL.out, ← HY.out, HQ.out]
      simpa using HGS.out
    | true =>
      have HQ : Hid (thereB C.length Y = true) := hq
      have hq2 : (decide (0 ≤ Y) && decide (Y < (C.length : Int))) = true := hq
      clear hq
      go_wp2_with (first | (go_at_call 103; refine (isIn _ _ _).mono ?_; rw [hq2]; rintro e w' ⟨rfl, hw'⟩; obtain rfl := hw'.symm) | (at_builtin; refine wpList_append_lies _ rfl _ _ 71 rfl (w.heap.size + 1) 3 t0' (.int .i64 0) 1 8 Tryz.underlying71 hi0 hy0 hy1 hy2 rfl (by decide) v l.length (l.map intV) rfl (World.ownsRow.alloc HGS.out.own _) ⟨wr.heap.size, 0, none⟩ 1 1 [.int .i64 Y] rfl rfl ?c1 ?c2 (by decide) ?c3 ?c4 ?c5 _ rfl ?_))
      case c1 => exact World.news_of_block (cs := #[.int .i64 Y]) (t := 3) (fr := (0, 0)) (by have := heap_alloc_new wr (.cells #[.int .i64 Y] 3); simpa using this)
      case c2 => simp [Value.oneCell']
      case c3 => unfold maxLen; omega
      case c4 => omega
      case c5 => simp; omega
      intro g9 cap9 w9 hown hgrow hat hlt9
      have hP := (HGS.out.below ((Below.refl _ _).alloc (Nat.le_refl _) (.cells #[.int .i64 Y] 3))).push (by simp; omega) hown hgrow
      have hN9 : ∃ gb', some (⟨gb, 0, none⟩ : Addr) = some ⟨gb', 0, none⟩ ∧ w.heap.size + 1 ≤ gb' ∧ gb' < w9.heap.size ∧ (Value.slice (some ⟨g9, 0, none⟩) (l.length + 1) cap9).ownBlock ≠ some gb' ∧ ∀ q, q < N.length → w9.cell? ⟨gb', q, none⟩ = some (.int .i64 (N.getD q 0)) := by
        have hz9 : wr.heap.size < w9.heap.size := by have := hgrow.size; simp at this; omega
        refine ⟨gb, rfl, hgb1, by omega, ?_, fun q hq => ?_⟩
        · simp only [Value.ownBlock, ne_eq, Option.some.injEq]
          rcases hat with hat | hat
          · intro e; rw [e] at hat; exact hgb3 hat
          · omega
        · rw [hgrow.cell_far _ (by simp; omega) (Ne.symm hgb3)]
          exact step_cell ((Below.refl _ _).alloc (Nat.le_refl _) _) (HGBC.out q hq)
      have R : Hid (GS w b1 o1 c1 C.length (l ++ [Y]) (.slice (some ⟨g9, 0, none⟩) (l.length + 1) cap9) w9) := hP
      have RN : Hid (∃ gb', some (⟨gb, 0, none⟩ : Addr) = some ⟨gb', 0, none⟩ ∧ w.heap.size + 1 ≤ gb' ∧ gb' < w9.heap.size ∧ (Value.slice (some ⟨g9, 0, none⟩) (l.length + 1) cap9).ownBlock ≠ some gb' ∧ ∀ q, q < N.length → w9.cell? ⟨gb', q, none⟩ = some (.int .i64 (N.getD q 0))) := hN9
      clear hP hN9 hown hgrow hat
      go_wp2
      refine ⟨⟨j + 1, _, rfl, by go_num, by omega, ?_, fun _ => RN.out⟩, by simp [intOf]; omega⟩
      rw [take_filter hjl, ← HL.out, ← HY.out, HQ.out]
      simpa using R.out

end Go.Proofs.YtcmnmogmdhofcabGreat.form

/- Rounds over all instructions, facts as bits, till nothing changes, on plain numbers: what they end with is what is known. -/
namespace Go.Proofs.YtcmnmogmdhofcabGreat.form
open Go.RowKit Go.Proofs.YtcmnmogmdhofcabGreat.num
set_option linter.unusedVariables false

structure BehF (B : List Bool) (C : List LIns) (s slots : Int) (R : List LRow) (N : List Int) (k : Nat) (m m' : FM) : Prop where
  ok : FmOk B s slots N m'
  is : ∀ f, Kof N m' f ↔ thruK (FactOk B s slots (NumP C)) (C.getD k .zero) (R.getD k .zero) (Kof N m) f

structure BIt (B : List Bool) (C : List LIns) (s slots : Int) (R : List LRow) (N : List Int) (A : List (Option FM)) : Prop where
  len : A.length = C.length
  zero : ∃ m, A.getD 0 none = some m
  ok : ∀ k m, A.getD k none = some m → FmOk B s slots N m
  rch : ∀ k m, A.getD k none = some m → Reach C k
  up : ∀ k m, A.getD k none = some m → ∀ f, Known B C s slots R k f → Kof N m f
  beg : ∀ m, A.getD 0 none = some m → ∀ f, Kof N m f → f.n = 0

theorem getD_setO {A : List (Option FM)} {x j : Nat} {y : Option FM} (hx : x < A.length) : (A.set x y).getD j none = if j = x then y else A.getD j none := by
  by_cases e : j = x
  · subst e; rw [if_pos rfl]; simp [List.getD, hx]
  · rw [if_neg e]; simp [List.getD, Ne.symm e]

section
variable {B : List Bool} {C : List LIns} {s slots : Int} {R : List LRow} {N : List Int} {A : List (Option FM)}

theorem BIt.beh (h : BIt B C s slots R N A) {k : Nat} {m m' : FM} (hk : A.getD k none = some m) (hb : BehF B C s slots R N k m m') {x : Nat} (hx : x ∈ nextsN (C.getD k .zero) k) (hxl : x < C.length) : ∀ f, Known B C s slots R x f → Kof N m' f := by
  have hkl : k < C.length := by
    refine Classical.byContradiction fun hno => ?_
    have : A.getD k none = none := by simp [List.getD, List.getElem?_eq_none (show A.length ≤ k by rw [h.len]; omega)]
    rw [this] at hk; cases hk
  intro f hf
  rw [hb.is]
  exact thruK_mono (fun g hg => h.up k m hk g hg) ((known_good B C s slots R).next k x (h.rch k m hk) hkl hx hxl |>.2 f hf)

theorem BIt.first (h : BIt B C s slots R N A) {x : Nat} {m' : FM} (hr : Reach C x) (hxl : x < C.length) (hno : A.getD x none = none) (hok : FmOk B s slots N m') (hup : ∀ f, Known B C s slots R x f → Kof N m' f) : BIt B C s slots R N (A.set x (some m')) := by
  have hx : x < A.length := by rw [h.len]; exact hxl
  obtain ⟨m0, hm0⟩ := h.zero
  have hx0 : ¬ x = 0 := fun e => by rw [e, hm0] at hno; cases hno
  refine ⟨by simp [h.len], ⟨m0, by rw [getD_setO hx, if_neg (Ne.symm hx0)]; exact hm0⟩, fun k m hk => ?_, fun k m hk => ?_, fun k m hk => ?_, fun m hk => ?_⟩
  · rw [getD_setO hx] at hk
    split at hk
    · cases hk; exact hok
    · exact h.ok k m hk
  · rw [getD_setO hx] at hk
    split at hk
    · rename_i e; rw [e]; exact hr
    · exact h.rch k m hk
  · rw [getD_setO hx] at hk
    split at hk
    · rename_i e; cases hk; rw [e]; exact hup
    · exact h.up k m hk
  · rw [getD_setO hx, if_neg (Ne.symm hx0)] at hk
    exact h.beg m hk

theorem BIt.again (h : BIt B C s slots R N A) (hs : N.Pairwise (· < ·)) {x : Nat} {q m' : FM} (hq : A.getD x none = some q) (hxl : x < C.length) (hup : ∀ f, Known B C s slots R x f → Kof N m' f) : BIt B C s slots R N (A.set x (some (meetF q m'))) := by
  have hx : x < A.length := by rw [h.len]; exact hxl
  obtain ⟨m0, hm0⟩ := h.zero
  refine ⟨by simp [h.len], ?_, fun k m hk => ?_, fun k m hk => ?_, fun k m hk => ?_, fun m hk => ?_⟩
  · rw [getD_setO hx]
    split
    · exact ⟨_, rfl⟩
    · exact ⟨m0, hm0⟩
  · rw [getD_setO hx] at hk
    split at hk
    · cases hk; exact meetF_ok (h.ok x q hq)
    · exact h.ok k m hk
  · rw [getD_setO hx] at hk
    split at hk
    · rename_i e; rw [e]; exact h.rch x q hq
    · exact h.rch k m hk
  · rw [getD_setO hx] at hk
    split at hk
    · rename_i e
      cases hk
      rw [e]
      intro f hf
      rw [meetF_is hs]
      exact ⟨h.up x q hq f hf, hup f hf⟩
    · exact h.up k m hk
  · rw [getD_setO hx] at hk
    split at hk
    · rename_i e
      cases hk
      intro f hf
      rw [meetF_is hs] at hf
      exact h.beg q (by rw [e]; exact hq) f hf.1
    · exact h.beg m hk
end

def muF (P : List LPlace) (nB : Nat) (m : FM) : Nat := (P.map fun p => (m.has p).toNat + (m.is p).toNat).sum + ((List.range nB).map fun t : Nat => (m.tmp t).toNat).sum
def bigMu : Nat := 2 ^ 80
def muO (P : List LPlace) (nB : Nat) : Option FM → Nat
  | none => bigMu
  | some m => muF P nB m
def muA (P : List LPlace) (nB : Nat) (A : List (Option FM)) : Nat := (A.map (muO P nB)).sum

theorem sum_map_le {α : Type} {f g : α → Nat} : ∀ {l : List α}, (∀ x, x ∈ l → f x ≤ g x) → (l.map f).sum ≤ (l.map g).sum
  | [], _ => by simp
  | a :: l, h => by
    have := sum_map_le (l := l) (fun x hx => h x (by simp [hx]))
    have := h a (by simp)
    simp
    omega
theorem sum_map_lt {α : Type} {f g : α → Nat} : ∀ {l : List α}, (∀ x, x ∈ l → f x ≤ g x) → (∃ x, x ∈ l ∧ f x < g x) → (l.map f).sum < (l.map g).sum
  | [], _, h => by obtain ⟨x, hx, _⟩ := h; cases hx
  | a :: l, h, hx => by
    have h1 := sum_map_le (l := l) (fun x hx => h x (by simp [hx]))
    have h2 := h a (by simp)
    obtain ⟨x, hx, hlt⟩ := hx
    rcases List.mem_cons.1 hx with rfl | hx
    · simp; omega
    · have := sum_map_lt (l := l) (fun x hx => h x (by simp [hx])) ⟨x, hx, hlt⟩
      simp; omega
theorem sum_map_bd {α : Type} {f : α → Nat} {b : Nat} : ∀ {l : List α}, (∀ x, x ∈ l → f x ≤ b) → (l.map f).sum ≤ l.length * b
  | [], _ => by simp
  | a :: l, h => by
    have h1 := sum_map_bd (l := l) (fun x hx => h x (by simp [hx]))
    have h2 := h a (by simp)
    simp [Nat.add_mul]
    omega

theorem muF_lt {P : List LPlace} {nB : Nat} (hP : P.length ≤ 100) (hB : nB ≤ 12) (m : FM) : muF P nB m < bigMu := by
  unfold muF bigMu
  have h1 : (P.map fun p => (m.has p).toNat + (m.is p).toNat).sum ≤ P.length * (2 ^ 65) := sum_map_bd (fun p _ => by have := (m.has p).isLt; have := (m.is p).isLt; omega)
  have h2 : ((List.range nB).map fun t : Nat => (m.tmp t).toNat).sum ≤ (List.range nB).length * 2 ^ 65 := sum_map_bd (fun t _ => by have := (m.tmp t).isLt; omega)
  have h3 : P.length * 2 ^ 65 ≤ 100 * 2 ^ 65 := Nat.mul_le_mul_right _ hP
  have h4 : (List.range nB).length * 2 ^ 65 ≤ 12 * 2 ^ 65 := Nat.mul_le_mul_right _ (by simpa using hB)
  omega

theorem and_le (x y : Bits) : (x &&& y).toNat ≤ x.toNat := by rw [BitVec.toNat_and]; exact Nat.and_le_left
theorem and_lt {x y : Bits} (h : ¬ (x &&& y) = x) : (x &&& y).toNat < x.toNat := by
  have h1 := and_le x y
  have h2 : ¬ (x &&& y).toNat = x.toNat := fun e => h (BitVec.eq_of_toNat_eq e)
  omega

theorem muF_meet {P : List LPlace} {nB : Nat} {q m : FM} (h : (∃ p, p ∈ P ∧ (¬ (meetF q m).has p = q.has p ∨ ¬ (meetF q m).is p = q.is p)) ∨ ∃ t : Nat, t < nB ∧ ¬ (meetF q m).tmp t = q.tmp t) : muF P nB (meetF q m) < muF P nB q := by
  unfold muF
  have a1 : ∀ p, p ∈ P → ((meetF q m).has p).toNat + ((meetF q m).is p).toNat ≤ (q.has p).toNat + (q.is p).toNat := fun p _ => by
    have := and_le (q.has p) (m.has p)
    have := and_le (q.is p) (m.is p)
    simp only [meetF]
    omega
  have a2 : ∀ t, t ∈ List.range nB → ((meetF q m).tmp (t : Nat)).toNat ≤ (q.tmp (t : Nat)).toNat := fun t _ => and_le _ _
  rcases h with ⟨p, hp, h⟩ | ⟨t, ht, h⟩
  · have := sum_map_lt a1 ⟨p, hp, by
      have e1 := and_le (q.has p) (m.has p)
      have e2 := and_le (q.is p) (m.is p)
      rcases h with h | h
      · have := and_lt h; simp only [meetF]; omega
      · have := and_lt h; simp only [meetF]; omega⟩
    have := sum_map_le a2
    omega
  · have := sum_map_le a1
    have := sum_map_lt a2 ⟨t, List.mem_range.2 ht, and_lt h⟩
    omega

theorem muA_set {P : List LPlace} {nB : Nat} : ∀ {A : List (Option FM)} {x : Nat} {y : Option FM}, x < A.length → muO P nB y < muO P nB (A.getD x none) → muA P nB (A.set x y) < muA P nB A
  | [], x, y, h, _ => by simp at h
  | a :: A, 0, y, _, h => by
    simp at h
    simp [muA]
    omega
  | a :: A, x + 1, y, hx, h => by
    have := muA_set (P := P) (nB := nB) (A := A) (x := x) (y := y) (by simpa using hx) (by simpa using h)
    simp [muA] at this ⊢
    omega

def ClosedAt (B : List Bool) (C : List LIns) (s slots : Int) (R : List LRow) (N : List Int) (A : List (Option FM)) (k x : Nat) : Prop :=
  ∀ m, A.getD k none = some m → ∃ q, A.getD x none = some q ∧ ∀ f, Kof N q f → thruK (FactOk B s slots (NumP C)) (C.getD k .zero) (R.getD k .zero) (Kof N m) f

structure PassB (B : List Bool) (C : List LIns) (s slots : Int) (R : List LRow) (N : List Int) (P : List LPlace) (A0 A : List (Option FM)) (Z : Nat → Nat → Prop) (ch : Bool) : Prop where
  it : BIt B C s slots R N A
  same : ch = false → A = A0 ∧ ∀ k x, Z k x → ClosedAt B C s slots R N A0 k x
  less : ch = true → muA P B.length A < muA P B.length A0

section
variable {B : List Bool} {C : List LIns} {s slots : Int} {R : List LRow} {N : List Int} {P : List LPlace} {A0 A : List (Option FM)} {Z : Nat → Nat → Prop} {ch : Bool}

theorem PassB.start (h : BIt B C s slots R N A0) (hZ : ∀ k x, ¬ Z k x) : PassB B C s slots R N P A0 A0 Z false := ⟨h, fun _ => ⟨rfl, fun k x hz => absurd hz (hZ k x)⟩, fun h => by cases h⟩
theorem PassB.mono {Z' : Nat → Nat → Prop} (h : PassB B C s slots R N P A0 A Z ch) (hZ : ∀ k x, Z' k x → Z k x ∨ ∀ m, ¬ A0.getD k none = some m) : PassB B C s slots R N P A0 A Z' ch :=
  ⟨h.it, fun hc => ⟨(h.same hc).1, fun k x hz => by
    rcases hZ k x hz with h1 | h1
    · exact (h.same hc).2 k x h1
    · exact fun m hm => absurd hm (h1 m)⟩, h.less⟩

theorem PassB.first (h : PassB B C s slots R N P A0 A Z ch) (hP : P.length ≤ 100) (hB : B.length ≤ 12) {x : Nat} {m' : FM} (hr : Reach C x) (hxl : x < C.length) (hno : A.getD x none = none) (hok : FmOk B s slots N m') (hup : ∀ f, Known B C s slots R x f → Kof N m' f) (Z' : Nat → Nat → Prop) :
    PassB B C s slots R N P A0 (A.set x (some m')) Z' true := by
  refine ⟨h.it.first hr hxl hno hok hup, fun h => (by cases h), fun _ => ?_⟩
  have hx : x < A.length := by rw [h.it.len]; exact hxl
  have h1 : muA P B.length (A.set x (some m')) < muA P B.length A := muA_set hx (by rw [hno]; exact muF_lt hP hB m')
  cases hc : ch with
  | false => rw [(h.same hc).1] at h1 ⊢; exact h1
  | true => exact Nat.lt_trans h1 (h.less hc)

theorem PassB.went (h : PassB B C s slots R N P A0 A Z ch) (hs : N.Pairwise (· < ·)) {x : Nat} {q m' : FM} (hq : A.getD x none = some q) (hxl : x < C.length) (hup : ∀ f, Known B C s slots R x f → Kof N m' f) (hlt : muF P B.length (meetF q m') < muF P B.length q) (Z' : Nat → Nat → Prop) :
    PassB B C s slots R N P A0 (A.set x (some (meetF q m'))) Z' true := by
  refine ⟨h.it.again hs hq hxl hup, fun h => (by cases h), fun _ => ?_⟩
  have hx : x < A.length := by rw [h.it.len]; exact hxl
  have h1 : muA P B.length (A.set x (some (meetF q m'))) < muA P B.length A := muA_set hx (by rw [hq]; exact hlt)
  cases hc : ch with
  | false => rw [(h.same hc).1] at h1 ⊢; exact h1
  | true => exact Nat.lt_trans h1 (h.less hc)

theorem PassB.stays (h : PassB B C s slots R N P A0 A Z ch) (hs : N.Pairwise (· < ·)) {k x : Nat} {q m m' : FM} (hk : ch = false → A0.getD k none = some m) (hb : BehF B C s slots R N k m m') (hq : A.getD x none = some q) (he : meetF q m' = q) {Z' : Nat → Nat → Prop} (hZ : ∀ k' x', Z' k' x' → Z k' x' ∨ (k' = k ∧ x' = x)) :
    PassB B C s slots R N P A0 A Z' ch := by
  refine ⟨h.it, fun hc => ⟨(h.same hc).1, fun k' x' hz => ?_⟩, h.less⟩
  rcases hZ k' x' hz with h1 | ⟨rfl, rfl⟩
  · exact (h.same hc).2 k' x' h1
  · intro m1 hm1
    rw [hk hc] at hm1
    cases hm1
    refine ⟨q, by rw [← (h.same hc).1]; exact hq, fun f hf => ?_⟩
    rw [← he, meetF_is hs] at hf
    exact (hb.is f).1 hf.2

theorem PassB.done (h : PassB B C s slots R N P A0 A Z false) (hZ : ∀ k x, k < C.length → x ∈ nextsN (C.getD k .zero) k → x < C.length → Z k x) :
    ∀ k x, k < C.length → x ∈ nextsN (C.getD k .zero) k → x < C.length → ClosedAt B C s slots R N A k x := by
  obtain ⟨rfl, h2⟩ := h.same rfl
  exact fun k x hk hx hxl => h2 k x (hZ k x hk hx hxl)
end

structure FoundB (B : List Bool) (C : List LIns) (s slots : Int) (R : List LRow) (N : List Int) (A : List (Option FM)) : Prop where
  len : A.length = C.length
  ok : ∀ k m, A.getD k none = some m → FmOk B s slots N m
  rch : ∀ k, k < C.length → ((∃ m, A.getD k none = some m) ↔ Reach C k)
  is : ∀ k m, A.getD k none = some m → ∀ f, Kof N m f ↔ Known B C s slots R k f

theorem found_all {B : List Bool} {C : List LIns} {s slots : Int} {R : List LRow} {N : List Int} {A : List (Option FM)} (hN : NumsOf C N) (h : BIt B C s slots R N A) (hc : ∀ k x, k < C.length → x ∈ nextsN (C.getD k .zero) k → x < C.length → ClosedAt B C s slots R N A k x) : FoundB B C s slots R N A := by
  have hr : ∀ k, Reach C k → ∃ m, A.getD k none = some m := reach_least h.zero (fun j k ⟨m, hm⟩ hj hk hl => by
    obtain ⟨q, hq, _⟩ := hc j k hj hk hl m hm
    exact ⟨q, hq⟩)
  refine ⟨h.len, h.ok, fun k hk => ⟨fun ⟨m, hm⟩ => h.rch k m hm, hr k⟩, fun k m hm f => ?_⟩
  have hkr := h.rch k m hm
  have hS := found_known (B := B) (C := C) (s := s) (slots := slots) (R := R) (S := fun k f => ∃ m, A.getD k none = some m ∧ Kof N m f)
    (fun k f ⟨m, hm, hf⟩ => Kof.ok (h.ok k m hm) hN hf) (fun f ⟨m, hm, hf⟩ => h.beg m hm f hf)
    (fun k x hk hl hx hxl f ⟨q, hq, hf⟩ => by
      obtain ⟨m, hm⟩ := hr k hk
      obtain ⟨q', hq', hf'⟩ := hc k x hl hx hxl m hm
      rw [hq] at hq'
      cases hq'
      refine thruK_mono (fun g hg => ⟨m, hm, hg⟩) (hf' f hf))
    (fun k f hk hf => by
      obtain ⟨m, hm⟩ := hr k hk
      exact ⟨m, hm, h.up k m hm f hf⟩) hkr f
  rw [← hS]
  exact ⟨fun hf => ⟨m, hm, hf⟩, fun ⟨m', hm', hf⟩ => by rw [hm] at hm'; cases hm'; exact hf⟩

end Go.Proofs.YtcmnmogmdhofcabGreat.form
