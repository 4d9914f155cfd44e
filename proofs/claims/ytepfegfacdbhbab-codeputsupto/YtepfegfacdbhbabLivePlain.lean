/- What is needed, on plain numbers: the least truths; a search that is closed finds them; rows of truths in memory. -/
import Derived.Test.YtepfegfacdbhbabFormOk
namespace Go.Proofs.Ytepfegfacdbhbab.form
open Go.RowKit
set_option linter.unusedVariables false

def usesI (i : LIns) : List Int := ([i.a, i.b] : List Int).take (manyI i.op).toNat
def takesI (i : LIns) (t : Int) : Bool := (usesI i).contains t
def givesT (i : LIns) (t : Int) : Bool := givesB i.op && (i.dest == t)
def nextsI (i : LIns) (pc : Nat) : List Int := if i.op = 8 then [i.c] else if i.op = 10 then [] else if i.op = 9 then [(pc : Int) + 1, i.c] else [(pc : Int) + 1]
def nextsN (i : LIns) (pc : Nat) : List Nat := (nextsI i pc).map Int.toNat

/-- Needed ahead of an instruction, seen in so many steps. -/
def NeedN (C : List LIns) (t : Int) : Nat → Nat → Prop
  | 0, _ => False
  | n + 1, k => k < C.length ∧ (takesI (C.getD k .zero) t = true ∨ (givesT (C.getD k .zero) t = false ∧ ∃ x, x ∈ nextsN (C.getD k .zero) k ∧ NeedN C t n x))

def Need (C : List LIns) (t : Int) (k : Nat) : Prop := ∃ n, NeedN C t n k

theorem need_iff (C : List LIns) (t : Int) (k : Nat) :
    Need C t k ↔ k < C.length ∧ (takesI (C.getD k .zero) t = true ∨ (givesT (C.getD k .zero) t = false ∧ ∃ x, x ∈ nextsN (C.getD k .zero) k ∧ Need C t x)) := by
  constructor
  · rintro ⟨n, hn⟩
    cases n with
    | zero => exact hn.elim
    | succ n =>
      refine ⟨hn.1, hn.2.imp id (fun h => ⟨h.1, ?_⟩)⟩
      obtain ⟨x, hx, hn⟩ := h.2
      exact ⟨x, hx, n, hn⟩
  · rintro ⟨hk, h | ⟨hg, x, hx, n, hn⟩⟩
    · exact ⟨1, hk, Or.inl h⟩
    · exact ⟨n + 1, hk, Or.inr ⟨hg, x, hx, hn⟩⟩

theorem need_lt {C : List LIns} {t : Int} {k : Nat} (h : Need C t k) : k < C.length := ((need_iff C t k).1 h).1

/-- The least truths: whatever is closed has them. -/
theorem need_least (C : List LIns) (t : Int) (P : Nat → Prop)
    (h : ∀ k, k < C.length → (takesI (C.getD k .zero) t = true ∨ (givesT (C.getD k .zero) t = false ∧ ∃ x, x ∈ nextsN (C.getD k .zero) k ∧ P x)) → P k) : ∀ k, Need C t k → P k := by
  have hn : ∀ n k, NeedN C t n k → P k := by
    intro n
    induction n with
    | zero => exact fun k hk => hk.elim
    | succ n ih =>
      intro k hk
      refine h k hk.1 (hk.2.imp id (fun h2 => ⟨h2.1, ?_⟩))
      obtain ⟨x, hx, hxn⟩ := h2.2
      exact ⟨x, hx, ih x hxn⟩
  rintro k ⟨n, hk⟩
  exact hn n k hk

/-- A search that has come to its end without one that takes it: it is not needed in any of those that it came to. -/
theorem need_none (C : List LIns) (t : Int) (W : Nat → Prop)
    (h : ∀ k, W k → takesI (C.getD k .zero) t = false ∧ (givesT (C.getD k .zero) t = true ∨ ∀ x, x ∈ nextsN (C.getD k .zero) k → x < C.length → W x)) : ∀ k, W k → ¬ Need C t k := by
  intro k hk hn
  refine (need_least C t (fun k => k < C.length ∧ ¬ W k) (fun k hlt hor => ⟨hlt, fun hW => ?_⟩) k hn).2 hk
  obtain ⟨h1, h2⟩ := h k hW
  rcases hor with hor | ⟨hg, x, hx, hxl, hxW⟩
  · rw [h1] at hor; exact absurd hor (by simp)
  · rcases h2 with h2 | h2
    · rw [hg] at h2; exact absurd h2 (by simp)
    · exact hxW (h2 x hx hxl)

theorem nexts_len (i : LIns) (pc : Nat) : (nextsI i pc).length ≤ 2 := by
  unfold nextsI
  split
  · simp
  split
  · simp
  split <;> simp

/-- Where an instruction of a program that may be goes on is a place at or behind the first one. -/
theorem nexts_bd {nB nC : Nat} {i : LIns} (hi : InsOk nB nC i) {pc : Nat} (hpc : pc < nC) : ∀ x, x ∈ nextsI i pc → 0 ≤ x ∧ x ≤ nC := by
  intro x hx
  unfold nextsI at hx
  split at hx
  · rename_i h8
    have := hi.c (Or.inl h8)
    simp at hx
    omega
  split at hx
  · simp at hx
  split at hx
  · rename_i h9
    have := hi.c (Or.inr h9)
    simp at hx
    omega
  · simp at hx
    omega

/-- A row of truths in memory. -/
def BRowIs (w : World) (v : Value) (l : List Bool) : Prop :=
  ∃ ao cap, v = .slice ao l.length cap ∧ l.length ≤ 1000000 ∧ (0 < l.length → ∃ b o, ao = some ⟨b, o, none⟩ ∧ b < w.heap.size ∧ ∀ j, j < l.length → w.cell? ⟨b, o + j, none⟩ = some (.bool (l.getD j false)))
/-- Rows of truths in memory. -/
def MatIs (w : World) (v : Value) (R : List (List Bool)) : Prop :=
  ∃ ao cap, v = .slice ao R.length cap ∧ R.length ≤ 1000000 ∧ (0 < R.length → ∃ b o, ao = some ⟨b, o, none⟩ ∧ b < w.heap.size ∧ ∀ k, k < R.length → ∃ rv, w.cell? ⟨b, o + k, none⟩ = some rv ∧ BRowIs w rv (R.getD k []))

theorem BRowIs.later {w w' : World} {v : Value} {l : List Bool} (h : BRowIs w v l) (hb : Below w.heap.size w w') : BRowIs w' v l := by
  obtain ⟨ao, cap, hv, hl, hc⟩ := h
  refine ⟨ao, cap, hv, hl, fun h0 => ?_⟩
  obtain ⟨b, o, e, hlt, hcell⟩ := hc h0
  exact ⟨b, o, e, Nat.lt_of_lt_of_le hlt hb.size, fun j hj => step_cell hb (hcell j hj)⟩
theorem MatIs.later {w w' : World} {v : Value} {R : List (List Bool)} (h : MatIs w v R) (hb : Below w.heap.size w w') : MatIs w' v R := by
  obtain ⟨ao, cap, hv, hl, hc⟩ := h
  refine ⟨ao, cap, hv, hl, fun h0 => ?_⟩
  obtain ⟨b, o, e, hlt, hcell⟩ := hc h0
  refine ⟨b, o, e, Nat.lt_of_lt_of_le hlt hb.size, fun k hk => ?_⟩
  obtain ⟨rv, h1, h2⟩ := hcell k hk
  exact ⟨rv, step_cell hb h1, h2.later hb⟩

/-- The rows of what is needed. -/
structure NeedMat (nB : Nat) (C : List LIns) (R : List (List Bool)) : Prop where
  len : R.length = C.length
  row : ∀ k, k < C.length → (R.getD k []).length = nB
  tru : ∀ k, k < C.length → ∀ t, t < nB → ((R.getD k []).getD t false = true ↔ Need C t k)

/-- They are only one. -/
theorem NeedMat.only {nB : Nat} {C : List LIns} {R Q : List (List Bool)} (h : NeedMat nB C R) (g : NeedMat nB C Q) : R = Q := by
  apply List.ext_getElem (by rw [h.len, g.len])
  intro k hk1 hk2
  have hk : k < C.length := by rw [← h.len]; exact hk1
  have r1 := h.row k hk
  have q1 := g.row k hk
  have e1 : R.getD k [] = R[k] := by simp [List.getD, hk1]
  have e2 : Q.getD k [] = Q[k] := by simp [List.getD, hk2]
  have t1 := h.tru k hk
  have t2 := g.tru k hk
  rw [e1] at r1 t1
  rw [e2] at q1 t2
  apply List.ext_getElem (by rw [r1, q1])
  intro j hj1 hj2
  have a := t1 j (by omega)
  have b := t2 j (by omega)
  rw [show R[k].getD j false = R[k][j] by simp [List.getD, hj1]] at a
  rw [show Q[k].getD j false = Q[k][j] by simp [List.getD, hj2]] at b
  rw [Bool.eq_iff_iff, a, b]

end Go.Proofs.Ytepfegfacdbhbab.form
