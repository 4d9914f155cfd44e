/- What may not be in one place, on plain numbers: near ones; rows of truths that tell them are only one. -/
import Derived.Test.YtgeimilnddpdmabLivePlain
namespace Go.Proofs.Ytgeimilnddpdmab.form
open Go.RowKit
set_option linter.unusedVariables false

/-- An instruction gives the one where the other one is needed behind it. -/
def NearAt (C : List LIns) (k : Nat) (a b : Int) : Prop :=
  givesT (C.getD k .zero) a = true ∧ ¬ ((C.getD k .zero).op = 2 ∧ (C.getD k .zero).a = b) ∧ ∃ x, x ∈ nextsN (C.getD k .zero) k ∧ Need C b x

def Near (C : List LIns) (a b : Int) : Prop :=
  ¬ a = b ∧ ((Need C a 0 ∧ Need C b 0) ∨ ∃ k, k < C.length ∧ (NearAt C k a b ∨ NearAt C k b a))

theorem Near.symm {C : List LIns} {a b : Int} (h : Near C a b) : Near C b a := by
  obtain ⟨hne, h⟩ := h
  refine ⟨fun e => hne e.symm, ?_⟩
  rcases h with ⟨h1, h2⟩ | ⟨k, hk, h⟩
  · exact Or.inl ⟨h2, h1⟩
  · exact Or.inr ⟨k, hk, h.symm⟩

/-- Rows of truths. -/
structure TruthMat (nR nB : Nat) (P : Nat → Nat → Prop) (R : List (List Bool)) : Prop where
  len : R.length = nR
  row : ∀ k, k < nR → (R.getD k []).length = nB
  tru : ∀ k, k < nR → ∀ t, t < nB → ((R.getD k []).getD t false = true ↔ P k t)

theorem TruthMat.only {nR nB : Nat} {P : Nat → Nat → Prop} {R Q : List (List Bool)} (h : TruthMat nR nB P R) (g : TruthMat nR nB P Q) : R = Q := by
  apply List.ext_getElem (by rw [h.len, g.len])
  intro k hk1 hk2
  have hk : k < nR := by rw [← h.len]; exact hk1
  have r1 := h.row k hk
  have q1 := g.row k hk
  have e1 : R.getD k [] = R[k] := by simp [List.getD, hk1]
  have e2 : Q.getD k [] = Q[k] := by simp [List.getD, hk2]
  have t1 := h.tru k hk
  have t2 := g.tru k hk
  rw [e1] at r1 t1
  rw [e2] at q1 t2
  apply List.ext_getElem (by rw [r1, q1])
  intro j hj1 hj2
  have a := t1 j (by omega)
  have b := t2 j (by omega)
  rw [show R[k].getD j false = R[k][j] by simp [List.getD, hj1]] at a
  rw [show Q[k].getD j false = Q[k][j] by simp [List.getD, hj2]] at b
  rw [Bool.eq_iff_iff, a, b]

/-- The rows of what is near. -/
def NearMat (nB : Nat) (C : List LIns) (R : List (List Bool)) : Prop := TruthMat nB nB (fun a b => Near C a b) R

/-- By rows of what is needed. -/
def nearG (C : List LIns) (R : List (List Bool)) (k a b : Nat) : Bool :=
  givesT (C.getD k .zero) a && !(((C.getD k .zero).op == 2) && ((C.getD k .zero).a == (b : Int))) && (nextsI (C.getD k .zero) k).any fun x => decide (x < (C.length : Int)) && (R.getD x.toNat []).getD b false

theorem nearG_iff {nB : Nat} {C : List LIns} {R : List (List Bool)} (hN : NeedMat nB C R) (hok : ∀ k, k < C.length → InsOk nB C.length (C.getD k .zero)) {k a b : Nat} (hk : k < C.length) (hb : b < nB) : nearG C R k a b = true ↔ NearAt C k a b := by
  unfold nearG NearAt
  simp only [Bool.and_eq_true, Bool.not_eq_true', Bool.and_eq_false_iff, List.any_eq_true, decide_eq_true_eq, and_assoc]
  refine and_congr Iff.rfl (and_congr ?_ ?_)
  · simp only [beq_eq_false_iff_ne, ne_eq]
    exact Decidable.not_and_iff_not_or_not.symm
  · constructor
    · rintro ⟨x, hx, hl, ht⟩
      have hb0 := nexts_bd (hok k hk) hk x hx
      exact ⟨x.toNat, List.mem_map.2 ⟨x, hx, rfl⟩, (hN.tru x.toNat (by omega) b hb).1 ht⟩
    · rintro ⟨y, hy, hn⟩
      obtain ⟨x, hx, rfl⟩ := List.mem_map.1 hy
      have hb0 := nexts_bd (hok k hk) hk x hx
      have hl := need_lt hn
      exact ⟨x, hx, by omega, (hN.tru x.toNat hl b hb).2 hn⟩

end Go.Proofs.Ytgeimilnddpdmab.form
