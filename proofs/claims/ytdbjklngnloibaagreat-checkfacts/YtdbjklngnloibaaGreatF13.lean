/- Rows of facts that are gathered: on plain numbers and in memory. -/
import Derived.Test.YtdbjklngnloibaaGreatF11
import Derived.Test.YtdbjklngnloibaaGreatF12
import Derived.Test.YtdbjklngnloibaaGreatF01

namespace Go.Proofs.YtdbjklngnloibaaGreat.form
open Go.RowKit Go.Proofs.YtdbjklngnloibaaGreat.num
set_option linter.unusedVariables false

/-- Of so many facts those that are marked. -/
def rowOfM (F : List LFact) (S : List Bool) (m : Nat) : List LFact := ((List.range m).filter (fun q => S.getD q false)).map (fun q => F.getD q .zero)

theorem rowOfM_succ (F : List LFact) (S : List Bool) (m : Nat) : rowOfM F S (m + 1) = rowOfM F S m ++ (if S.getD m false = true then [F.getD m .zero] else []) := by
  unfold rowOfM
  rw [List.range_succ, List.filter_append, List.map_append]
  congr 1
  cases h : S.getD m false with
  | true => rw [List.filter_cons_of_pos (by simpa using h)]; rfl
  | false => rw [List.filter_cons_of_neg (by simpa using h)]; rfl
theorem rowOfM_len (F : List LFact) (S : List Bool) (m : Nat) : (rowOfM F S m).length ≤ m := by
  unfold rowOfM
  rw [List.length_map]
  exact Nat.le_trans (List.length_filter_le _ _) (by simp)
theorem rowOfM_mem {F : List LFact} {S : List Bool} {f : LFact} : f ∈ rowOfM F S F.length ↔ setP F S f := by
  unfold rowOfM setP
  rw [List.mem_map]
  constructor
  · rintro ⟨q, hq, rfl⟩
    rw [List.mem_filter, List.mem_range] at hq
    exact ⟨q, hq.1, rfl, hq.2⟩
  · rintro ⟨q, hq, e, ht⟩
    exact ⟨q, by rw [List.mem_filter, List.mem_range]; exact ⟨hq, ht⟩, e⟩
theorem rowOfM_sorted {F : List LFact} {S : List Bool} (h : F.Pairwise factLt) : (rowOfM F S F.length).Pairwise factLt := by
  unfold rowOfM
  rw [List.pairwise_map]
  have hr : (List.range F.length).Pairwise (fun a b => a < b ∧ a < F.length ∧ b < F.length) := by
    rw [List.pairwise_iff_getElem]
    intro i j hi hj hij
    simp only [List.length_range] at hi hj
    simp only [List.getElem_range]
    exact ⟨hij, hi, hj⟩
  refine (hr.filter _).imp (fun {a b} hab => ?_)
  rw [List.pairwise_iff_getElem] at h
  have := h a b hab.2.1 hab.2.2 hab.1
  simpa [List.getD, hab.2.1, hab.2.2] using this

theorem factLt_trans {f g h : LFact} (h1 : factLt f g) (h2 : factLt g h) : factLt f h := by
  unfold factLt at *
  rcases h1 with a | ⟨a, a1⟩ <;> rcases h2 with b | ⟨b, b1⟩
  · exact Or.inl (by omega)
  · exact Or.inl (by omega)
  · exact Or.inl (by omega)
  refine Or.inr ⟨by omega, ?_⟩
  rcases a1 with a1 | ⟨a1, a2⟩ <;> rcases b1 with b1 | ⟨b1, b2⟩
  · exact Or.inl (by omega)
  · exact Or.inl (by omega)
  · exact Or.inl (by omega)
  refine Or.inr ⟨by omega, ?_⟩
  rcases a2 with ⟨a2, a3⟩ | ⟨a2, a3⟩ <;> rcases b2 with ⟨b2, b3⟩ | ⟨b2, b3⟩
  · rw [a3] at b2; exact absurd b2 (by simp)
  · exact Or.inl ⟨a2, by rw [← b2]; exact a3⟩
  · exact Or.inl ⟨by rw [a2]; exact b2, b3⟩
  refine Or.inr ⟨a2.trans b2, ?_⟩
  rcases a3 with a3 | ⟨a3, a4⟩ <;> rcases b3 with b3 | ⟨b3, b4⟩
  · exact Or.inl (by omega)
  · exact Or.inl (by omega)
  · exact Or.inl (by omega)
  · exact Or.inr ⟨by omega, by omega⟩

/-- Rising rows of the same facts are one. -/
theorem sorted_only : ∀ {l r : List LFact}, l.Pairwise factLt → r.Pairwise factLt → (∀ f, f ∈ l ↔ f ∈ r) → l = r
  | [], [], _, _, _ => rfl
  | [], b :: r, _, _, h => absurd ((h b).2 (by simp)) (by simp)
  | a :: l, [], _, _, h => absurd ((h a).1 (by simp)) (by simp)
  | a :: l, b :: r, h1, h2, h => by
    rw [List.pairwise_cons] at h1 h2
    have hab : a = b := by
      rcases List.mem_cons.1 ((h a).1 (by simp)) with e | e
      · exact e
      · rcases List.mem_cons.1 ((h b).2 (by simp)) with e2 | e2
        · exact e2.symm
        · exact absurd (factLt_trans (h1.1 b e2) (h2.1 a e)) factLt_ne
    subst hab
    congr 1
    refine sorted_only h1.2 h2.2 (fun f => ?_)
    constructor
    · intro hf
      rcases List.mem_cons.1 ((h f).1 (by simp [hf])) with e | e
      · subst e; exact absurd (h1.1 f hf) factLt_ne
      · exact e
    · intro hf
      rcases List.mem_cons.1 ((h f).2 (by simp [hf])) with e | e
      · subst e; exact absurd (h2.1 f hf) factLt_ne
      · exact e

/-- The rows of what is known. -/
structure FactsMat (B : List Bool) (C : List LIns) (s slots : Int) (R : List LRow) (Rs : List (List LFact)) : Prop where
  len : Rs.length = C.length
  yes : ∀ k, k < C.length → Reach C k → (Rs.getD k []).Pairwise factLt ∧ ∀ f, f ∈ Rs.getD k [] ↔ Known B C s slots R k f
  no : ∀ k, k < C.length → ¬ Reach C k → Rs.getD k [] = []
/-- They are only one. -/
theorem FactsMat.only {B : List Bool} {C : List LIns} {s slots : Int} {R : List LRow} {P Q : List (List LFact)} (h : FactsMat B C s slots R P) (g : FactsMat B C s slots R Q) : P = Q := by
  apply List.ext_getElem (by rw [h.len, g.len])
  intro k h1 h2
  have hk : k < C.length := by rw [← h.len]; exact h1
  have e1 : P.getD k [] = P[k] := by simp [List.getD, h1]
  have e2 : Q.getD k [] = Q[k] := by simp [List.getD, h2]
  rw [← e1, ← e2]
  by_cases hr : Reach C k
  · obtain ⟨a1, a2⟩ := h.yes k hk hr
    obtain ⟨b1, b2⟩ := g.yes k hk hr
    exact sorted_only a1 b1 (fun f => (a2 f).trans (b2 f).symm)
  · rw [h.no k hk hr, g.no k hk hr]

end Go.Proofs.YtdbjklngnloibaaGreat.form

/- What layout.within and isIn answer. -/
namespace Go.Proofs.YtdbjklngnloibaaGreat.form
open Go.RowKit
set_option linter.unusedVariables false

theorem within (a b : Int) (w : World) :
    Calls Tryz.prog 39 #[.int .i64 a, .int .i64 b] w fun e w' => e = .returned (.bool (decide (1 ≤ a) && decide (a ≤ b))) ∧ w' = w := by
  go_enter Tryz.func39, Tryz.ntmps39
  go_wp2
  all_goals
    go_ret
    exact ⟨ret_bool (by rw [Bool.eq_iff_iff]; simp; try omega), rfl⟩

theorem isIn (a b : Int) (w : World) :
    Calls Tryz.prog 71 #[.int .i64 a, .int .i64 b] w fun e w' => e = .returned (.bool (decide (0 ≤ a) && decide (a < b))) ∧ w' = w := by
  go_enter Tryz.func71, Tryz.ntmps71
  go_wp2
  all_goals
    go_ret
    exact ⟨ret_bool (by rw [Bool.eq_iff_iff]; simp; try omega), rfl⟩

end Go.Proofs.YtdbjklngnloibaaGreat.form
