/- The machine on plain numbers keeps within its bounds, step by step. -/
import Derived.Test.YtcmnmogmdhofcaaRunRef
import Derived.Test.YtcmnmogmdhofcaaFormOk
namespace Go.Proofs.Ytcmnmogmdhofcaa.form
open Go.RowKit Go.Proofs.Ytcmnmogmdhofcaa.num
set_option linter.unusedVariables false

theorem u64_wrap (x : Int) : U64i (IntKind.u64.wrap x) := by
  have e : IntKind.u64.wrap x = x % 18446744073709551616 := by simp [IntKind.wrap, IntKind.bits, IntKind.signed]
  unfold U64i
  rw [e]
  omega

theorem gvI_bd (i : LIns) (a b x : Int) (ha : U64i a) (hb : U64i b) (hx0 : 0 ≤ x) (hx1 : x < 4294967296) (hn0 : 0 ≤ i.n) (hn1 : i.n < 4294967296) : U64i (gvI i a b x) := by
  unfold gvI
  split
  · exact ⟨hn0, by omega⟩
  split
  · exact ha
  split
  · exact ⟨hx0, by omega⟩
  split
  · exact u64_wrap _
  split
  · have := ha.1; have := ha.2; exact ⟨by omega, by omega⟩
  split
  · have := ha.1; have := ha.2; exact ⟨by omega, by omega⟩
  split
  · exact opR_u64_bd _ _ _ ha.1 ha.2 hb.1 hb.2
  · have := opR_u32_bd (i.op - 20) a b; exact ⟨this.1, by omega⟩

/-- A machine within its bounds. -/
structure MOk (nB nC nI : Nat) (m : Mac) : Prop where
  len : m.temps.length = nB
  bd : ∀ j, U64i (m.temps.getD j 0)
  pcok : m.state = 0 → m.pc < nC
  tk : m.taken ≤ nI
  outs : m.out.length ≤ m.steps

theorem getD_set_bd {l : List Int} {k : Nat} {x : Int} (h : ∀ j, U64i (l.getD j 0)) (hx : U64i x) : ∀ j, U64i ((l.set k x).getD j 0) := by
  intro j
  by_cases hj : j < l.length
  · by_cases hk : k = j
    · subst hk; simpa [List.getD, hj] using hx
    · have := h j
      simpa [List.getD, hj, List.getElem_set, hk] using this
  · have : (l.set k x).getD j 0 = 0 := by simp [List.getD, List.getElem?_eq_none (show (l.set k x).length ≤ j by simp; omega)]
    rw [this]; exact ⟨by omega, by omega⟩

theorem mok_start (nB nC nI : Nat) (h : 1 ≤ nC) : MOk nB nC nI (Mac.start nB) := by
  refine ⟨by simp [Mac.start], fun j => ?_, fun _ => by simp [Mac.start]; omega, by simp [Mac.start], by simp [Mac.start]⟩
  have : (Mac.start nB).temps.getD j 0 = 0 := by
    unfold Mac.start
    by_cases hj : j < nB <;> simp [List.getD, hj]
  rw [this]; exact ⟨by omega, by omega⟩

theorem inOf_bd {ins : List Int} (h : ∀ j, j < ins.length → 0 ≤ ins.getD j 0 ∧ ins.getD j 0 < 4294967296) (k : Nat) : 0 ≤ inOf ins k ∧ inOf ins k < 4294967296 := by
  unfold inOf
  by_cases hk : k < ins.length
  · exact h k hk
  · rw [show ins.getD k 0 = 0 by simp [List.getD, List.getElem?_eq_none (show ins.length ≤ k by omega)]]; omega

theorem mok_step {nB : Nat} {C : List LIns} {ins : List Int} {m : Mac} (h : MOk nB C.length ins.length m) (h0 : m.state = 0) (hi : InsOk nB C.length (C.getD m.pc .zero)) (hin : ∀ j, j < ins.length → 0 ≤ ins.getD j 0 ∧ ins.getD j 0 < 4294967296) :
    MOk nB C.length ins.length (m.step C ins) := by
  refine ⟨?_, ?_, ?_, ?_, ?_⟩
  · simp only [Mac.step]; split <;> simp [h.len]
  · simp only [Mac.step]
    split
    · exact getD_set_bd h.bd (gvI_bd _ _ _ _ (h.bd _) (h.bd _) (inOf_bd hin _).1 (inOf_bd hin _).2 hi.n0 hi.n1)
    · exact h.bd
  · simp only [Mac.step]
    intro hs
    unfold stI at hs
    split at hs
    · omega
    split at hs
    · omega
    · have hn : 0 ≤ nxI (C.getD m.pc .zero) m.pc (m.temps.getD (C.getD m.pc .zero).a.toNat 0) := by
        unfold nxI
        split
        · rename_i hc
          exact (hi.c (by rcases hc with hc | hc; exact Or.inl hc; exact Or.inr hc.1)).1
        · omega
      omega
  · simp only [Mac.step]
    split
    · rename_i hc; exact hc.2
    · exact h.tk
  · simp only [Mac.step]
    have := h.outs
    split <;> simp <;> omega

end Go.Proofs.Ytcmnmogmdhofcaa.form
