/- Of a program that may be every instruction's fields are within their bounds. -/
import Derived.Test.YtcmnmogmdhofcaaB03
import Derived.Test.YtcmnmogmdhofcaaB02

namespace Go.Proofs.Ytcmnmogmdhofcaa.form
open Go.RowKit
set_option linter.unusedVariables false

/-- An instruction of a program that may be. -/
structure InsOk (nB nC : Nat) (i : LIns) : Prop where
  a0 : 0 ≤ i.a
  a1 : i.a < nB
  b0 : 0 ≤ i.b
  b1 : i.b < nB
  d : givesB i.op = true → 0 ≤ i.dest ∧ i.dest < nB
  c : i.op = 8 ∨ i.op = 9 → 0 ≤ i.c ∧ i.c < nC
  n0 : 0 ≤ i.n
  n1 : i.n < 4294967296
  p0 : 1 ≤ i.op
  p1 : i.op ≤ 45

theorem field_bd {B : List Bool} {t : Bool} {f : Int} (hB : 1 ≤ B.length) (h : fieldB B t f = true) : 0 ≤ f ∧ f < B.length := by
  unfold fieldB at h
  cases t <;> simp at h <;> omega

theorem insOk {B : List Bool} {nC : Nat} {i : LIns} (hB : 1 ≤ B.length) (h : insB B nC i = true) (hn0 : 0 ≤ i.n) (hn1 : i.n < 4294967296) : InsOk B.length nC i := by
  unfold insB at h
  simp only [Bool.and_eq_true] at h
  obtain ⟨⟨⟨⟨⟨⟨hk, _⟩, hd⟩, ha⟩, hb⟩, hl⟩, _⟩ := h
  have hk2 : 1 ≤ i.op ∧ i.op ≤ 45 := by unfold knownB at hk; simp at hk; omega
  refine ⟨(field_bd hB ha).1, (field_bd hB ha).2, (field_bd hB hb).1, (field_bd hB hb).2, fun _ => field_bd hB hd, fun hop => ?_, hn0, hn1, hk2.1, hk2.2⟩
  unfold lineB at hl
  rw [if_pos hop] at hl
  simpa using hl

/-- Of a program that may be every instruction is so. -/
theorem all_insOk {B : List Bool} {C : List LIns} (h : refMayB B C = true) (hn : ∀ i, i < C.length → 0 ≤ (C.getD i .zero).n ∧ (C.getD i .zero).n < 4294967296) : ∀ k, k < C.length → InsOk B.length C.length (C.getD k .zero) := by
  unfold refMayB at h
  simp only [Bool.and_eq_true] at h
  obtain ⟨s1, s2, s3, s4⟩ := sizes_of h.1
  intro k hk
  refine insOk s1 ?_ (hn k hk).1 (hn k hk).2
  have := List.all_eq_true.1 h.2 (C.getD k .zero) (by simp [List.getD, hk])
  exact this

end Go.Proofs.Ytcmnmogmdhofcaa.form

/- The machine on plain numbers keeps within its bounds, step by step. -/
namespace Go.Proofs.Ytcmnmogmdhofcaa.form
open Go.RowKit Go.Proofs.Ytcmnmogmdhofcaa.num
set_option linter.unusedVariables false

theorem u64_wrap (x : Int) : U64i (IntKind.u64.wrap x) := by
  have e : IntKind.u64.wrap x = x % 18446744073709551616 := by simp [IntKind.wrap, IntKind.bits, IntKind.signed]
  unfold U64i
  rw [e]
  omega

theorem gvI_bd (i : LIns) (a b x : Int) (ha : U64i a) (hb : U64i b) (hx0 : 0 ≤ x) (hx1 : x < 4294967296) (hn0 : 0 ≤ i.n) (hn1 : i.n < 4294967296) : U64i (gvI i a b x) := by
  unfold gvI
  split
  · exact ⟨hn0, by omega⟩
  split
  · exact ha
  split
  · exact ⟨hx0, by omega⟩
  split
  · exact u64_wrap _
  split
  · have := ha.1; have := ha.2; exact ⟨by omega, by omega⟩
  split
  · have := ha.1; have := ha.2; exact ⟨by omega, by omega⟩
  split
  · exact opR_u64_bd _ _ _ ha.1 ha.2 hb.1 hb.2
  · have := opR_u32_bd (i.op - 20) a b; exact ⟨this.1, by omega⟩

/-- A machine within its bounds. -/
structure MOk (nB nC nI : Nat) (m : Mac) : Prop where
  len : m.temps.length = nB
  bd : ∀ j, U64i (m.temps.getD j 0)
  pcok : m.state = 0 → m.pc < nC
  tk : m.taken ≤ nI
  outs : m.out.length ≤ m.steps

theorem getD_set_bd {l : List Int} {k : Nat} {x : Int} (h : ∀ j, U64i (l.getD j 0)) (hx : U64i x) : ∀ j, U64i ((l.set k x).getD j 0) := by
  intro j
  by_cases hj : j < l.length
  · by_cases hk : k = j
    · subst hk; simpa [List.getD, hj] using hx
    · have := h j
      simpa [List.getD, hj, List.getElem_set, hk] using this
  · have : (l.set k x).getD j 0 = 0 := by simp [List.getD, List.getElem?_eq_none (show (l.set k x).length ≤ j by simp; omega)]
    rw [this]; exact ⟨by omega, by omega⟩

theorem mok_start (nB nC nI : Nat) (h : 1 ≤ nC) : MOk nB nC nI (Mac.start nB) := by
  refine ⟨by simp [Mac.start], fun j => ?_, fun _ => by simp [Mac.start]; omega, by simp [Mac.start], by simp [Mac.start]⟩
  have : (Mac.start nB).temps.getD j 0 = 0 := by
    unfold Mac.start
    by_cases hj : j < nB <;> simp [List.getD, hj]
  rw [this]; exact ⟨by omega, by omega⟩

theorem inOf_bd {ins : List Int} (h : ∀ j, j < ins.length → 0 ≤ ins.getD j 0 ∧ ins.getD j 0 < 4294967296) (k : Nat) : 0 ≤ inOf ins k ∧ inOf ins k < 4294967296 := by
  unfold inOf
  by_cases hk : k < ins.length
  · exact h k hk
  · rw [show ins.getD k 0 = 0 by simp [List.getD, List.getElem?_eq_none (show ins.length ≤ k by omega)]]; omega

theorem mok_step {nB : Nat} {C : List LIns} {ins : List Int} {m : Mac} (h : MOk nB C.length ins.length m) (h0 : m.state = 0) (hi : InsOk nB C.length (C.getD m.pc .zero)) (hin : ∀ j, j < ins.length → 0 ≤ ins.getD j 0 ∧ ins.getD j 0 < 4294967296) :
    MOk nB C.length ins.length (m.step C ins) := by
  refine ⟨?_, ?_, ?_, ?_, ?_⟩
  · simp only [Mac.step]; split <;> simp [h.len]
  · simp only [Mac.step]
    split
    · exact getD_set_bd h.bd (gvI_bd _ _ _ _ (h.bd _) (h.bd _) (inOf_bd hin _).1 (inOf_bd hin _).2 hi.n0 hi.n1)
    · exact h.bd
  · simp only [Mac.step]
    intro hs
    unfold stI at hs
    split at hs
    · omega
    split at hs
    · omega
    · have hn : 0 ≤ nxI (C.getD m.pc .zero) m.pc (m.temps.getD (C.getD m.pc .zero).a.toNat 0) := by
        unfold nxI
        split
        · rename_i hc
          exact (hi.c (by rcases hc with hc | hc; exact Or.inl hc; exact Or.inr hc.1)).1
        · omega
      omega
  · simp only [Mac.step]
    split
    · rename_i hc; exact hc.2
    · exact h.tk
  · simp only [Mac.step]
    have := h.outs
    split <;> simp <;> omega

end Go.Proofs.Ytcmnmogmdhofcaa.form

/- What the functions on numbers come to: the program's. -/
namespace Go.Proofs.Ytcmnmogmdhofcaa.num
open Go.RowKit

theorem reckon64 (op a b : Int) (w : World) : Calls Try.prog 37 #[.int .i64 op, .int .u64 a, .int .u64 b] w fun e w' => e = .returned (.int .u64 (opR .u64 op a b)) ∧ w' = w := by
  go_enter Try.func37, Try.ntmps37
  go_wp2
  all_goals go_ret
  all_goals exact ⟨ret_int (by simp_all [opR]), rfl⟩

theorem reckon32 (op a b : Int) (w : World) : Calls Try.prog 36 #[.int .i64 op, .int .u32 a, .int .u32 b] w fun e w' => e = .returned (.int .u32 (opR .u32 op a b)) ∧ w' = w := by
  go_enter Try.func36, Try.ntmps36
  go_wp2
  all_goals go_ret
  all_goals exact ⟨ret_int (by simp_all [opR, IntKind.wrap_u32']), rfl⟩

theorem wide (op a b : Int) (w : World) : Calls Try.prog 15 #[.int .i64 op, .int .u64 a, .int .u64 b] w fun e w' => e = .returned (.int .u64 (opR .u64 op a b)) ∧ w' = w := by
  go_enter Try.func15, Try.ntmps15
  go_wp2_with (go_at_call 37; refine (reckon64 _ _ _ _).mono ?_; rintro e w' ⟨rfl, rfl⟩)
  go_ret
  exact ⟨rfl, rfl⟩

theorem narrow (op a b : Int) (w : World) : Calls Try.prog 14 #[.int .i64 op, .int .u32 a, .int .u32 b] w fun e w' => e = .returned (.int .u32 (opR .u32 op a b)) ∧ w' = w := by
  go_enter Try.func14, Try.ntmps14
  go_wp2_with (go_at_call 36; refine (reckon32 _ _ _ _).mono ?_; rintro e w' ⟨rfl, rfl⟩)
  go_ret
  exact ⟨rfl, rfl⟩

end Go.Proofs.Ytcmnmogmdhofcaa.num
