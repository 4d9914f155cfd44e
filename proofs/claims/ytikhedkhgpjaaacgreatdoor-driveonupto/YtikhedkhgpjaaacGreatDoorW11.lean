/- How many bytes (loanbookkeep: line). -/
import Derived.Test.YtikhedkhgpjaaacGreatDoorW09
import Derived.Test.YtikhedkhgpjaaacGreatDoorW10
import Derived.Test.YtikhedkhgpjaaacGreatDoorW07
import Derived.Test.YtikhedkhgpjaaacGreatDoorW04

namespace Go.Proofs.YtikhedkhgpjaaacGreatDoor
set_option linter.unusedVariables false
namespace form
open Go.RowKit
set_option maxRecDepth 100000
attribute [local go_sem ↓] Go.wp_at_zero Go.wp_at_succ
attribute [local go_sem] str_size str_list ByteArray.toList_mk
end form
/- A line with another word (loanbookkeep: line). -/
namespace form
open Go.RowKit
set_option maxRecDepth 100000
attribute [local go_sem ↓] Go.wp_at_zero Go.wp_at_succ
attribute [local go_sem] str_size str_list ByteArray.toList_mk
end form
/- Whatever the line (loanbookkeep: line). -/
namespace form
open Go.RowKit
structure LayLen (L : Lay) : Prop where
  ro : ∀ B C I st, (L.run B C I st).out.length ≤ 1000000
  oo : ∀ B C s I st, (L.on B C s I st).out.length ≤ 1000000
  n1 : ∀ B C, (L.near B C).1 < 9223372036854775808
  n2 : ∀ B C, (L.near B C).2 < 9223372036854775808
  b1 : ∀ B C s, (L.bytes B C s).1 < 9223372036854775808
  b2 : ∀ B C s, (L.bytes B C s).2 < 9223372036854775808
theorem said1_len (wd : List UInt8) {x : Nat} (h : x < 18446744073709551616) : (saidL wd [x]).length ≤ wd.length + 21 := by
  have := saidL_len wd [x] (fun y hy => by have : y = x := (by simpa using hy); omega)
  simpa using this
theorem shownL_len {r : RunR} (hr : RunOk r) (ho : r.out.length ≤ 1000000) : (shownL r).length ≤ 21000041 := by
  unfold shownL
  split
  · have h1 := saidL_lenO (saidL (digitsL r.state.toNat) [r.steps.toNat]) r.out hr.o
    have h2 := said1_len (digitsL r.state.toNat) (x := r.steps.toNat) (by have := hr.k1; omega)
    have h3 := digits_small (n := r.state.toNat) (by have := hr.s1; omega)
    omega
  · have h2 := said1_len sBad (x := r.err.toNat) (by have := hr.e1; omega)
    have : sBad.length = 3 := rfl
    omega
theorem countL_len {r : Int × Nat} (h1 : r.1 < 9223372036854775808) (h2 : r.2 < 9223372036854775808) : (countL r).length ≤ 24 := by
  unfold countL
  split
  · have := digits_small (n := r.2) (by omega)
    omega
  · have h3 := said1_len sBad (x := r.1.toNat) (by omega)
    have : sBad.length = 3 := rfl
    omega
theorem line_len {L : Lay} (hL : LayIs L) (hN : LayLen L) {g : PL} (hw : g.wide.length ≤ 12) (hc : g.code.length ≤ 40) (hoc : ∀ i, i ∈ g.code → 0 ≤ i.n ∧ i.n < 4294967296) (hoi : ∀ x, x ∈ g.ins → 0 ≤ x ∧ x < 4294967296) {s : List UInt8} (hs : s.length ≤ 2000000) : (lineL L g s).2.length ≤ 21000041 := by
  have hok : ∀ n : Nat, n < 18446744073709551616 → (saidL sOk [n]).length ≤ 21000041 := fun n h => by
    have h2 := said1_len sOk h
    have : sOk.length = 2 := rfl
    omega
  have hno : sNo.length ≤ 21000041 := by decide
  unfold lineL
  cases hn : numsOf (splitL 32 s).tail with
  | none => exact hno
  | some l =>
    have hl : l.length ≤ 2000001 := by
      have h1 := splitL_len 32 s
      have h2 : ∀ (ps : List (List UInt8)) (l : List Nat), numsOf ps = some l → l.length = ps.length := by
        intro ps
        induction ps with
        | nil => intro l h; unfold numsOf at h; cases h; rfl
        | cons p ps ih =>
          intro l h
          unfold numsOf at h
          cases hp : numL p with
          | none => rw [hp] at h; simp at h
          | some x =>
            cases hq : numsOf ps with
            | none => rw [hp, hq] at h; simp at h
            | some k =>
              rw [hp, hq] at h
              simp at h
              subst h
              simp [ih k hq]
      have h3 := h2 _ l hn
      simp at h3
      omega
    show (wordL L g s l).2.length ≤ _
    unfold wordL
    split
    · split
      · exact hno
      · exact hok _ (by omega)
    split
    · have := countL_len (hN.n1 g.wide g.code) (hN.n2 g.wide g.code)
      show (countL _).length ≤ _
      omega
    dsimp only
    split
    · split
      · exact hok _ (by omega)
      · exact hno
    split
    · exact hok _ (by omega)
    split
    · split
      · exact shownL_len (hL.rok _ _ _ _ hoc hoi) (hN.ro _ _ _ _)
      · exact hno
    split
    · split
      · exact shownL_len (hL.ook _ _ _ _ _ hoc hoi) (hN.oo _ _ _ _ _)
      · exact hno
    split
    · split
      · have := countL_len (hN.b1 g.wide g.code (l.getD 0 0 : Nat)) (hN.b2 g.wide g.code (l.getD 0 0 : Nat))
        show (countL _).length ≤ _
        omega
      · exact hno
    exact hno
end form
/- The machine on plain numbers keeps within its bounds, step by step. -/
namespace form
open Go.RowKit num
theorem u64_wrap (x : Int) : U64i (IntKind.u64.wrap x) := by
  have e : IntKind.u64.wrap x = x % 18446744073709551616 := by simp [IntKind.wrap, IntKind.bits, IntKind.signed]
  unfold U64i
  rw [e]
  omega
theorem gvI_bd (i : LIns) (a b x : Int) (ha : U64i a) (hb : U64i b) (hx0 : 0 ≤ x) (hx1 : x < 4294967296) (hn0 : 0 ≤ i.n) (hn1 : i.n < 4294967296) : U64i (gvI i a b x) := by
  unfold gvI
  split
  · exact ⟨hn0, by omega⟩
  split
  · exact ha
  split
  · exact ⟨hx0, by omega⟩
  split
  · exact u64_wrap _
  split
  · have := ha.1; have := ha.2; exact ⟨by omega, by omega⟩
  split
  · have := ha.1; have := ha.2; exact ⟨by omega, by omega⟩
  split
  · exact opR_u64_bd _ _ _ ha.1 ha.2 hb.1 hb.2
  · have := opR_u32_bd (i.op - 20) a b; exact ⟨this.1, by omega⟩
theorem getD_set_bd {l : List Int} {k : Nat} {x : Int} (h : ∀ j, U64i (l.getD j 0)) (hx : U64i x) : ∀ j, U64i ((l.set k x).getD j 0) := by
  intro j
  by_cases hj : j < l.length
  · by_cases hk : k = j
    · subst hk; simpa [List.getD, hj] using hx
    · have := h j
      simpa [List.getD, hj, List.getElem_set, hk] using this
  · have : (l.set k x).getD j 0 = 0 := by simp [List.getD, List.getElem?_eq_none (show (l.set k x).length ≤ j by simp; omega)]
    rw [this]; exact ⟨by omega, by omega⟩
theorem inOf_bd {ins : List Int} (h : ∀ j, j < ins.length → 0 ≤ ins.getD j 0 ∧ ins.getD j 0 < 4294967296) (k : Nat) : 0 ≤ inOf ins k ∧ inOf ins k < 4294967296 := by
  unfold inOf
  by_cases hk : k < ins.length
  · exact h k hk
  · rw [show ins.getD k 0 = 0 by simp [List.getD, List.getElem?_eq_none (show ins.length ≤ k by omega)]]; omega
end form
end Go.Proofs.YtikhedkhgpjaaacGreatDoor
