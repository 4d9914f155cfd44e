/- What the functions on numbers come to: the document's. -/
import Derived.Test.YtcmnmogmdhofcaaGreatProg
import Derived.OwnWalk
import Derived.Below
import Derived.Test.YtcmnmogmdhofcaaGreatF02
import Derived.Test.YtcmnmogmdhofcaaGreatF01

namespace Go.Proofs.YtcmnmogmdhofcaaGreat.num
open Go.RowKit

theorem ret_int {k : IntKind} {a b : Int} (h : a = b) : Ending.returned (.int k a) = .returned (.int k b) := by rw [h]

end Go.Proofs.YtcmnmogmdhofcaaGreat.num

/- What the document's functions on runs answer: Wrong, Gives, Next, Same. -/
namespace Go.Proofs.YtcmnmogmdhofcaaGreat.form
open Go.RowKit Go.Proofs.YtcmnmogmdhofcaaGreat.num
set_option linter.unusedVariables false
attribute [local go_sem ↓] Go.wp_at_zero Go.wp_at_succ

end Go.Proofs.YtcmnmogmdhofcaaGreat.form

/- Of a program that may be every instruction's fields are within their bounds. -/
namespace Go.Proofs.YtcmnmogmdhofcaaGreat.form
open Go.RowKit
set_option linter.unusedVariables false

structure InsOk (nB nC : Nat) (i : LIns) : Prop where
  a0 : 0 ≤ i.a
  a1 : i.a < nB
  b0 : 0 ≤ i.b
  b1 : i.b < nB
  d : givesB i.op = true → 0 ≤ i.dest ∧ i.dest < nB
  c : i.op = 8 ∨ i.op = 9 → 0 ≤ i.c ∧ i.c < nC
  n0 : 0 ≤ i.n
  n1 : i.n < 4294967296
  p0 : 1 ≤ i.op
  p1 : i.op ≤ 45

theorem field_bd {B : List Bool} {t : Bool} {f : Int} (hB : 1 ≤ B.length) (h : fieldB B t f = true) : 0 ≤ f ∧ f < B.length := by
  unfold fieldB at h
  cases t <;> simp at h <;> omega

theorem insOk {B : List Bool} {nC : Nat} {i : LIns} (hB : 1 ≤ B.length) (h : insB B nC i = true) (hn0 : 0 ≤ i.n) (hn1 : i.n < 4294967296) : InsOk B.length nC i := by
  unfold insB at h
  simp only [Bool.and_eq_true] at h
  obtain ⟨⟨⟨⟨⟨⟨hk, _⟩, hd⟩, ha⟩, hb⟩, hl⟩, _⟩ := h
  have hk2 : 1 ≤ i.op ∧ i.op ≤ 45 := by unfold knownB at hk; simp at hk; omega
  refine ⟨(field_bd hB ha).1, (field_bd hB ha).2, (field_bd hB hb).1, (field_bd hB hb).2, fun _ => field_bd hB hd, fun hop => ?_, hn0, hn1, hk2.1, hk2.2⟩
  unfold lineB at hl
  rw [if_pos hop] at hl
  simpa using hl

theorem all_insOk {B : List Bool} {C : List LIns} (h : refMayB B C = true) (hn : ∀ i, i < C.length → 0 ≤ (C.getD i .zero).n ∧ (C.getD i .zero).n < 4294967296) : ∀ k, k < C.length → InsOk B.length C.length (C.getD k .zero) := by
  unfold refMayB at h
  simp only [Bool.and_eq_true] at h
  obtain ⟨s1, s2, s3, s4⟩ := sizes_of h.1
  intro k hk
  refine insOk s1 ?_ (hn k hk).1 (hn k hk).2
  have := List.all_eq_true.1 h.2 (C.getD k .zero) (by simp [List.getD, hk])
  exact this

end Go.Proofs.YtcmnmogmdhofcaaGreat.form

/- The machine on plain numbers keeps within its bounds, step by step. -/
namespace Go.Proofs.YtcmnmogmdhofcaaGreat.form
open Go.RowKit Go.Proofs.YtcmnmogmdhofcaaGreat.num
set_option linter.unusedVariables false
end Go.Proofs.YtcmnmogmdhofcaaGreat.form
