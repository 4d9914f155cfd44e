/- What loanbookref2.ins answers. -/
import Derived.Deep.DeepCutAuto
import Derived.Test.YtikhedkhgpjaaacGreatDoorW03

namespace Go.Proofs.YtikhedkhgpjaaacGreatDoor
set_option linter.unusedVariables false
namespace form
open Go.RowKit
attribute [local go_sem ↓] Go.wp_at_zero Go.wp_at_succ
def fieldB (B : List Bool) (there : Bool) (f : Int) : Bool := if there then decide (0 ≤ f) && decide (f < B.length) else f == 0
def lineB (nC : Nat) (i : LIns) : Bool := if i.op = 8 ∨ i.op = 9 then decide (0 ≤ i.c) && decide (i.c < nC) else i.c == 0
def insB (B : List Bool) (nC : Nat) (i : LIns) : Bool :=
  knownB i.op && (i.op == 1 || i.n == 0) && fieldB B (givesB i.op) i.dest && fieldB B (decide (0 < manyI i.op)) i.a && fieldB B (decide (1 < manyI i.op)) i.b && lineB nC i && widthsB B i
end form
/- What loanbookref2.May answers. -/
namespace form
open Go.RowKit
attribute [local go_sem ↓] Go.wp_at_zero Go.wp_at_succ
def refMayB (B : List Bool) (C : List LIns) : Bool := sizesB B C && C.all (insB B C.length)
end form
/- Of a program that may be every instruction's fields are within their bounds. -/
namespace form
open Go.RowKit
structure InsOk (nB nC : Nat) (i : LIns) : Prop where
  a0 : 0 ≤ i.a
  a1 : i.a < nB
  b0 : 0 ≤ i.b
  b1 : i.b < nB
  d : givesB i.op = true → 0 ≤ i.dest ∧ i.dest < nB
  c : i.op = 8 ∨ i.op = 9 → 0 ≤ i.c ∧ i.c < nC
  n0 : 0 ≤ i.n
  n1 : i.n < 4294967296
  p0 : 1 ≤ i.op
  p1 : i.op ≤ 45
theorem field_bd {B : List Bool} {t : Bool} {f : Int} (hB : 1 ≤ B.length) (h : fieldB B t f = true) : 0 ≤ f ∧ f < B.length := by
  unfold fieldB at h
  cases t <;> simp at h <;> omega
theorem insOk {B : List Bool} {nC : Nat} {i : LIns} (hB : 1 ≤ B.length) (h : insB B nC i = true) (hn0 : 0 ≤ i.n) (hn1 : i.n < 4294967296) : InsOk B.length nC i := by
  unfold insB at h
  simp only [Bool.and_eq_true] at h
  obtain ⟨⟨⟨⟨⟨⟨hk, _⟩, hd⟩, ha⟩, hb⟩, hl⟩, _⟩ := h
  have hk2 : 1 ≤ i.op ∧ i.op ≤ 45 := by unfold knownB at hk; simp at hk; omega
  refine ⟨(field_bd hB ha).1, (field_bd hB ha).2, (field_bd hB hb).1, (field_bd hB hb).2, fun _ => field_bd hB hd, fun hop => ?_, hn0, hn1, hk2.1, hk2.2⟩
  unfold lineB at hl
  rw [if_pos hop] at hl
  simpa using hl
theorem all_insOk {B : List Bool} {C : List LIns} (h : refMayB B C = true) (hn : ∀ i, i < C.length → 0 ≤ (C.getD i .zero).n ∧ (C.getD i .zero).n < 4294967296) : ∀ k, k < C.length → InsOk B.length C.length (C.getD k .zero) := by
  unfold refMayB at h
  simp only [Bool.and_eq_true] at h
  obtain ⟨s1, s2, s3, s4⟩ := sizes_of h.1
  intro k hk
  refine insOk s1 ?_ (hn k hk).1 (hn k hk).2
  have := List.all_eq_true.1 h.2 (C.getD k .zero) (by simp [List.getD, hk])
  exact this
end form
/- What is needed, on plain numbers: the least truths; a search that is closed finds them; rows of truths in memory. -/
namespace form
open Go.RowKit
def usesI (i : LIns) : List Int := ([i.a, i.b] : List Int).take (manyI i.op).toNat
def takesI (i : LIns) (t : Int) : Bool := (usesI i).contains t
def givesT (i : LIns) (t : Int) : Bool := givesB i.op && (i.dest == t)
def nextsI (i : LIns) (pc : Nat) : List Int := if i.op = 8 then [i.c] else if i.op = 10 then [] else if i.op = 9 then [(pc : Int) + 1, i.c] else [(pc : Int) + 1]
def nextsN (i : LIns) (pc : Nat) : List Nat := (nextsI i pc).map Int.toNat
def NeedN (C : List LIns) (t : Int) : Nat → Nat → Prop
  | 0, _ => False
  | n + 1, k => k < C.length ∧ (takesI (C.getD k .zero) t = true ∨ (givesT (C.getD k .zero) t = false ∧ ∃ x, x ∈ nextsN (C.getD k .zero) k ∧ NeedN C t n x))
def Need (C : List LIns) (t : Int) (k : Nat) : Prop := ∃ n, NeedN C t n k
theorem need_iff (C : List LIns) (t : Int) (k : Nat) :
    Need C t k ↔ k < C.length ∧ (takesI (C.getD k .zero) t = true ∨ (givesT (C.getD k .zero) t = false ∧ ∃ x, x ∈ nextsN (C.getD k .zero) k ∧ Need C t x)) := by
  constructor
  · rintro ⟨n, hn⟩
    cases n with
    | zero => exact hn.elim
    | succ n =>
      refine ⟨hn.1, hn.2.imp id (fun h => ⟨h.1, ?_⟩)⟩
      obtain ⟨x, hx, hn⟩ := h.2
      exact ⟨x, hx, n, hn⟩
  · rintro ⟨hk, h | ⟨hg, x, hx, n, hn⟩⟩
    · exact ⟨1, hk, Or.inl h⟩
    · exact ⟨n + 1, hk, Or.inr ⟨hg, x, hx, hn⟩⟩
theorem need_lt {C : List LIns} {t : Int} {k : Nat} (h : Need C t k) : k < C.length := ((need_iff C t k).1 h).1
theorem need_least (C : List LIns) (t : Int) (P : Nat → Prop)
    (h : ∀ k, k < C.length → (takesI (C.getD k .zero) t = true ∨ (givesT (C.getD k .zero) t = false ∧ ∃ x, x ∈ nextsN (C.getD k .zero) k ∧ P x)) → P k) : ∀ k, Need C t k → P k := by
  have hn : ∀ n k, NeedN C t n k → P k := by
    intro n
    induction n with
    | zero => exact fun k hk => hk.elim
    | succ n ih =>
      intro k hk
      refine h k hk.1 (hk.2.imp id (fun h2 => ⟨h2.1, ?_⟩))
      obtain ⟨x, hx, hxn⟩ := h2.2
      exact ⟨x, hx, ih x hxn⟩
  rintro k ⟨n, hk⟩
  exact hn n k hk
theorem nexts_len (i : LIns) (pc : Nat) : (nextsI i pc).length ≤ 2 := by
  unfold nextsI
  split
  · simp
  split
  · simp
  split <;> simp
theorem nexts_bd {nB nC : Nat} {i : LIns} (hi : InsOk nB nC i) {pc : Nat} (hpc : pc < nC) : ∀ x, x ∈ nextsI i pc → 0 ≤ x ∧ x ≤ nC := by
  intro x hx
  unfold nextsI at hx
  split at hx
  · rename_i h8
    have := hi.c (Or.inl h8)
    simp at hx
    omega
  split at hx
  · simp at hx
  split at hx
  · rename_i h9
    have := hi.c (Or.inr h9)
    simp at hx
    omega
  · simp at hx
    omega
end form
end Go.Proofs.YtikhedkhgpjaaacGreatDoor
