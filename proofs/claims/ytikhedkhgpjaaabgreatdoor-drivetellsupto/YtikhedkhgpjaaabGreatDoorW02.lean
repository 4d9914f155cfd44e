/- What loanbookref2.Uses and widths answer. -/
import Derived.Deep.RegionHeld3
import Derived.Deep.DrawnRows
import Derived.Deep.AppendLies
import Derived.BigQuiet
import Derived.WalkSmall
import Derived.Deep.QuietTactic
import Derived.Deep.DeepCutAuto
import Derived.Test.YtikhedkhgpjaaabGreatDoorW01

namespace Go.Proofs.YtikhedkhgpjaaabGreatDoor
set_option linter.unusedVariables false
namespace form
open Go.RowKit
attribute [local go_sem ↓] Go.wp_at_zero Go.wp_at_succ
theorem many_of (op : Int) : manyI op = 0 ∨ manyI op = 1 ∨ manyI op = 2 := by
  unfold manyI; split; exact Or.inl rfl; split; exact Or.inr (Or.inl rfl); exact Or.inr (Or.inr rfl)
def bw (B : List Bool) (x : Int) : Bool := B.getD x.toNat false
def wl0 (B : List Bool) (i : LIns) : List Bool := if givesB i.op then [bw B i.dest] else []
def wl1 (B : List Bool) (i : LIns) (k : Nat) : List Bool := ([bw B i.a, bw B i.b] : List Bool).take k
def wl (B : List Bool) (i : LIns) : List Bool := wl0 B i ++ wl1 B i (manyI i.op).toNat
def widthsB (B : List Bool) (i : LIns) : Bool :=
  if i.op = 2 then (wl B i).getD 0 false == (wl B i).getD 1 false
  else if i.op = 5 then (wl B i).getD 0 false && !(wl B i).getD 1 false && !(wl B i).getD 2 false
  else if i.op = 6 ∨ i.op = 7 then !(wl B i).getD 0 false && (wl B i).getD 1 false
  else (wl B i).all (fun x => x == decide (40 < i.op))
end form
/- What loanbookref2.ins answers. -/
namespace form
open Go.RowKit
attribute [local go_sem ↓] Go.wp_at_zero Go.wp_at_succ
def fieldB (B : List Bool) (there : Bool) (f : Int) : Bool := if there then decide (0 ≤ f) && decide (f < B.length) else f == 0
def lineB (nC : Nat) (i : LIns) : Bool := if i.op = 8 ∨ i.op = 9 then decide (0 ≤ i.c) && decide (i.c < nC) else i.c == 0
def insB (B : List Bool) (nC : Nat) (i : LIns) : Bool :=
  knownB i.op && (i.op == 1 || i.n == 0) && fieldB B (givesB i.op) i.dest && fieldB B (decide (0 < manyI i.op)) i.a && fieldB B (decide (1 < manyI i.op)) i.b && lineB nC i && widthsB B i
end form
/- What loanbookref2.May answers. -/
namespace form
open Go.RowKit
attribute [local go_sem ↓] Go.wp_at_zero Go.wp_at_succ
def refMayB (B : List Bool) (C : List LIns) : Bool := sizesB B C && C.all (insB B C.length)
end form
/- Of a program that may be every instruction's fields are within their bounds. -/
namespace form
open Go.RowKit
structure InsOk (nB nC : Nat) (i : LIns) : Prop where
  a0 : 0 ≤ i.a
  a1 : i.a < nB
  b0 : 0 ≤ i.b
  b1 : i.b < nB
  d : givesB i.op = true → 0 ≤ i.dest ∧ i.dest < nB
  c : i.op = 8 ∨ i.op = 9 → 0 ≤ i.c ∧ i.c < nC
  n0 : 0 ≤ i.n
  n1 : i.n < 4294967296
  p0 : 1 ≤ i.op
  p1 : i.op ≤ 45
theorem field_bd {B : List Bool} {t : Bool} {f : Int} (hB : 1 ≤ B.length) (h : fieldB B t f = true) : 0 ≤ f ∧ f < B.length := by
  unfold fieldB at h
  cases t <;> simp at h <;> omega
theorem insOk {B : List Bool} {nC : Nat} {i : LIns} (hB : 1 ≤ B.length) (h : insB B nC i = true) (hn0 : 0 ≤ i.n) (hn1 : i.n < 4294967296) : InsOk B.length nC i := by
  unfold insB at h
  simp only [Bool.and_eq_true] at h
  obtain ⟨⟨⟨⟨⟨⟨hk, _⟩, hd⟩, ha⟩, hb⟩, hl⟩, _⟩ := h
  have hk2 : 1 ≤ i.op ∧ i.op ≤ 45 := by unfold knownB at hk; simp at hk; omega
  refine ⟨(field_bd hB ha).1, (field_bd hB ha).2, (field_bd hB hb).1, (field_bd hB hb).2, fun _ => field_bd hB hd, fun hop => ?_, hn0, hn1, hk2.1, hk2.2⟩
  unfold lineB at hl
  rw [if_pos hop] at hl
  simpa using hl
theorem all_insOk {B : List Bool} {C : List LIns} (h : refMayB B C = true) (hn : ∀ i, i < C.length → 0 ≤ (C.getD i .zero).n ∧ (C.getD i .zero).n < 4294967296) : ∀ k, k < C.length → InsOk B.length C.length (C.getD k .zero) := by
  unfold refMayB at h
  simp only [Bool.and_eq_true] at h
  obtain ⟨s1, s2, s3, s4⟩ := sizes_of h.1
  intro k hk
  refine insOk s1 ?_ (hn k hk).1 (hn k hk).2
  have := List.all_eq_true.1 h.2 (C.getD k .zero) (by simp [List.getD, hk])
  exact this
end form
end Go.Proofs.YtikhedkhgpjaaabGreatDoor
