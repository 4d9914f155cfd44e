/- What is needed, on plain numbers: the least truths; a search that is closed finds them; rows of truths in memory. -/
import Derived.WalkKit
import Derived.Laws.BitsAllLaws
import Derived.Test.YtikhedkhgpjaaabGreatDoorW02

namespace Go.Proofs.YtikhedkhgpjaaabGreatDoor
set_option linter.unusedVariables false
namespace form
open Go.RowKit
def usesI (i : LIns) : List Int := ([i.a, i.b] : List Int).take (manyI i.op).toNat
def takesI (i : LIns) (t : Int) : Bool := (usesI i).contains t
def givesT (i : LIns) (t : Int) : Bool := givesB i.op && (i.dest == t)
def nextsI (i : LIns) (pc : Nat) : List Int := if i.op = 8 then [i.c] else if i.op = 10 then [] else if i.op = 9 then [(pc : Int) + 1, i.c] else [(pc : Int) + 1]
def nextsN (i : LIns) (pc : Nat) : List Nat := (nextsI i pc).map Int.toNat
def NeedN (C : List LIns) (t : Int) : Nat → Nat → Prop
  | 0, _ => False
  | n + 1, k => k < C.length ∧ (takesI (C.getD k .zero) t = true ∨ (givesT (C.getD k .zero) t = false ∧ ∃ x, x ∈ nextsN (C.getD k .zero) k ∧ NeedN C t n x))
def Need (C : List LIns) (t : Int) (k : Nat) : Prop := ∃ n, NeedN C t n k
theorem need_iff (C : List LIns) (t : Int) (k : Nat) :
    Need C t k ↔ k < C.length ∧ (takesI (C.getD k .zero) t = true ∨ (givesT (C.getD k .zero) t = false ∧ ∃ x, x ∈ nextsN (C.getD k .zero) k ∧ Need C t x)) := by
  constructor
  · rintro ⟨n, hn⟩
    cases n with
    | zero => exact hn.elim
    | succ n =>
      refine ⟨hn.1, hn.2.imp id (fun h => ⟨h.1, ?_⟩)⟩
      obtain ⟨x, hx, hn⟩ := h.2
      exact ⟨x, hx, n, hn⟩
  · rintro ⟨hk, h | ⟨hg, x, hx, n, hn⟩⟩
    · exact ⟨1, hk, Or.inl h⟩
    · exact ⟨n + 1, hk, Or.inr ⟨hg, x, hx, hn⟩⟩
theorem need_lt {C : List LIns} {t : Int} {k : Nat} (h : Need C t k) : k < C.length := ((need_iff C t k).1 h).1
theorem need_least (C : List LIns) (t : Int) (P : Nat → Prop)
    (h : ∀ k, k < C.length → (takesI (C.getD k .zero) t = true ∨ (givesT (C.getD k .zero) t = false ∧ ∃ x, x ∈ nextsN (C.getD k .zero) k ∧ P x)) → P k) : ∀ k, Need C t k → P k := by
  have hn : ∀ n k, NeedN C t n k → P k := by
    intro n
    induction n with
    | zero => exact fun k hk => hk.elim
    | succ n ih =>
      intro k hk
      refine h k hk.1 (hk.2.imp id (fun h2 => ⟨h2.1, ?_⟩))
      obtain ⟨x, hx, hxn⟩ := h2.2
      exact ⟨x, hx, ih x hxn⟩
  rintro k ⟨n, hk⟩
  exact hn n k hk
theorem nexts_len (i : LIns) (pc : Nat) : (nextsI i pc).length ≤ 2 := by
  unfold nextsI
  split
  · simp
  split
  · simp
  split <;> simp
theorem nexts_bd {nB nC : Nat} {i : LIns} (hi : InsOk nB nC i) {pc : Nat} (hpc : pc < nC) : ∀ x, x ∈ nextsI i pc → 0 ≤ x ∧ x ≤ nC := by
  intro x hx
  unfold nextsI at hx
  split at hx
  · rename_i h8
    have := hi.c (Or.inl h8)
    simp at hx
    omega
  split at hx
  · simp at hx
  split at hx
  · rename_i h9
    have := hi.c (Or.inr h9)
    simp at hx
    omega
  · simp at hx
    omega
end form
/- A search along the ways of a program, on plain numbers: what it has come to, and what it has done with. -/
namespace form
open Go.RowKit
theorem count_mark (l : List Bool) (y : Nat) (hy : y < l.length) (h : l.getD y false = false) : (l.set y true).count true = l.count true + 1 := by
  have e : l[y] = false := by simpa [List.getD, hy] using h
  rw [List.count_set hy]
  simp [e]
end form
/- Where an instruction goes on (loanbookref2.Nexts). -/
namespace form
open Go.RowKit
attribute [local go_sem ↓] Go.wp_at_zero Go.wp_at_succ
def IntsAt (lo : Nat) (w : World) (v : Value) (l : List Int) : Prop :=
  ∃ ao cap, v = .slice ao l.length cap ∧ (0 < l.length → ∃ b, ao = some ⟨b, 0, none⟩ ∧ lo ≤ b ∧ b < w.heap.size ∧ ∀ j, j < l.length → w.cell? ⟨b, j, none⟩ = some (.int .i64 (l.getD j 0)))
theorem ints_one {lo : Nat} {w : World} {b : Nat} {x : Int} {cap : Nat} (hlo : lo ≤ b) (h : w.cell? ⟨b, 0, none⟩ = some (.int .i64 x)) : IntsAt lo w (.slice (some ⟨b, 0, none⟩) 1 cap) [x] :=
  ⟨_, _, rfl, fun _ => ⟨b, rfl, hlo, World.block_lt_of_cell? w _ h, fun j hj => by
    obtain rfl : j = 0 := by simp at hj; omega
    simpa using h⟩⟩
theorem ints_two {lo : Nat} {w : World} {b : Nat} {x y : Int} {cap : Nat} (hlo : lo ≤ b) (h : w.cell? ⟨b, 0, none⟩ = some (.int .i64 x)) (g : w.cell? ⟨b, 1, none⟩ = some (.int .i64 y)) : IntsAt lo w (.slice (some ⟨b, 0, none⟩) 2 cap) [x, y] :=
  ⟨_, _, rfl, fun _ => ⟨b, rfl, hlo, World.block_lt_of_cell? w _ h, fun j hj => by
    rcases (show j = 0 ∨ j = 1 by simp at hj; omega) with rfl | rfl
    · simpa using h
    · simpa using g⟩⟩
theorem takes_of (i : LIns) (m : Nat) (hm : manyI i.op = m) (hm2 : m ≤ 2) (t : Int) : takesI i t = (decide (0 < m) && (i.a == t) || decide (1 < m) && (i.b == t)) := by
  unfold takesI usesI
  rw [hm]
  rcases (show m = 0 ∨ m = 1 ∨ m = 2 by omega) with rfl | rfl | rfl
  · simp
  · rw [Bool.eq_iff_iff]; simp; omega
  · rw [Bool.eq_iff_iff]; simp; omega
end form
/- Plain facts on numbers of 32 and 64 bits: what each operation comes to, and the document's bit-by-bit reckoning; no program in sight. -/
namespace num
def opR (k : IntKind) (op a b : Int) : Int :=
  if op == 1 then k.wrap (a + b) else if op == 2 then k.wrap (a - b) else if op == 3 then k.wrap (a * b)
  else if op == 4 then bits .and k a b else if op == 5 then bits .xor k a b
  else if op == 6 then (if a < b then 1 else 0) else 0
def natBit (and : Bool) (x y : Nat) : Nat := if and then x &&& y else x ^^^ y
def Inv (and : Bool) (x y i a b n p : Nat) : Prop :=
  a = x / 2 ^ i ∧ b = y / 2 ^ i ∧ n = natBit and x y % 2 ^ i ∧ p = 2 ^ i % 18446744073709551616
theorem wrap_u64_nat (n : Nat) : IntKind.u64.wrap (n : Int) = ((n % 18446744073709551616 : Nat) : Int) := by
  rw [IntKind.wrap_u64]; rfl
theorem u32_bit_lt (x y : Nat) (hx : x < 4294967296) (hy : y < 4294967296) : x &&& y < 4294967296 ∧ x ^^^ y < 4294967296 :=
  ⟨Nat.and_lt_two_pow (n := 32) x hy, Nat.xor_lt_two_pow (n := 32) hx hy⟩
theorem opR_cut (op a b : Int) (ha : 0 ≤ a) (ha' : a < 4294967296) (hb : 0 ≤ b) (hb' : b < 4294967296) : opR .u64 op a b % 4294967296 = opR .u32 op a b := by
  obtain ⟨x, rfl⟩ := Int.eq_ofNat_of_zero_le ha
  obtain ⟨y, rfl⟩ := Int.eq_ofNat_of_zero_le hb
  have hl := u32_bit_lt x y (by omega) (by omega)
  unfold opR
  rw [u64_and_nat x y (by omega) (by omega), u64_xor_nat x y (by omega) (by omega), u32_and_nat x y (by omega) (by omega), u32_xor_nat x y (by omega) (by omega)]
  rw [IntKind.wrap_u64, IntKind.wrap_u64, IntKind.wrap_u64, IntKind.wrap_u32', IntKind.wrap_u32', IntKind.wrap_u32']
  generalize x &&& y = p at *
  generalize x ^^^ y = q at *
  generalize (x : Int) * (y : Int) = m at *
  split
  · omega
  split
  · omega
  split
  · omega
  split
  · omega
  split
  · omega
  split
  · split <;> rfl
  · rfl
theorem opR_u64_bd (op a b : Int) (ha : 0 ≤ a) (ha' : a < 18446744073709551616) (hb : 0 ≤ b) (hb' : b < 18446744073709551616) : 0 ≤ opR .u64 op a b ∧ opR .u64 op a b < 18446744073709551616 := by
  obtain ⟨x, rfl⟩ := Int.eq_ofNat_of_zero_le ha
  obtain ⟨y, rfl⟩ := Int.eq_ofNat_of_zero_le hb
  have h1 : x &&& y < 18446744073709551616 := Nat.and_lt_two_pow (n := 64) x (by omega)
  have h2 : x ^^^ y < 18446744073709551616 := Nat.xor_lt_two_pow (n := 64) (by omega) (by omega)
  unfold opR
  rw [u64_and_nat x y (by omega) (by omega), u64_xor_nat x y (by omega) (by omega)]
  rw [IntKind.wrap_u64, IntKind.wrap_u64, IntKind.wrap_u64]
  generalize x &&& y = p at *
  generalize x ^^^ y = q at *
  generalize (x : Int) * (y : Int) = m at *
  split
  · omega
  split
  · omega
  split
  · omega
  split
  · omega
  split
  · omega
  split
  · split <;> omega
  · omega
end num
end Go.Proofs.YtikhedkhgpjaaabGreatDoor
