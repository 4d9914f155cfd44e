/- Plain facts on numbers of 32 and 64 bits: what each operation comes to, and the document's bit-by-bit reckoning; no program in sight. -/
import Derived.WalkKit
import Derived.Laws.BitsAllLaws
import Derived.Below
import Derived.OwnWalk
import Derived.Test.YtcmnmogmdhofcaaProg

namespace Go.Proofs.Ytcmnmogmdhofcaa.num

/-- what comes of two numbers of a kind, by the operation's number -/
def opR (k : IntKind) (op a b : Int) : Int :=
  if op == 1 then k.wrap (a + b) else if op == 2 then k.wrap (a - b) else if op == 3 then k.wrap (a * b)
  else if op == 4 then bits .and k a b else if op == 5 then bits .xor k a b
  else if op == 6 then (if a < b then 1 else 0) else 0

/-- the two bitwise operations on plain numbers -/
def natBit (and : Bool) (x y : Nat) : Nat := if and then x &&& y else x ^^^ y

/-- ahead of round i of the bit-by-bit loop -/
def Inv (and : Bool) (x y i a b n p : Nat) : Prop :=
  a = x / 2 ^ i ∧ b = y / 2 ^ i ∧ n = natBit and x y % 2 ^ i ∧ p = 2 ^ i % 18446744073709551616

theorem Inv.start (and : Bool) (x y : Nat) : Inv and x y 0 x y 0 1 := by
  refine ⟨by simp, by simp, by simp [Nat.mod_one], by decide⟩

theorem Inv.fin {and : Bool} {x y a b n p : Nat} (hx : x < 18446744073709551616) (hy : y < 18446744073709551616) (h : Inv and x y 64 a b n p) : n = natBit and x y := by
  have h3 := h.2.2.1
  have hlt : natBit and x y < 2 ^ 64 := by
    have hx' : x < 2 ^ 64 := by simpa using hx
    have hy' : y < 2 ^ 64 := by simpa using hy
    unfold natBit
    cases and
    · simpa using Nat.xor_lt_two_pow hx' hy'
    · simpa using Nat.and_lt_two_pow x hy'
  rw [h3, Nat.mod_eq_of_lt hlt]

/-- is the bit at this place one of the answer's? -/
def bitOn (and : Bool) (a b : Nat) : Bool := if and then a % 2 + b % 2 == 2 else a % 2 != b % 2

theorem natBit_testBit (and : Bool) (x y i : Nat) : (natBit and x y).testBit i = bitOn and (x / 2 ^ i) (y / 2 ^ i) := by
  have h1 := Nat.mod_two_eq_zero_or_one (x / 2 ^ i)
  have h2 := Nat.mod_two_eq_zero_or_one (y / 2 ^ i)
  unfold natBit bitOn
  cases and
  · simp only [Bool.false_eq_true, if_false]
    rw [Nat.testBit_xor, Nat.testBit_eq_decide_div_mod_eq, Nat.testBit_eq_decide_div_mod_eq]
    rcases h1 with h1 | h1 <;> rcases h2 with h2 | h2 <;> simp [h1, h2]
  · simp only [if_true]
    rw [Nat.testBit_and, Nat.testBit_eq_decide_div_mod_eq, Nat.testBit_eq_decide_div_mod_eq]
    rcases h1 with h1 | h1 <;> rcases h2 with h2 | h2 <;> simp [h1, h2]

theorem Inv.bound {and : Bool} {x y i a b n p : Nat} (hx : x < 18446744073709551616) (hy : y < 18446744073709551616) (hi : i < 64) (h : Inv and x y i a b n p) :
    a < 18446744073709551616 ∧ b < 18446744073709551616 ∧ n + p < 18446744073709551616 ∧ p < 18446744073709551616 ∧ p = 2 ^ i := by
  obtain ⟨rfl, rfl, rfl, hp⟩ := h
  have hpw : 2 ^ i ≤ 2 ^ 63 := Nat.pow_le_pow_right (by decide) (by omega)
  have h63 : (2 : Nat) ^ 63 = 9223372036854775808 := by decide
  have hlt : natBit and x y % 2 ^ i < 2 ^ i := Nat.mod_lt _ (Nat.pos_of_ne_zero (by simp))
  rw [Nat.mod_eq_of_lt (by omega)] at hp
  have ha := Nat.div_le_self x (2 ^ i)
  have hb := Nat.div_le_self y (2 ^ i)
  omega

theorem Inv.step {and : Bool} {x y i a b n p : Nat} (hx : x < 18446744073709551616) (hy : y < 18446744073709551616) (hi : i < 64) (h : Inv and x y i a b n p) :
    Inv and x y (i + 1) (a / 2) (b / 2) (n + if bitOn and a b then p else 0) ((p + p) % 18446744073709551616) := by
  have hb := h.bound hx hy hi
  obtain ⟨rfl, rfl, rfl, hp⟩ := h
  obtain ⟨-, -, -, -, hp2⟩ := hb
  subst hp2
  refine ⟨by rw [Nat.pow_succ, Nat.div_div_eq_div_mul], by rw [Nat.pow_succ, Nat.div_div_eq_div_mul], ?_, by rw [Nat.pow_succ]; congr 1; omega⟩
  have hb := natBit_testBit and x y i
  rw [Nat.testBit_eq_decide_div_mod_eq] at hb
  rw [← hb, Nat.pow_succ, Nat.mod_mul]
  rcases Nat.mod_two_eq_zero_or_one (natBit and x y / 2 ^ i) with h | h <;> simp [h]

theorem bitOn_int (and : Bool) (a b : Nat) : bitOn and a b = (if and then ((a : Int) % 2 + (b : Int) % 2 == 2) else ((a : Int) % 2 != (b : Int) % 2)) := by
  unfold bitOn
  cases and
  · simp only [Bool.false_eq_true, if_false]
    rw [Bool.eq_iff_iff]; simp; omega
  · simp only [if_true]
    rw [Bool.eq_iff_iff]; simp; omega

theorem bits_natBit (and : Bool) (x y : Nat) (hx : x < 18446744073709551616) (hy : y < 18446744073709551616) :
    ((natBit and x y : Nat) : Int) = bits (if and then .and else .xor) .u64 (x : Int) (y : Int) := by
  cases and
  · simp [natBit, u64_xor_nat x y hx hy]
  · simp [natBit, u64_and_nat x y hx hy]

theorem wrap_u64_nat (n : Nat) : IntKind.u64.wrap (n : Int) = ((n % 18446744073709551616 : Nat) : Int) := by
  rw [IntKind.wrap_u64]; rfl


theorem u32_bit_lt (x y : Nat) (hx : x < 4294967296) (hy : y < 4294967296) : x &&& y < 4294967296 ∧ x ^^^ y < 4294967296 :=
  ⟨Nat.and_lt_two_pow (n := 32) x hy, Nat.xor_lt_two_pow (n := 32) hx hy⟩

/-- The document reckons narrow numbers as wide ones and cuts them. -/
theorem opR_cut (op a b : Int) (ha : 0 ≤ a) (ha' : a < 4294967296) (hb : 0 ≤ b) (hb' : b < 4294967296) : opR .u64 op a b % 4294967296 = opR .u32 op a b := by
  obtain ⟨x, rfl⟩ := Int.eq_ofNat_of_zero_le ha
  obtain ⟨y, rfl⟩ := Int.eq_ofNat_of_zero_le hb
  have hl := u32_bit_lt x y (by omega) (by omega)
  unfold opR
  rw [u64_and_nat x y (by omega) (by omega), u64_xor_nat x y (by omega) (by omega), u32_and_nat x y (by omega) (by omega), u32_xor_nat x y (by omega) (by omega)]
  rw [IntKind.wrap_u64, IntKind.wrap_u64, IntKind.wrap_u64, IntKind.wrap_u32', IntKind.wrap_u32', IntKind.wrap_u32']
  generalize x &&& y = p at *
  generalize x ^^^ y = q at *
  generalize (x : Int) * (y : Int) = m at *
  split
  · omega
  split
  · omega
  split
  · omega
  split
  · omega
  split
  · omega
  split
  · split <;> rfl
  · rfl

theorem and_low (x y : Nat) : (x &&& y) % 4294967296 = (x % 4294967296) &&& (y % 4294967296) := Nat.and_mod_two_pow (n := 32)
theorem xor_low (x y : Nat) : (x ^^^ y) % 4294967296 = (x % 4294967296) ^^^ (y % 4294967296) := Nat.xor_mod_two_pow (n := 32)
theorem and_high (x y : Nat) : (x &&& y) / 4294967296 = (x / 4294967296) &&& (y / 4294967296) := Nat.and_div_two_pow (n := 32)
theorem xor_high (x y : Nat) : (x ^^^ y) / 4294967296 = (x / 4294967296) ^^^ (y / 4294967296) := Nat.xor_div_two_pow (n := 32)

theorem emod_mul_low (a b : Int) : a * b % 18446744073709551616 % 4294967296 = (a % 4294967296) * (b % 4294967296) % 4294967296 := by
  rw [Int.emod_emod_of_dvd _ (by decide), Int.mul_emod]

/-- The lower half of a sum, difference, product or bitwise one is that of the lower halves. -/
theorem opR_low (op a b : Int) (h1 : 1 ≤ op) (h5 : op ≤ 5) (ha : 0 ≤ a) (ha' : a < 18446744073709551616) (hb : 0 ≤ b) (hb' : b < 18446744073709551616) :
    opR .u64 op a b % 4294967296 = opR .u32 op (a % 4294967296) (b % 4294967296) := by
  obtain ⟨x, rfl⟩ := Int.eq_ofNat_of_zero_le ha
  obtain ⟨y, rfl⟩ := Int.eq_ofNat_of_zero_le hb
  have e1 : ((x : Int) % 4294967296) = ((x % 4294967296 : Nat) : Int) := by omega
  have e2 : ((y : Int) % 4294967296) = ((y % 4294967296 : Nat) : Int) := by omega
  have hm := emod_mul_low x y
  have hal := and_low x y
  have hxl := xor_low x y
  unfold opR
  rw [u64_and_nat x y (by omega) (by omega), u64_xor_nat x y (by omega) (by omega), e1, e2, u32_and_nat _ _ (by omega) (by omega), u32_xor_nat _ _ (by omega) (by omega)]
  rw [IntKind.wrap_u64, IntKind.wrap_u64, IntKind.wrap_u64, IntKind.wrap_u32', IntKind.wrap_u32', IntKind.wrap_u32', ← hal, ← hxl]
  rw [← e1, ← e2, hm.symm]
  generalize x &&& y = p at *
  generalize x ^^^ y = q at *
  generalize (x : Int) * (y : Int) = m at *
  split
  · omega
  split
  · omega
  split
  · rfl
  split
  · omega
  split
  · omega
  · simp at *; omega

/-- .. and of the bitwise ones the upper half, too. -/
theorem opR_high (op a b : Int) (h1 : 4 ≤ op) (h5 : op ≤ 5) (ha : 0 ≤ a) (ha' : a < 18446744073709551616) (hb : 0 ≤ b) (hb' : b < 18446744073709551616) :
    opR .u64 op a b / 4294967296 = opR .u32 op (a / 4294967296) (b / 4294967296) := by
  obtain ⟨x, rfl⟩ := Int.eq_ofNat_of_zero_le ha
  obtain ⟨y, rfl⟩ := Int.eq_ofNat_of_zero_le hb
  have e1 : ((x : Int) / 4294967296) = ((x / 4294967296 : Nat) : Int) := by omega
  have e2 : ((y : Int) / 4294967296) = ((y / 4294967296 : Nat) : Int) := by omega
  have hal := and_high x y
  have hxl := xor_high x y
  unfold opR
  rw [u64_and_nat x y (by omega) (by omega), u64_xor_nat x y (by omega) (by omega), e1, e2, u32_and_nat _ _ (by omega) (by omega), u32_xor_nat _ _ (by omega) (by omega), ← hal, ← hxl]
  have n1 : (op == 1) = false := beq_eq_false_iff_ne.2 (by omega)
  have n2 : (op == 2) = false := beq_eq_false_iff_ne.2 (by omega)
  have n3 : (op == 3) = false := beq_eq_false_iff_ne.2 (by omega)
  rw [n1, n2, n3]
  generalize x &&& y = p at *
  generalize x ^^^ y = q at *
  simp only [Bool.false_eq_true, if_false]
  split
  · omega
  split
  · omega
  · simp at *; omega

theorem opR_u64_bd (op a b : Int) (ha : 0 ≤ a) (ha' : a < 18446744073709551616) (hb : 0 ≤ b) (hb' : b < 18446744073709551616) : 0 ≤ opR .u64 op a b ∧ opR .u64 op a b < 18446744073709551616 := by
  obtain ⟨x, rfl⟩ := Int.eq_ofNat_of_zero_le ha
  obtain ⟨y, rfl⟩ := Int.eq_ofNat_of_zero_le hb
  have h1 : x &&& y < 18446744073709551616 := Nat.and_lt_two_pow (n := 64) x (by omega)
  have h2 : x ^^^ y < 18446744073709551616 := Nat.xor_lt_two_pow (n := 64) (by omega) (by omega)
  unfold opR
  rw [u64_and_nat x y (by omega) (by omega), u64_xor_nat x y (by omega) (by omega)]
  rw [IntKind.wrap_u64, IntKind.wrap_u64, IntKind.wrap_u64]
  generalize x &&& y = p at *
  generalize x ^^^ y = q at *
  generalize (x : Int) * (y : Int) = m at *
  split
  · omega
  split
  · omega
  split
  · omega
  split
  · omega
  split
  · omega
  split
  · split <;> omega
  · omega

end Go.Proofs.Ytcmnmogmdhofcaa.num

/- A program (api.Prog) as it lies in memory: the wide marks, the instructions, cell by cell; it stays where the world only grows. -/
namespace Go.Proofs.Ytcmnmogmdhofcaa.form
open Go.RowKit

theorem step_below {w a b : World} (hb : Below a.heap.size a b) (h : Below w.heap.size w a) : Below w.heap.size w b := h.trans (hb.mono h.size)
theorem step_cell {a b : World} (hb : Below a.heap.size a b) {p : Addr} {v : Value} (h : a.cell? p = some v) : b.cell? p = some v := by
  have hp : p.block < a.heap.size := by
    unfold World.cell? at h
    by_cases hlt : p.block < a.heap.size
    · exact hlt
    · rw [Array.getElem?_eq_none (by omega)] at h; simp at h
  rw [hb.cell hp]; exact h

theorem over_alloc {w w1 : World} {o : Obj} (hb : Below (w.alloc o).heap.size (w.alloc o) w1) : Below w.heap.size w w1 :=
  ((Below.refl _ _).alloc (Nat.le_refl _) _).trans (hb.mono (by simp))

structure LIns where
  op : Int
  dest : Int
  a : Int
  b : Int
  c : Int
  n : Int

def LIns.zero : LIns := ⟨0, 0, 0, 0, 0, 0⟩
def LIns.val (i : LIns) : Value := .agg #[.int .i64 i.op, .int .i64 i.dest, .int .i64 i.a, .int .i64 i.b, .int .i64 i.c, .int .u32 i.n]

/-- The value of a program: two slices. -/
def progV (b0 o0 n0 c0 b1 o1 n1 c1 : Nat) : Value := .agg #[.slice (some ⟨b0, o0, none⟩) n0 c0, .slice (some ⟨b1, o1, none⟩) n1 c1]

/-- The cells of a program's marks and instructions. -/
structure Held (w : World) (b0 o0 b1 o1 : Nat) (B : List Bool) (C : List LIns) : Prop where
  lt0 : b0 < w.heap.size
  lt1 : b1 < w.heap.size
  wide : ∀ i, i < B.length → w.cell? ⟨b0, o0 + i, none⟩ = some (.bool (B.getD i false))
  code : ∀ i, i < C.length → w.cell? ⟨b1, o1 + i * 6, none⟩ = some (.int .i64 (C.getD i .zero).op) ∧ w.cell? ⟨b1, o1 + i * 6 + 1, none⟩ = some (.int .i64 (C.getD i .zero).dest) ∧
    w.cell? ⟨b1, o1 + i * 6 + 2, none⟩ = some (.int .i64 (C.getD i .zero).a) ∧ w.cell? ⟨b1, o1 + i * 6 + 3, none⟩ = some (.int .i64 (C.getD i .zero).b) ∧
    w.cell? ⟨b1, o1 + i * 6 + 4, none⟩ = some (.int .i64 (C.getD i .zero).c) ∧ w.cell? ⟨b1, o1 + i * 6 + 5, none⟩ = some (.int .u32 (C.getD i .zero).n)

theorem Held.later {w w' : World} {b0 o0 b1 o1 : Nat} {B : List Bool} {C : List LIns} (h : Held w b0 o0 b1 o1 B C) (hb : Below w.heap.size w w') : Held w' b0 o0 b1 o1 B C := by
  refine ⟨Nat.lt_of_lt_of_le h.lt0 hb.size, Nat.lt_of_lt_of_le h.lt1 hb.size, fun i hi => ?_, fun i hi => ?_⟩
  · rw [hb.cell (p := ⟨b0, o0 + i, none⟩) h.lt0]; exact h.wide i hi
  · obtain ⟨c0, c1, c2, c3, c4, c5⟩ := h.code i hi
    refine ⟨?_, ?_, ?_, ?_, ?_, ?_⟩
    · rw [hb.cell (p := ⟨b1, _, none⟩) h.lt1]; exact c0
    · rw [hb.cell (p := ⟨b1, _, none⟩) h.lt1]; exact c1
    · rw [hb.cell (p := ⟨b1, _, none⟩) h.lt1]; exact c2
    · rw [hb.cell (p := ⟨b1, _, none⟩) h.lt1]; exact c3
    · rw [hb.cell (p := ⟨b1, _, none⟩) h.lt1]; exact c4
    · rw [hb.cell (p := ⟨b1, _, none⟩) h.lt1]; exact c5

/-- Behind a new block. -/
theorem Held.alloc {w : World} {b0 o0 b1 o1 : Nat} {B : List Bool} {C : List LIns} (h : Held w b0 o0 b1 o1 B C) (o : Obj) : Held (w.alloc o) b0 o0 b1 o1 B C :=
  h.later ((Below.refl _ _).alloc (Nat.le_refl _) _)

theorem Held.drew {w : World} {b0 o0 b1 o1 : Nat} {B : List Bool} {C : List LIns} (h : Held w b0 o0 b1 o1 B C) : Held w.drew b0 o0 b1 o1 B C :=
  h.later ((Below.refl _ _).drew)

/-- A program that came in: whatever its lengths. -/
structure ProgIs (w : World) (v : Value) (B : List Bool) (C : List LIns) : Prop where
  val : ∃ a0 c0 a1 c1, v = .agg #[.slice a0 B.length c0, .slice a1 C.length c1] ∧ (1 ≤ B.length → 1 ≤ C.length → ∃ b0 o0 b1 o1, a0 = some ⟨b0, o0, none⟩ ∧ a1 = some ⟨b1, o1, none⟩ ∧ Held w b0 o0 b1 o1 B C)
  lenB : B.length ≤ 9223372036854775807
  lenC : C.length ≤ 9223372036854775807
  num : ∀ i, i < C.length → 0 ≤ (C.getD i .zero).n ∧ (C.getD i .zero).n < 4294967296

theorem ProgIs.later {w w' : World} {v : Value} {B : List Bool} {C : List LIns} (h : ProgIs w v B C) (hb : Below w.heap.size w w') : ProgIs w' v B C := by
  obtain ⟨⟨a0, c0, a1, c1, hv, hh⟩, h1, h2, h3⟩ := h
  refine ⟨⟨a0, c0, a1, c1, hv, fun k0 k1 => ?_⟩, h1, h2, h3⟩
  obtain ⟨b0, o0, b1, o1, e0, e1, hH⟩ := hh k0 k1
  exact ⟨b0, o0, b1, o1, e0, e1, hH.later hb⟩

/-- The lengths that a program may have. -/
def sizesB (B : List Bool) (C : List LIns) : Bool := decide (1 ≤ B.length) && decide (B.length ≤ 12) && decide (1 ≤ C.length) && decide (C.length ≤ 40)

theorem sizes_of {B : List Bool} {C : List LIns} (h : sizesB B C = true) : 1 ≤ B.length ∧ B.length ≤ 12 ∧ 1 ≤ C.length ∧ C.length ≤ 40 := by
  unfold sizesB at h; simp at h; omega

end Go.Proofs.Ytcmnmogmdhofcaa.form

/- What the document's small functions on programs answer: known, Gives, Many. -/
namespace Go.Proofs.Ytcmnmogmdhofcaa.form
open Go.RowKit
set_option linter.unusedVariables false

def knownB (op : Int) : Bool := (decide (1 ≤ op) && decide (op ≤ 10)) || (decide (21 ≤ op) && decide (op ≤ 26)) || (decide (41 ≤ op) && decide (op ≤ 45))
def givesB (op : Int) : Bool := !(op == 4) && !(op == 8) && !(op == 9) && !(op == 10)
def manyI (op : Int) : Int := if op = 1 ∨ op = 3 ∨ op = 8 ∨ op = 10 then 0 else if op = 2 ∨ op = 4 ∨ op = 6 ∨ op = 7 ∨ op = 9 then 1 else 2

theorem ret_bool {a b : Bool} (h : a = b) : Ending.returned (.bool a) = .returned (.bool b) := by rw [h]
theorem ret_int {k : IntKind} {a b : Int} (h : a = b) : Ending.returned (.int k a) = .returned (.int k b) := by rw [h]

theorem known (op : Int) (w : World) :
    Calls Try.prog 77 #[.int .i64 op] w fun e w' => e = .returned (.bool (knownB op)) ∧ w' = w := by
  go_enter Try.func77, Try.ntmps77
  go_wp2
  all_goals
    go_ret
    exact ⟨ret_bool (by rw [Bool.eq_iff_iff]; simp [knownB]; try omega), rfl⟩

theorem gives (op : Int) (w : World) :
    Calls Try.prog 47 #[.int .i64 op] w fun e w' => e = .returned (.bool (givesB op)) ∧ w' = w := by
  go_enter Try.func47, Try.ntmps47
  go_wp2
  all_goals
    go_ret
    exact ⟨ret_bool (by simp_all [givesB]), rfl⟩

theorem many (op : Int) (w : World) :
    Calls Try.prog 64 #[.int .i64 op] w fun e w' => e = .returned (.int .i64 (manyI op)) ∧ w' = w := by
  go_enter Try.func64, Try.ntmps64
  go_wp2
  all_goals
    go_ret
    exact ⟨ret_int (by simp_all [manyI]), rfl⟩

end Go.Proofs.Ytcmnmogmdhofcaa.form
