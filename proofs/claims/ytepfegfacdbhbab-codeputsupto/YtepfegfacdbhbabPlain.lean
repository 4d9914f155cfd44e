/- Plain facts on numbers of 32 and 64 bits: what each operation comes to, and the document's bit-by-bit reckoning; no program in sight. -/
import Derived.WalkKit
import Derived.Laws.BitsAllLaws
namespace Go.Proofs.Ytepfegfacdbhbab.num

/-- what comes of two numbers of a kind, by the operation's number -/
def opR (k : IntKind) (op a b : Int) : Int :=
  if op == 1 then k.wrap (a + b) else if op == 2 then k.wrap (a - b) else if op == 3 then k.wrap (a * b)
  else if op == 4 then bits .and k a b else if op == 5 then bits .xor k a b
  else if op == 6 then (if a < b then 1 else 0) else 0

/-- the two bitwise operations on plain numbers -/
def natBit (and : Bool) (x y : Nat) : Nat := if and then x &&& y else x ^^^ y

/-- ahead of round i of the bit-by-bit loop -/
def Inv (and : Bool) (x y i a b n p : Nat) : Prop :=
  a = x / 2 ^ i ∧ b = y / 2 ^ i ∧ n = natBit and x y % 2 ^ i ∧ p = 2 ^ i % 18446744073709551616

theorem Inv.start (and : Bool) (x y : Nat) : Inv and x y 0 x y 0 1 := by
  refine ⟨by simp, by simp, by simp [Nat.mod_one], by decide⟩

theorem Inv.fin {and : Bool} {x y a b n p : Nat} (hx : x < 18446744073709551616) (hy : y < 18446744073709551616) (h : Inv and x y 64 a b n p) : n = natBit and x y := by
  have h3 := h.2.2.1
  have hlt : natBit and x y < 2 ^ 64 := by
    have hx' : x < 2 ^ 64 := by simpa using hx
    have hy' : y < 2 ^ 64 := by simpa using hy
    unfold natBit
    cases and
    · simpa using Nat.xor_lt_two_pow hx' hy'
    · simpa using Nat.and_lt_two_pow x hy'
  rw [h3, Nat.mod_eq_of_lt hlt]

/-- is the bit at this place one of the answer's? -/
def bitOn (and : Bool) (a b : Nat) : Bool := if and then a % 2 + b % 2 == 2 else a % 2 != b % 2

theorem natBit_testBit (and : Bool) (x y i : Nat) : (natBit and x y).testBit i = bitOn and (x / 2 ^ i) (y / 2 ^ i) := by
  have h1 := Nat.mod_two_eq_zero_or_one (x / 2 ^ i)
  have h2 := Nat.mod_two_eq_zero_or_one (y / 2 ^ i)
  unfold natBit bitOn
  cases and
  · simp only [Bool.false_eq_true, if_false]
    rw [Nat.testBit_xor, Nat.testBit_eq_decide_div_mod_eq, Nat.testBit_eq_decide_div_mod_eq]
    rcases h1 with h1 | h1 <;> rcases h2 with h2 | h2 <;> simp [h1, h2]
  · simp only [if_true]
    rw [Nat.testBit_and, Nat.testBit_eq_decide_div_mod_eq, Nat.testBit_eq_decide_div_mod_eq]
    rcases h1 with h1 | h1 <;> rcases h2 with h2 | h2 <;> simp [h1, h2]

theorem Inv.bound {and : Bool} {x y i a b n p : Nat} (hx : x < 18446744073709551616) (hy : y < 18446744073709551616) (hi : i < 64) (h : Inv and x y i a b n p) :
    a < 18446744073709551616 ∧ b < 18446744073709551616 ∧ n + p < 18446744073709551616 ∧ p < 18446744073709551616 ∧ p = 2 ^ i := by
  obtain ⟨rfl, rfl, rfl, hp⟩ := h
  have hpw : 2 ^ i ≤ 2 ^ 63 := Nat.pow_le_pow_right (by decide) (by omega)
  have h63 : (2 : Nat) ^ 63 = 9223372036854775808 := by decide
  have hlt : natBit and x y % 2 ^ i < 2 ^ i := Nat.mod_lt _ (Nat.pos_of_ne_zero (by simp))
  rw [Nat.mod_eq_of_lt (by omega)] at hp
  have ha := Nat.div_le_self x (2 ^ i)
  have hb := Nat.div_le_self y (2 ^ i)
  omega

theorem Inv.step {and : Bool} {x y i a b n p : Nat} (hx : x < 18446744073709551616) (hy : y < 18446744073709551616) (hi : i < 64) (h : Inv and x y i a b n p) :
    Inv and x y (i + 1) (a / 2) (b / 2) (n + if bitOn and a b then p else 0) ((p + p) % 18446744073709551616) := by
  have hb := h.bound hx hy hi
  obtain ⟨rfl, rfl, rfl, hp⟩ := h
  obtain ⟨-, -, -, -, hp2⟩ := hb
  subst hp2
  refine ⟨by rw [Nat.pow_succ, Nat.div_div_eq_div_mul], by rw [Nat.pow_succ, Nat.div_div_eq_div_mul], ?_, by rw [Nat.pow_succ]; congr 1; omega⟩
  have hb := natBit_testBit and x y i
  rw [Nat.testBit_eq_decide_div_mod_eq] at hb
  rw [← hb, Nat.pow_succ, Nat.mod_mul]
  rcases Nat.mod_two_eq_zero_or_one (natBit and x y / 2 ^ i) with h | h <;> simp [h]

theorem bitOn_int (and : Bool) (a b : Nat) : bitOn and a b = (if and then ((a : Int) % 2 + (b : Int) % 2 == 2) else ((a : Int) % 2 != (b : Int) % 2)) := by
  unfold bitOn
  cases and
  · simp only [Bool.false_eq_true, if_false]
    rw [Bool.eq_iff_iff]; simp; omega
  · simp only [if_true]
    rw [Bool.eq_iff_iff]; simp; omega

theorem bits_natBit (and : Bool) (x y : Nat) (hx : x < 18446744073709551616) (hy : y < 18446744073709551616) :
    ((natBit and x y : Nat) : Int) = bits (if and then .and else .xor) .u64 (x : Int) (y : Int) := by
  cases and
  · simp [natBit, u64_xor_nat x y hx hy]
  · simp [natBit, u64_and_nat x y hx hy]

theorem wrap_u64_nat (n : Nat) : IntKind.u64.wrap (n : Int) = ((n % 18446744073709551616 : Nat) : Int) := by
  rw [IntKind.wrap_u64]; rfl


theorem u32_bit_lt (x y : Nat) (hx : x < 4294967296) (hy : y < 4294967296) : x &&& y < 4294967296 ∧ x ^^^ y < 4294967296 :=
  ⟨Nat.and_lt_two_pow (n := 32) x hy, Nat.xor_lt_two_pow (n := 32) hx hy⟩

/-- The document reckons narrow numbers as wide ones and cuts them. -/
theorem opR_cut (op a b : Int) (ha : 0 ≤ a) (ha' : a < 4294967296) (hb : 0 ≤ b) (hb' : b < 4294967296) : opR .u64 op a b % 4294967296 = opR .u32 op a b := by
  obtain ⟨x, rfl⟩ := Int.eq_ofNat_of_zero_le ha
  obtain ⟨y, rfl⟩ := Int.eq_ofNat_of_zero_le hb
  have hl := u32_bit_lt x y (by omega) (by omega)
  unfold opR
  rw [u64_and_nat x y (by omega) (by omega), u64_xor_nat x y (by omega) (by omega), u32_and_nat x y (by omega) (by omega), u32_xor_nat x y (by omega) (by omega)]
  rw [IntKind.wrap_u64, IntKind.wrap_u64, IntKind.wrap_u64, IntKind.wrap_u32', IntKind.wrap_u32', IntKind.wrap_u32']
  generalize x &&& y = p at *
  generalize x ^^^ y = q at *
  generalize (x : Int) * (y : Int) = m at *
  split
  · omega
  split
  · omega
  split
  · omega
  split
  · omega
  split
  · omega
  split
  · split <;> rfl
  · rfl

theorem and_low (x y : Nat) : (x &&& y) % 4294967296 = (x % 4294967296) &&& (y % 4294967296) := Nat.and_mod_two_pow (n := 32)
theorem xor_low (x y : Nat) : (x ^^^ y) % 4294967296 = (x % 4294967296) ^^^ (y % 4294967296) := Nat.xor_mod_two_pow (n := 32)
theorem and_high (x y : Nat) : (x &&& y) / 4294967296 = (x / 4294967296) &&& (y / 4294967296) := Nat.and_div_two_pow (n := 32)
theorem xor_high (x y : Nat) : (x ^^^ y) / 4294967296 = (x / 4294967296) ^^^ (y / 4294967296) := Nat.xor_div_two_pow (n := 32)

theorem emod_mul_low (a b : Int) : a * b % 18446744073709551616 % 4294967296 = (a % 4294967296) * (b % 4294967296) % 4294967296 := by
  rw [Int.emod_emod_of_dvd _ (by decide), Int.mul_emod]

/-- The lower half of a sum, difference, product or bitwise one is that of the lower halves. -/
theorem opR_low (op a b : Int) (h1 : 1 ≤ op) (h5 : op ≤ 5) (ha : 0 ≤ a) (ha' : a < 18446744073709551616) (hb : 0 ≤ b) (hb' : b < 18446744073709551616) :
    opR .u64 op a b % 4294967296 = opR .u32 op (a % 4294967296) (b % 4294967296) := by
  obtain ⟨x, rfl⟩ := Int.eq_ofNat_of_zero_le ha
  obtain ⟨y, rfl⟩ := Int.eq_ofNat_of_zero_le hb
  have e1 : ((x : Int) % 4294967296) = ((x % 4294967296 : Nat) : Int) := by omega
  have e2 : ((y : Int) % 4294967296) = ((y % 4294967296 : Nat) : Int) := by omega
  have hm := emod_mul_low x y
  have hal := and_low x y
  have hxl := xor_low x y
  unfold opR
  rw [u64_and_nat x y (by omega) (by omega), u64_xor_nat x y (by omega) (by omega), e1, e2, u32_and_nat _ _ (by omega) (by omega), u32_xor_nat _ _ (by omega) (by omega)]
  rw [IntKind.wrap_u64, IntKind.wrap_u64, IntKind.wrap_u64, IntKind.wrap_u32', IntKind.wrap_u32', IntKind.wrap_u32', ← hal, ← hxl]
  rw [← e1, ← e2, hm.symm]
  generalize x &&& y = p at *
  generalize x ^^^ y = q at *
  generalize (x : Int) * (y : Int) = m at *
  split
  · omega
  split
  · omega
  split
  · rfl
  split
  · omega
  split
  · omega
  · simp at *; omega

/-- .. and of the bitwise ones the upper half, too. -/
theorem opR_high (op a b : Int) (h1 : 4 ≤ op) (h5 : op ≤ 5) (ha : 0 ≤ a) (ha' : a < 18446744073709551616) (hb : 0 ≤ b) (hb' : b < 18446744073709551616) :
    opR .u64 op a b / 4294967296 = opR .u32 op (a / 4294967296) (b / 4294967296) := by
  obtain ⟨x, rfl⟩ := Int.eq_ofNat_of_zero_le ha
  obtain ⟨y, rfl⟩ := Int.eq_ofNat_of_zero_le hb
  have e1 : ((x : Int) / 4294967296) = ((x / 4294967296 : Nat) : Int) := by omega
  have e2 : ((y : Int) / 4294967296) = ((y / 4294967296 : Nat) : Int) := by omega
  have hal := and_high x y
  have hxl := xor_high x y
  unfold opR
  rw [u64_and_nat x y (by omega) (by omega), u64_xor_nat x y (by omega) (by omega), e1, e2, u32_and_nat _ _ (by omega) (by omega), u32_xor_nat _ _ (by omega) (by omega), ← hal, ← hxl]
  have n1 : (op == 1) = false := beq_eq_false_iff_ne.2 (by omega)
  have n2 : (op == 2) = false := beq_eq_false_iff_ne.2 (by omega)
  have n3 : (op == 3) = false := beq_eq_false_iff_ne.2 (by omega)
  rw [n1, n2, n3]
  generalize x &&& y = p at *
  generalize x ^^^ y = q at *
  simp only [Bool.false_eq_true, if_false]
  split
  · omega
  split
  · omega
  · simp at *; omega

theorem opR_u64_bd (op a b : Int) (ha : 0 ≤ a) (ha' : a < 18446744073709551616) (hb : 0 ≤ b) (hb' : b < 18446744073709551616) : 0 ≤ opR .u64 op a b ∧ opR .u64 op a b < 18446744073709551616 := by
  obtain ⟨x, rfl⟩ := Int.eq_ofNat_of_zero_le ha
  obtain ⟨y, rfl⟩ := Int.eq_ofNat_of_zero_le hb
  have h1 : x &&& y < 18446744073709551616 := Nat.and_lt_two_pow (n := 64) x (by omega)
  have h2 : x ^^^ y < 18446744073709551616 := Nat.xor_lt_two_pow (n := 64) (by omega) (by omega)
  unfold opR
  rw [u64_and_nat x y (by omega) (by omega), u64_xor_nat x y (by omega) (by omega)]
  rw [IntKind.wrap_u64, IntKind.wrap_u64, IntKind.wrap_u64]
  generalize x &&& y = p at *
  generalize x ^^^ y = q at *
  generalize (x : Int) * (y : Int) = m at *
  split
  · omega
  split
  · omega
  split
  · omega
  split
  · omega
  split
  · omega
  split
  · split <;> omega
  · omega

end Go.Proofs.Ytepfegfacdbhbab.num
