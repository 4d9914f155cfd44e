/- Plain facts on numbers of 32 and 64 bits: what each operation comes to, and the document's bit-by-bit reckoning; no program in sight. -/
import Derived.WalkKit
import Derived.Laws.BitsAllLaws
import Derived.Laws.Rows
import Derived.OneCell
import Derived.Test.YtdbjklngnloibabGreatProg
import Derived.OwnWalk
import Derived.Below
import Derived.Test.YtdbjklngnloibabGreatB01
import Derived.Test.YtdbjklngnloibabGreatB03

namespace Go.Proofs.YtdbjklngnloibabGreat.num

/-- what comes of two numbers of a kind, by the operation's number -/
def opR (k : IntKind) (op a b : Int) : Int :=
  if op == 1 then k.wrap (a + b) else if op == 2 then k.wrap (a - b) else if op == 3 then k.wrap (a * b)
  else if op == 4 then bits .and k a b else if op == 5 then bits .xor k a b
  else if op == 6 then (if a < b then 1 else 0) else 0

/-- the two bitwise operations on plain numbers -/
def natBit (and : Bool) (x y : Nat) : Nat := if and then x &&& y else x ^^^ y

/-- ahead of round i of the bit-by-bit loop -/
def Inv (and : Bool) (x y i a b n p : Nat) : Prop :=
  a = x / 2 ^ i ∧ b = y / 2 ^ i ∧ n = natBit and x y % 2 ^ i ∧ p = 2 ^ i % 18446744073709551616

theorem Inv.start (and : Bool) (x y : Nat) : Inv and x y 0 x y 0 1 := by
  refine ⟨by simp, by simp, by simp [Nat.mod_one], by decide⟩

theorem Inv.fin {and : Bool} {x y a b n p : Nat} (hx : x < 18446744073709551616) (hy : y < 18446744073709551616) (h : Inv and x y 64 a b n p) : n = natBit and x y := by
  have h3 := h.2.2.1
  have hlt : natBit and x y < 2 ^ 64 := by
    have hx' : x < 2 ^ 64 := by simpa using hx
    have hy' : y < 2 ^ 64 := by simpa using hy
    unfold natBit
    cases and
    · simpa using Nat.xor_lt_two_pow hx' hy'
    · simpa using Nat.and_lt_two_pow x hy'
  rw [h3, Nat.mod_eq_of_lt hlt]

/-- is the bit at this place one of the answer's? -/
def bitOn (and : Bool) (a b : Nat) : Bool := if and then a % 2 + b % 2 == 2 else a % 2 != b % 2

theorem natBit_testBit (and : Bool) (x y i : Nat) : (natBit and x y).testBit i = bitOn and (x / 2 ^ i) (y / 2 ^ i) := by
  have h1 := Nat.mod_two_eq_zero_or_one (x / 2 ^ i)
  have h2 := Nat.mod_two_eq_zero_or_one (y / 2 ^ i)
  unfold natBit bitOn
  cases and
  · simp only [Bool.false_eq_true, if_false]
    rw [Nat.testBit_xor, Nat.testBit_eq_decide_div_mod_eq, Nat.testBit_eq_decide_div_mod_eq]
    rcases h1 with h1 | h1 <;> rcases h2 with h2 | h2 <;> simp [h1, h2]
  · simp only [if_true]
    rw [Nat.testBit_and, Nat.testBit_eq_decide_div_mod_eq, Nat.testBit_eq_decide_div_mod_eq]
    rcases h1 with h1 | h1 <;> rcases h2 with h2 | h2 <;> simp [h1, h2]

theorem Inv.bound {and : Bool} {x y i a b n p : Nat} (hx : x < 18446744073709551616) (hy : y < 18446744073709551616) (hi : i < 64) (h : Inv and x y i a b n p) :
    a < 18446744073709551616 ∧ b < 18446744073709551616 ∧ n + p < 18446744073709551616 ∧ p < 18446744073709551616 ∧ p = 2 ^ i := by
  obtain ⟨rfl, rfl, rfl, hp⟩ := h
  have hpw : 2 ^ i ≤ 2 ^ 63 := Nat.pow_le_pow_right (by decide) (by omega)
  have h63 : (2 : Nat) ^ 63 = 9223372036854775808 := by decide
  have hlt : natBit and x y % 2 ^ i < 2 ^ i := Nat.mod_lt _ (Nat.pos_of_ne_zero (by simp))
  rw [Nat.mod_eq_of_lt (by omega)] at hp
  have ha := Nat.div_le_self x (2 ^ i)
  have hb := Nat.div_le_self y (2 ^ i)
  omega

theorem Inv.step {and : Bool} {x y i a b n p : Nat} (hx : x < 18446744073709551616) (hy : y < 18446744073709551616) (hi : i < 64) (h : Inv and x y i a b n p) :
    Inv and x y (i + 1) (a / 2) (b / 2) (n + if bitOn and a b then p else 0) ((p + p) % 18446744073709551616) := by
  have hb := h.bound hx hy hi
  obtain ⟨rfl, rfl, rfl, hp⟩ := h
  obtain ⟨-, -, -, -, hp2⟩ := hb
  subst hp2
  refine ⟨by rw [Nat.pow_succ, Nat.div_div_eq_div_mul], by rw [Nat.pow_succ, Nat.div_div_eq_div_mul], ?_, by rw [Nat.pow_succ]; congr 1; omega⟩
  have hb := natBit_testBit and x y i
  rw [Nat.testBit_eq_decide_div_mod_eq] at hb
  rw [← hb, Nat.pow_succ, Nat.mod_mul]
  rcases Nat.mod_two_eq_zero_or_one (natBit and x y / 2 ^ i) with h | h <;> simp [h]

theorem bitOn_int (and : Bool) (a b : Nat) : bitOn and a b = (if and then ((a : Int) % 2 + (b : Int) % 2 == 2) else ((a : Int) % 2 != (b : Int) % 2)) := by
  unfold bitOn
  cases and
  · simp only [Bool.false_eq_true, if_false]
    rw [Bool.eq_iff_iff]; simp; omega
  · simp only [if_true]
    rw [Bool.eq_iff_iff]; simp; omega

theorem bits_natBit (and : Bool) (x y : Nat) (hx : x < 18446744073709551616) (hy : y < 18446744073709551616) :
    ((natBit and x y : Nat) : Int) = bits (if and then .and else .xor) .u64 (x : Int) (y : Int) := by
  cases and
  · simp [natBit, u64_xor_nat x y hx hy]
  · simp [natBit, u64_and_nat x y hx hy]

theorem wrap_u64_nat (n : Nat) : IntKind.u64.wrap (n : Int) = ((n % 18446744073709551616 : Nat) : Int) := by
  rw [IntKind.wrap_u64]; rfl


theorem u32_bit_lt (x y : Nat) (hx : x < 4294967296) (hy : y < 4294967296) : x &&& y < 4294967296 ∧ x ^^^ y < 4294967296 :=
  ⟨Nat.and_lt_two_pow (n := 32) x hy, Nat.xor_lt_two_pow (n := 32) hx hy⟩

/-- The document reckons narrow numbers as wide ones and cuts them. -/
theorem opR_cut (op a b : Int) (ha : 0 ≤ a) (ha' : a < 4294967296) (hb : 0 ≤ b) (hb' : b < 4294967296) : opR .u64 op a b % 4294967296 = opR .u32 op a b := by
  obtain ⟨x, rfl⟩ := Int.eq_ofNat_of_zero_le ha
  obtain ⟨y, rfl⟩ := Int.eq_ofNat_of_zero_le hb
  have hl := u32_bit_lt x y (by omega) (by omega)
  unfold opR
  rw [u64_and_nat x y (by omega) (by omega), u64_xor_nat x y (by omega) (by omega), u32_and_nat x y (by omega) (by omega), u32_xor_nat x y (by omega) (by omega)]
  rw [IntKind.wrap_u64, IntKind.wrap_u64, IntKind.wrap_u64, IntKind.wrap_u32', IntKind.wrap_u32', IntKind.wrap_u32']
  generalize x &&& y = p at *
  generalize x ^^^ y = q at *
  generalize (x : Int) * (y : Int) = m at *
  split
  · omega
  split
  · omega
  split
  · omega
  split
  · omega
  split
  · omega
  split
  · split <;> rfl
  · rfl

theorem and_low (x y : Nat) : (x &&& y) % 4294967296 = (x % 4294967296) &&& (y % 4294967296) := Nat.and_mod_two_pow (n := 32)
theorem xor_low (x y : Nat) : (x ^^^ y) % 4294967296 = (x % 4294967296) ^^^ (y % 4294967296) := Nat.xor_mod_two_pow (n := 32)
theorem and_high (x y : Nat) : (x &&& y) / 4294967296 = (x / 4294967296) &&& (y / 4294967296) := Nat.and_div_two_pow (n := 32)
theorem xor_high (x y : Nat) : (x ^^^ y) / 4294967296 = (x / 4294967296) ^^^ (y / 4294967296) := Nat.xor_div_two_pow (n := 32)

theorem emod_mul_low (a b : Int) : a * b % 18446744073709551616 % 4294967296 = (a % 4294967296) * (b % 4294967296) % 4294967296 := by
  rw [Int.emod_emod_of_dvd _ (by decide), Int.mul_emod]

/-- The lower half of a sum, difference, product or bitwise one is that of the lower halves. -/
theorem opR_low (op a b : Int) (h1 : 1 ≤ op) (h5 : op ≤ 5) (ha : 0 ≤ a) (ha' : a < 18446744073709551616) (hb : 0 ≤ b) (hb' : b < 18446744073709551616) :
    opR .u64 op a b % 4294967296 = opR .u32 op (a % 4294967296) (b % 4294967296) := by
  obtain ⟨x, rfl⟩ := Int.eq_ofNat_of_zero_le ha
  obtain ⟨y, rfl⟩ := Int.eq_ofNat_of_zero_le hb
  have e1 : ((x : Int) % 4294967296) = ((x % 4294967296 : Nat) : Int) := by omega
  have e2 : ((y : Int) % 4294967296) = ((y % 4294967296 : Nat) : Int) := by omega
  have hm := emod_mul_low x y
  have hal := and_low x y
  have hxl := xor_low x y
  unfold opR
  rw [u64_and_nat x y (by omega) (by omega), u64_xor_nat x y (by omega) (by omega), e1, e2, u32_and_nat _ _ (by omega) (by omega), u32_xor_nat _ _ (by omega) (by omega)]
  rw [IntKind.wrap_u64, IntKind.wrap_u64, IntKind.wrap_u64, IntKind.wrap_u32', IntKind.wrap_u32', IntKind.wrap_u32', ← hal, ← hxl]
  rw [← e1, ← e2, hm.symm]
  generalize x &&& y = p at *
  generalize x ^^^ y = q at *
  generalize (x : Int) * (y : Int) = m at *
  split
  · omega
  split
  · omega
  split
  · rfl
  split
  · omega
  split
  · omega
  · simp at *; omega

/-- .. and of the bitwise ones the upper half, too. -/
theorem opR_high (op a b : Int) (h1 : 4 ≤ op) (h5 : op ≤ 5) (ha : 0 ≤ a) (ha' : a < 18446744073709551616) (hb : 0 ≤ b) (hb' : b < 18446744073709551616) :
    opR .u64 op a b / 4294967296 = opR .u32 op (a / 4294967296) (b / 4294967296) := by
  obtain ⟨x, rfl⟩ := Int.eq_ofNat_of_zero_le ha
  obtain ⟨y, rfl⟩ := Int.eq_ofNat_of_zero_le hb
  have e1 : ((x : Int) / 4294967296) = ((x / 4294967296 : Nat) : Int) := by omega
  have e2 : ((y : Int) / 4294967296) = ((y / 4294967296 : Nat) : Int) := by omega
  have hal := and_high x y
  have hxl := xor_high x y
  unfold opR
  rw [u64_and_nat x y (by omega) (by omega), u64_xor_nat x y (by omega) (by omega), e1, e2, u32_and_nat _ _ (by omega) (by omega), u32_xor_nat _ _ (by omega) (by omega), ← hal, ← hxl]
  have n1 : (op == 1) = false := beq_eq_false_iff_ne.2 (by omega)
  have n2 : (op == 2) = false := beq_eq_false_iff_ne.2 (by omega)
  have n3 : (op == 3) = false := beq_eq_false_iff_ne.2 (by omega)
  rw [n1, n2, n3]
  generalize x &&& y = p at *
  generalize x ^^^ y = q at *
  simp only [Bool.false_eq_true, if_false]
  split
  · omega
  split
  · omega
  · simp at *; omega

theorem opR_u64_bd (op a b : Int) (ha : 0 ≤ a) (ha' : a < 18446744073709551616) (hb : 0 ≤ b) (hb' : b < 18446744073709551616) : 0 ≤ opR .u64 op a b ∧ opR .u64 op a b < 18446744073709551616 := by
  obtain ⟨x, rfl⟩ := Int.eq_ofNat_of_zero_le ha
  obtain ⟨y, rfl⟩ := Int.eq_ofNat_of_zero_le hb
  have h1 : x &&& y < 18446744073709551616 := Nat.and_lt_two_pow (n := 64) x (by omega)
  have h2 : x ^^^ y < 18446744073709551616 := Nat.xor_lt_two_pow (n := 64) (by omega) (by omega)
  unfold opR
  rw [u64_and_nat x y (by omega) (by omega), u64_xor_nat x y (by omega) (by omega)]
  rw [IntKind.wrap_u64, IntKind.wrap_u64, IntKind.wrap_u64]
  generalize x &&& y = p at *
  generalize x ^^^ y = q at *
  generalize (x : Int) * (y : Int) = m at *
  split
  · omega
  split
  · omega
  split
  · omega
  split
  · omega
  split
  · omega
  split
  · split <;> omega
  · omega

end Go.Proofs.YtdbjklngnloibabGreat.num

/- Programs that run, on plain numbers: a machine, a step, so many steps; rows of cells in memory. -/
namespace Go.Proofs.YtdbjklngnloibabGreat.form
open Go.RowKit Go.Proofs.YtdbjklngnloibabGreat.num

/-- What an instruction gives, of what it takes and of what comes in. -/
def gvI (i : LIns) (a b x : Int) : Int :=
  if i.op = 1 then i.n else if i.op = 2 then a else if i.op = 3 then x else if i.op = 5 then IntKind.u64.wrap (IntKind.u64.wrap (b * 4294967296) + a)
  else if i.op = 6 then a % 4294967296 else if i.op = 7 then a / 4294967296
  else if 40 < i.op then opR .u64 (i.op - 40) a b else opR .u32 (i.op - 20) (a % 4294967296) (b % 4294967296)

/-- Where it goes on. -/
def nxI (i : LIns) (pc : Nat) (a : Int) : Int := if i.op = 8 ∨ (i.op = 9 ∧ ¬ a = 0) then i.c else pc + 1
def stI (i : LIns) (nC : Nat) (nx : Int) : Int := if i.op = 10 then 1 else if (nC : Int) ≤ nx then 2 else 0

/-- A machine: where it is, its temporaries, how many ins are taken, what came out, its state, its steps. -/
structure Mac where
  pc : Nat
  temps : List Int
  taken : Nat
  out : List Int
  state : Int
  steps : Nat

def Mac.start (nB : Nat) : Mac := ⟨0, List.replicate nB 0, 0, [], 0, 0⟩

def inOf (ins : List Int) (k : Nat) : Int := ins.getD k 0

def Mac.step (C : List LIns) (ins : List Int) (m : Mac) : Mac :=
  let i := C.getD m.pc .zero
  let a := m.temps.getD i.a.toNat 0
  let b := m.temps.getD i.b.toNat 0
  let nx := nxI i m.pc a
  { pc := nx.toNat
    temps := if givesB i.op then m.temps.set i.dest.toNat (gvI i a b (inOf ins m.taken)) else m.temps
    taken := if i.op = 3 ∧ m.taken < ins.length then m.taken + 1 else m.taken
    out := if i.op = 4 then m.out ++ [a % 4294967296] else m.out
    state := stI i C.length nx
    steps := m.steps + 1 }

/-- At most so many steps more. -/
def Mac.go (C : List LIns) (ins : List Int) : Nat → Mac → Mac
  | 0, m => m
  | k + 1, m => if m.state = 0 then Mac.go C ins k (m.step C ins) else m

def playM (B : List Bool) (C : List LIns) (ins : List Int) (n : Nat) : Mac := Mac.go C ins n (Mac.start B.length)

theorem Mac.go_stop {C : List LIns} {ins : List Int} {m : Mac} (h : ¬ m.state = 0) : ∀ k, Mac.go C ins k m = m
  | 0 => rfl
  | k + 1 => by simp [Mac.go, h]

/-- A row of cells that may be written. -/
def Row (w : World) (b : Nat) (t : TypeId) (cs : List Value) : Prop := w.heap[b]? = some (.cells cs.toArray t (0, 0))

theorem Row.lt {w : World} {b : Nat} {t : TypeId} {cs : List Value} (h : Row w b t cs) : b < w.heap.size := lt_of_block h
theorem Row.cell {w : World} {b : Nat} {t : TypeId} {cs : List Value} (h : Row w b t cs) (j : Nat) : w.cell? ⟨b, j, none⟩ = cs[j]? := by
  rw [cell_of_row w b j _ t (0, 0) h]; simp
theorem Row.frozen {w : World} {b : Nat} {t : TypeId} {cs : List Value} (h : Row w b t cs) (j : Nat) : w.frozen? ⟨b, j, none⟩ = false := by
  unfold Row at h; simp [World.frozen?, h]
theorem Row.set {w : World} {b : Nat} {t : TypeId} {cs : List Value} (h : Row w b t cs) (j : Nat) (v : Value) : Row (w.setCell ⟨b, j, none⟩ v) b t (cs.set j v) := by
  unfold Row at *
  rw [heap_setCell_same w b j _ t v h]; simp
theorem Row.other {w : World} {b : Nat} {t : TypeId} {cs : List Value} (h : Row w b t cs) {a : Addr} (ha : b ≠ a.block) (v : Value) : Row (w.setCell a v) b t cs := by
  unfold Row at *
  rw [heap_setCell_other w a b v ha]; exact h
theorem Row.below {w w' : World} {b : Nat} {t : TypeId} {cs : List Value} (h : Row w b t cs) (hb : Below w.heap.size w w') : Row w' b t cs := by
  have := h.lt
  unfold Row at *
  rw [hb.block b this]; exact h
theorem Row.alloc {w : World} {b : Nat} {t : TypeId} {cs : List Value} (h : Row w b t cs) (o : Obj) : Row (w.alloc o) b t cs := h.below ((Below.refl _ _).alloc (Nat.le_refl _) _)
theorem Row.drew {w : World} {b : Nat} {t : TypeId} {cs : List Value} (h : Row w b t cs) : Row w.drew b t cs := h
theorem Row.grown {w w' : World} {b : Nat} {t : TypeId} {cs : List Value} {row : Option Nat} (h : Row w b t cs) (hg : w.grownBy w' row) (hne : some b ≠ row) : Row w' b t cs := by
  have := h.lt
  unfold Row at *
  rw [hg.block b this hne]; exact h
theorem Row.new (w : World) (t : TypeId) (cs : List Value) : Row (w.alloc (.cells cs.toArray t)) w.heap.size t cs := heap_alloc_new w _

theorem cell_other {wr : World} {p q : Addr} {u u' : Value} (h : wr.cell? p = some u) (hne : p.block ≠ q.block) : (wr.setCell q u').cell? p = some u := by
  rw [World.cell?_of_block (Below.heap_setCell _ _ _ _ hne)]; exact h

end Go.Proofs.YtdbjklngnloibabGreat.form

/- What the functions on numbers come to: the document's. -/
namespace Go.Proofs.YtdbjklngnloibabGreat.num
open Go.RowKit

theorem ret_int {k : IntKind} {a b : Int} (h : a = b) : Ending.returned (.int k a) = .returned (.int k b) := by rw [h]

set_option maxRecDepth 100000 in
set_option maxHeartbeats 400000 in
theorem refBits (and : Bool) (x y : Nat) (hx : x < 18446744073709551616) (hy : y < 18446744073709551616) (w : World) :
    Calls Tryz.prog 76 #[.bool and, .int .u64 x, .int .u64 y] w fun e w' => e = .returned (.int .u64 (natBit and x y : Nat)) ∧ w' = w := by
  go_enter Tryz.func76, Tryz.ntmps76
  go_wp2
  go_loop [1, 2, 7, 8, 9] (fun sa sb sn sp si => ∃ i a b n p : Nat, i ≤ 64 ∧ Inv and x y i a b n p ∧ sa = .int .u64 a ∧ sb = .int .u64 b ∧ sn = .int .u64 n ∧ sp = .int .u64 p ∧ si = .int .i64 i) (fun _ _ _ _ si => 64 - (intOf si).toNat)
  case atStart => exact ⟨0, x, y, 0, 1, by omega, Inv.start and x y, rfl, rfl, rfl, rfl, rfl⟩
  case round =>
    obtain ⟨i, a, b, n, p, hi, hinv, rfl, rfl, rfl, rfl, rfl⟩ := hrel
    by_cases hlt : i < 64
    · have hst := hinv.step hx hy hlt
      have hbd := hinv.bound hx hy hlt
      obtain ⟨ha, hb, hnp, hp, -⟩ := hbd
      have hpp : IntKind.u64.wrap ((p : Int) + (p : Int)) = (((p + p) % 18446744073709551616 : Nat) : Int) := wrap_u64_nat (p + p)
      have hon : Hid (bitOn and a b = true → Inv and x y (i + 1) (a / 2) (b / 2) (n + p) ((p + p) % 18446744073709551616)) := fun h => by rw [h] at hst; exact hst
      have hoff : Hid (bitOn and a b = false → Inv and x y (i + 1) (a / 2) (b / 2) n ((p + p) % 18446744073709551616)) := fun h => by rw [h] at hst; exact hst
      have hbit : Hid (bitOn and a b = _) := bitOn_int and a b
      have HP : Hid _ := hpp
      clear hpp hst hinv
      cases and
      · go_wp2
        · refine ⟨⟨i + 1, a / 2, b / 2, n + p, (p + p) % 18446744073709551616, by omega, hon.out (hbit.out.trans ?_), rfl, rfl, rfl, by rw [HP.out], rfl⟩, by simp [intOf]; omega⟩
          rw [if_neg (by simp)]; assumption
        · refine ⟨⟨i + 1, a / 2, b / 2, n, (p + p) % 18446744073709551616, by omega, hoff.out (hbit.out.trans ?_), rfl, rfl, rfl, by rw [HP.out], rfl⟩, by simp [intOf]; omega⟩
          rw [if_neg (by simp)]; assumption
      · go_wp2
        · refine ⟨⟨i + 1, a / 2, b / 2, n + p, (p + p) % 18446744073709551616, by omega, hon.out (hbit.out.trans ?_), rfl, rfl, rfl, by rw [HP.out], rfl⟩, by simp [intOf]; omega⟩
          rw [if_pos rfl]; exact beq_iff_eq.2 (by omega)
        · refine ⟨⟨i + 1, a / 2, b / 2, n, (p + p) % 18446744073709551616, by omega, hoff.out (hbit.out.trans ?_), rfl, rfl, rfl, by rw [HP.out], rfl⟩, by simp [intOf]; omega⟩
          rw [if_pos rfl]; exact beq_eq_false_iff_ne.2 (by omega)
    · have hi64 : i = 64 := by omega
      go_wp2
      go_ret
      exact ⟨ret_int (by subst hi64; rw [hinv.fin hx hy]), rfl⟩

/-- a number of 64 bits; the walk does not look in -/
def U64 (x : Nat) : Prop := x < 18446744073709551616

set_option maxRecDepth 100000 in
set_option maxHeartbeats 400000 in
theorem refWide' (op : Int) (x y : Nat) (hx : U64 x) (hy : U64 y) (w : World) :
    Calls Tryz.prog 50 #[.int .i64 op, .int .u64 x, .int .u64 y] w fun e w' => e = .returned (.int .u64 (opR .u64 op x y)) ∧ w' = w := by
  have HA : Hid _ := bits_natBit true x y hx hy
  have HX : Hid _ := bits_natBit false x y hx hy
  go_enter Tryz.func50, Tryz.ntmps50
  go_wp2_with (go_at_call 76; refine (refBits _ x y hx hy _).mono ?_; rintro e w' ⟨rfl, rfl⟩)
  all_goals go_ret
  all_goals exact ⟨ret_int (by have h1 := HA.out; have h2 := HX.out; simp_all [opR]), rfl⟩

theorem refWide (op a b : Int) (ha : 0 ≤ a) (ha' : a < 18446744073709551616) (hb : 0 ≤ b) (hb' : b < 18446744073709551616) (w : World) :
    Calls Tryz.prog 50 #[.int .i64 op, .int .u64 a, .int .u64 b] w fun e w' => e = .returned (.int .u64 (opR .u64 op a b)) ∧ w' = w := by
  obtain ⟨x, rfl⟩ := Int.eq_ofNat_of_zero_le ha
  obtain ⟨y, rfl⟩ := Int.eq_ofNat_of_zero_le hb
  exact refWide' op x y (by unfold U64; omega) (by unfold U64; omega) w

theorem refNarrow (op a b : Int) (ha : 0 ≤ a) (ha' : a < 4294967296) (hb : 0 ≤ b) (hb' : b < 4294967296) (w : World) :
    Calls Tryz.prog 51 #[.int .i64 op, .int .u32 a, .int .u32 b] w fun e w' => e = .returned (.int .u32 (opR .u32 op a b)) ∧ w' = w := by
  have HC : Hid _ := opR_cut op a b ha ha' hb hb'
  have hd := opR_u64_bd op a b ha (by omega) hb (by omega)
  have h0 := hd.1
  clear hd
  go_enter Tryz.func51, Tryz.ntmps51
  go_wp2_with (go_at_call 50; refine (refWide op a b ha (by omega) hb (by omega) _).mono ?_; rintro e w' ⟨rfl, rfl⟩)
  go_ret
  exact ⟨ret_int (by have h1 := HC.out; omega), rfl⟩
end Go.Proofs.YtdbjklngnloibabGreat.num

/- What the document's functions on runs answer: Wrong, Gives, Next, Same. -/
namespace Go.Proofs.YtdbjklngnloibabGreat.form
open Go.RowKit Go.Proofs.YtdbjklngnloibabGreat.num
set_option linter.unusedVariables false
attribute [local go_sem ↓] Go.wp_at_zero Go.wp_at_succ

def wrongI (B : List Bool) (C : List LIns) (nI : Nat) (steps : Int) : Int :=
  if refMayB B C = false then 2 else if 40 < nI then 1 else if steps < 0 ∨ 3000 < steps then 3 else 0

theorem wrong (v : Value) (B : List Bool) (C : List LIns) (ai : Option Addr) (nI ci : Nat) (steps : Int) (w : World) (h : ProgIs w v B C) :
    Calls Tryz.prog 8 #[v, .slice ai nI ci, .int .i64 steps] w fun e w' => e = .returned (.int .i64 (wrongI B C nI steps)) ∧ Below w.heap.size w w' := by
  have h0 := h
  obtain ⟨⟨a0, c0, a1, c1, rfl, -⟩, -, -, -⟩ := h0
  have HP : Hid (ProgIs w (.agg #[.slice a0 B.length c0, .slice a1 C.length c1]) B C) := h
  clear h
  go_enter Tryz.func8, Tryz.ntmps8
  go_wp2_with (go_at_call 18; refine (refMay _ B C _ ?_).mono ?_; (exact HP.out.later ((Below.refl _ _).alloc (Nat.le_refl _) _)); rintro e w1 ⟨rfl, hb1⟩)
  all_goals
    go_ret
    refine ⟨ret_int ?_, over_alloc hb1⟩
    unfold wrongI
    simp_all
  all_goals omega

theorem wrap64_of (x : Int) (h : 0 ≤ x) (h' : x < 18446744073709551616) : IntKind.u64.wrap x = x := by
  obtain ⟨n, rfl⟩ := Int.eq_ofNat_of_zero_le h
  rw [wrap_u64_nat]
  omega
theorem opR_u32_bd (op a b : Int) : 0 ≤ opR .u32 op (a % 4294967296) (b % 4294967296) ∧ opR .u32 op (a % 4294967296) (b % 4294967296) < 4294967296 := by
  rw [← opR_cut op (a % 4294967296) (b % 4294967296) (by omega) (by omega) (by omega) (by omega)]
  omega
theorem half_of (a : Int) (h : 0 ≤ a) (h' : a < 18446744073709551616) : IntKind.u64.wrap (a.tdiv 4294967296) = a / 4294967296 := by
  rw [Int.tdiv_eq_ediv_of_nonneg h]
  exact wrap64_of _ (by omega) (by omega)

/-- A number of 64 bits, kept from the walk. -/
def U64i (x : Int) : Prop := 0 ≤ x ∧ x < 18446744073709551616

set_option maxRecDepth 100000 in
set_option maxHeartbeats 1000000 in
theorem gives3 (i : LIns) (a b x : Int) (ha : U64i a) (hb : U64i b) (hx0 : 0 ≤ x) (hx1 : x < 4294967296) (hn0 : 0 ≤ i.n) (hn1 : i.n < 4294967296) (hk : -1000 ≤ i.op) (hk2 : i.op ≤ 1000) (w : World) :
    Calls Tryz.prog 24 #[i.val, .int .u64 a, .int .u64 b, .int .u32 x] w fun e w' => e = .returned (.int .u64 (gvI i a b x)) ∧ Below w.heap.size w w' := by
  unfold LIns.val
  have a0 := ha.1
  have b0 := hb.1
  go_enter Tryz.func24, Tryz.ntmps24
  go_wp2_with (first
    | (go_at_call 50; refine (refWide _ a b ha.1 ha.2 hb.1 hb.2 _).mono ?_; rintro e w1 ⟨rfl, rfl⟩)
    | (go_at_call 51; refine (refNarrow _ _ _ (Int.emod_nonneg _ (by decide)) (Int.emod_lt_of_pos _ (by decide)) (Int.emod_nonneg _ (by decide)) (Int.emod_lt_of_pos _ (by decide)) _).mono ?_; rintro e w1 ⟨rfl, rfl⟩))
  all_goals
    go_ret
    refine ⟨ret_int ?_, (Below.refl _ _).alloc (Nat.le_refl _) _⟩
    unfold gvI
    first
      | (simp_all; done)
      | (have hq := half_of a ha.1 ha.2; simp_all; done)
      | (have hb3 := opR_u32_bd (i.op - 20) a b; rw [wrap64_of _ hb3.1 (by omega)]; simp_all; omega)

set_option maxRecDepth 100000 in
set_option maxHeartbeats 1000000 in
theorem next3 (b0 o0 c0 b1 o1 c1 : Nat) (B : List Bool) (C : List LIns) (pc : Nat) (a : Int) (w : World) (hC : C.length ≤ 40) (h : Held w b0 o0 b1 o1 B C) (hpc : pc < C.length) :
    Calls Tryz.prog 25 #[progV b0 o0 B.length c0 b1 o1 C.length c1, .int .i64 pc, .int .u64 a] w fun e w' =>
      e = .returned (.tuple #[.int .i64 (nxI (C.getD pc .zero) pc a), .int .i64 (stI (C.getD pc .zero) C.length (nxI (C.getD pc .zero) pc a))]) ∧ Below w.heap.size w w' := by
  obtain ⟨d0, d1, d2, d3, d4, d5⟩ := h.code pc hpc
  generalize C.getD pc .zero = i at *
  have hlt1 := h.lt1
  have y1 : (0 : Int) ≤ (pc : Int) := by omega
  have y2 : (pc : Int) < (C.length : Int) := by omega
  have y3 : (C.length : Int) ≤ 40 := by omega
  clear hpc h
  unfold progV
  rcases (show ((i.op == 8) = true) ∨ ((i.op == 8) = false ∧ (i.op == 9) = true ∧ (a != 0) = true) ∨ ((i.op == 8) = false ∧ (i.op == 9) = true ∧ (a != 0) = false) ∨ ((i.op == 8) = false ∧ (i.op == 9) = false) by cases (i.op == 8) <;> cases (i.op == 9) <;> cases (a != 0) <;> simp) with e8 | ⟨e8, e9, ea⟩ | ⟨e8, e9, ea⟩ | ⟨e8, e9⟩
  all_goals
    have HN : Hid _ := (rfl : nxI i pc a = nxI i pc a)
    go_enter Tryz.func25, Tryz.ntmps25
    go_wp2
    all_goals
      go_ret2
      refine ⟨?_, ((Below.refl _ _).alloc (Nat.le_refl _) _).alloc (by simp) _⟩
      clear d0 d1 d2 d3 d4 d5
      simp_all [nxI, stI]
  all_goals omega

/-- What came out, as a list. -/
def OutIs (w : World) (v : Value) (l : List Int) : Prop :=
  ∃ ao cap, v = .slice ao l.length cap ∧ l.length ≤ 1000000 ∧ (0 < l.length → ∃ b o, ao = some ⟨b, o, none⟩ ∧ b < w.heap.size ∧ ∀ j, j < l.length → w.cell? ⟨b, o + j, none⟩ = some (.int .u32 (l.getD j 0)))
def ShownIs (w : World) (v : Value) (st : Int) (l : List Int) (k : Int) : Prop := ∃ ov, v = .agg #[.int .i64 st, ov, .int .i64 k] ∧ OutIs w ov l

theorem OutIs.later {w w' : World} {v : Value} {l : List Int} (h : OutIs w v l) (hb : Below w.heap.size w w') : OutIs w' v l := by
  obtain ⟨ao, cap, hv, hl, hc⟩ := h
  refine ⟨ao, cap, hv, hl, fun h0 => ?_⟩
  obtain ⟨b, o, e, hlt, hcell⟩ := hc h0
  exact ⟨b, o, e, Nat.lt_of_lt_of_le hlt hb.size, fun j hj => step_cell hb (hcell j hj)⟩
theorem ShownIs.later {w w' : World} {v : Value} {st k : Int} {l : List Int} (h : ShownIs w v st l k) (hb : Below w.heap.size w w') : ShownIs w' v st l k := by
  obtain ⟨ov, hv, ho⟩ := h
  exact ⟨ov, hv, ho.later hb⟩

def sameB (s1 k1 s2 k2 : Int) (l1 l2 : List Int) : Bool := decide (s1 = s2) && decide (k1 = k2) && decide (l1 = l2)

set_option maxRecDepth 100000 in
set_option maxHeartbeats 1000000 in
theorem same (va vb : Value) (s1 k1 s2 k2 : Int) (l1 l2 : List Int) (w : World) (h1 : ShownIs w va s1 l1 k1) (h2 : ShownIs w vb s2 l2 k2) :
    Calls Tryz.prog 11 #[va, vb] w fun e w' => e = .returned (.bool (sameB s1 k1 s2 k2 l1 l2)) ∧ Below w.heap.size w w' := by
  obtain ⟨ov, rfl, ao, cap, rfl, hl1, hc1⟩ := h1
  obtain ⟨ov, rfl, bo, cbp, rfl, hl2, hc2⟩ := h2
  have HC1 : Hid _ := hc1
  have HC2 : Hid _ := hc2
  clear hc1 hc2
  by_cases hs : s1 = s2 ∧ k1 = k2 ∧ l1.length = l2.length
  case neg =>
    have hf : sameB s1 k1 s2 k2 l1 l2 = false := by
      unfold sameB
      simp only [Bool.and_eq_false_iff, decide_eq_false_iff_not]
      by_cases e1 : s1 = s2
      · by_cases e2 : k1 = k2
        · exact Or.inr (fun e => hs ⟨e1, e2, by rw [e]⟩)
        · exact Or.inl (Or.inr e2)
      · exact Or.inl (Or.inl e1)
    rw [hf]
    rcases (show (s1 != s2) = true ∨ ((s1 != s2) = false ∧ (k1 != k2) = true) ∨ ((s1 != s2) = false ∧ (k1 != k2) = false ∧ ((l1.length : Int) != (l2.length : Int)) = true) by
      by_cases e1 : s1 = s2
      · by_cases e2 : k1 = k2
        · have : ¬ l1.length = l2.length := fun e => hs ⟨e1, e2, e⟩
          exact Or.inr (Or.inr ⟨by simp [e1], by simp [e2], by simp; omega⟩)
        · exact Or.inr (Or.inl ⟨by simp [e1], by simp [e2]⟩)
      · exact Or.inl (by simp [e1])) with e1 | ⟨e1, e2⟩ | ⟨e1, e2, e3⟩
    all_goals
      clear hs hf
      go_enter Tryz.func11, Tryz.ntmps11
      go_wp2
      go_ret
      exact ⟨rfl, ((Below.refl _ _).alloc (Nat.le_refl _) _).alloc (by simp) _⟩
  obtain ⟨rfl, rfl, hlen⟩ := hs
  have HL : Hid (l1.length = l2.length) := hlen
  have hll : (l1.length : Int) = (l2.length : Int) := by omega
  have e3 : ((l1.length : Int) != (l2.length : Int)) = false := by simp [hlen]
  clear hlen hll
  go_enter Tryz.func11, Tryz.ntmps11
  go_wp2
  go_loopw [5] (fun i wr => ∃ k : Nat, k ≤ l1.length ∧ i = .int .i64 k ∧ Below w.heap.size w wr ∧
      wr.cell? ⟨w.heap.size, 1, none⟩ = some (.slice ao l1.length cap) ∧ wr.cell? ⟨w.heap.size + 1, 1, none⟩ = some (.slice bo l2.length cbp) ∧ (∀ j, j < k → l1.getD j 0 = l2.getD j 0))
    (fun i _ => l1.length - (intOf i).toNat)
  case atStart => exact ⟨0, by omega, rfl, ((Below.refl _ _).alloc (Nat.le_refl _) _).alloc (by simp) _, by simp [go_sem], by simp [go_sem], fun j hj => absurd hj (by omega)⟩
  case round =>
    obtain ⟨k, hk, rfl, hbel, p1, q1, hall⟩ := hrel
    have F : Hid _ := hall
    clear hall
    by_cases hlt : k < l1.length
    · obtain ⟨ba, oa, rfl, hb1, hcell1⟩ := HC1.out (by omega)
      obtain ⟨bb, ob, rfl, hb2, hcell2⟩ := HC2.out (by have := HL.out; omega)
      have x1 := step_cell hbel (hcell1 k hlt)
      have x2 := step_cell hbel (hcell2 k (by have := HL.out; omega))
      have y1 : (0 : Int) ≤ (k : Int) := by omega
      have y2 : (k : Int) < (l1.length : Int) := by omega
      have y3 : (k : Int) < (l2.length : Int) := by have := HL.out; omega
      obtain ⟨u1, hu1⟩ : ∃ u, u = l1.getD k 0 := ⟨_, rfl⟩
      obtain ⟨u2, hu2⟩ : ∃ u, u = l2.getD k 0 := ⟨_, rfl⟩
      rw [← hu1] at x1
      rw [← hu2] at x2
      have HU1 : Hid (u1 = l1.getD k 0) := hu1
      have HU2 : Hid (u2 = l2.getD k 0) := hu2
      clear hu1 hu2 hcell1 hcell2
      go_wp2
      go_quiet (fail)
      go_wp2
      · go_ret
        refine ⟨ret_bool ?_, below_drewN hbel _⟩
        have hne : (u1 != u2) = true := by assumption
        unfold sameB
        rw [eq_comm]
        simp only [Bool.and_eq_false_iff, decide_eq_false_iff_not]
        right
        intro e
        rw [HU1.out, HU2.out, e] at hne
        simp at hne
      · refine ⟨⟨k + 1, by omega, by go_num, below_drewN hbel _, p1, q1, ?_⟩, by simp [intOf]; omega⟩
        have hne : (u1 != u2) = false := by assumption
        intro j hj
        by_cases hjk : j < k
        · exact F.out j hjk
        · obtain rfl : j = k := by omega
          rw [← HU1.out, ← HU2.out]
          simpa using hne
    · go_wp2
      go_ret
      refine ⟨ret_bool ?_, hbel⟩
      unfold sameB
      have he : l1 = l2 := by
        apply List.ext_getElem HL.out
        intro j h1 h2
        have := F.out j (by omega)
        simpa [List.getD, h1, h2] using this
      simp [he]

end Go.Proofs.YtdbjklngnloibabGreat.form
