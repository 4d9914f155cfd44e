/- Plain facts on numbers of 32 and 64 bits: what each operation comes to, and the document's bit-by-bit reckoning; no program in sight. -/
import Derived.WalkKit
import Derived.Laws.BitsAllLaws
import Derived.Laws.Rows
import Derived.OneCell
import Derived.Test.YtdbjklngnloibabGreatProg
import Derived.OwnWalk
import Derived.Below
import Derived.Test.YtdbjklngnloibabGreatT01
import Derived.Test.YtdbjklngnloibabGreatT03

namespace Go.Proofs.YtdbjklngnloibabGreat.num

/-- what comes of two numbers of a kind, by the operation's number -/
def opR (k : IntKind) (op a b : Int) : Int :=
  if op == 1 then k.wrap (a + b) else if op == 2 then k.wrap (a - b) else if op == 3 then k.wrap (a * b)
  else if op == 4 then bits .and k a b else if op == 5 then bits .xor k a b
  else if op == 6 then (if a < b then 1 else 0) else 0

/-- the two bitwise operations on plain numbers -/
def natBit (and : Bool) (x y : Nat) : Nat := if and then x &&& y else x ^^^ y

/-- ahead of round i of the bit-by-bit loop -/
def Inv (and : Bool) (x y i a b n p : Nat) : Prop :=
  a = x / 2 ^ i ∧ b = y / 2 ^ i ∧ n = natBit and x y % 2 ^ i ∧ p = 2 ^ i % 18446744073709551616

theorem Inv.start (and : Bool) (x y : Nat) : Inv and x y 0 x y 0 1 := by
  refine ⟨by simp, by simp, by simp [Nat.mod_one], by decide⟩

theorem Inv.fin {and : Bool} {x y a b n p : Nat} (hx : x < 18446744073709551616) (hy : y < 18446744073709551616) (h : Inv and x y 64 a b n p) : n = natBit and x y := by
  have h3 := h.2.2.1
  have hlt : natBit and x y < 2 ^ 64 := by
    have hx' : x < 2 ^ 64 := by simpa using hx
    have hy' : y < 2 ^ 64 := by simpa using hy
    unfold natBit
    cases and
    · simpa using Nat.xor_lt_two_pow hx' hy'
    · simpa using Nat.and_lt_two_pow x hy'
  rw [h3, Nat.mod_eq_of_lt hlt]

/-- is the bit at this place one of the answer's? -/
def bitOn (and : Bool) (a b : Nat) : Bool := if and then a % 2 + b % 2 == 2 else a % 2 != b % 2

theorem natBit_testBit (and : Bool) (x y i : Nat) : (natBit and x y).testBit i = bitOn and (x / 2 ^ i) (y / 2 ^ i) := by
  have h1 := Nat.mod_two_eq_zero_or_one (x / 2 ^ i)
  have h2 := Nat.mod_two_eq_zero_or_one (y / 2 ^ i)
  unfold natBit bitOn
  cases and
  · simp only [Bool.false_eq_true, if_false]
    rw [Nat.testBit_xor, Nat.testBit_eq_decide_div_mod_eq, Nat.testBit_eq_decide_div_mod_eq]
    rcases h1 with h1 | h1 <;> rcases h2 with h2 | h2 <;> simp [h1, h2]
  · simp only [if_true]
    rw [Nat.testBit_and, Nat.testBit_eq_decide_div_mod_eq, Nat.testBit_eq_decide_div_mod_eq]
    rcases h1 with h1 | h1 <;> rcases h2 with h2 | h2 <;> simp [h1, h2]

theorem Inv.bound {and : Bool} {x y i a b n p : Nat} (hx : x < 18446744073709551616) (hy : y < 18446744073709551616) (hi : i < 64) (h : Inv and x y i a b n p) :
    a < 18446744073709551616 ∧ b < 18446744073709551616 ∧ n + p < 18446744073709551616 ∧ p < 18446744073709551616 ∧ p = 2 ^ i := by
  obtain ⟨rfl, rfl, rfl, hp⟩ := h
  have hpw : 2 ^ i ≤ 2 ^ 63 := Nat.pow_le_pow_right (by decide) (by omega)
  have h63 : (2 : Nat) ^ 63 = 9223372036854775808 := by decide
  have hlt : natBit and x y % 2 ^ i < 2 ^ i := Nat.mod_lt _ (Nat.pos_of_ne_zero (by simp))
  rw [Nat.mod_eq_of_lt (by omega)] at hp
  have ha := Nat.div_le_self x (2 ^ i)
  have hb := Nat.div_le_self y (2 ^ i)
  omega

theorem Inv.step {and : Bool} {x y i a b n p : Nat} (hx : x < 18446744073709551616) (hy : y < 18446744073709551616) (hi : i < 64) (h : Inv and x y i a b n p) :
    Inv and x y (i + 1) (a / 2) (b / 2) (n + if bitOn and a b then p else 0) ((p + p) % 18446744073709551616) := by
  have hb := h.bound hx hy hi
  obtain ⟨rfl, rfl, rfl, hp⟩ := h
  obtain ⟨-, -, -, -, hp2⟩ := hb
  subst hp2
  refine ⟨by rw [Nat.pow_succ, Nat.div_div_eq_div_mul], by rw [Nat.pow_succ, Nat.div_div_eq_div_mul], ?_, by rw [Nat.pow_succ]; congr 1; omega⟩
  have hb := natBit_testBit and x y i
  rw [Nat.testBit_eq_decide_div_mod_eq] at hb
  rw [← hb, Nat.pow_succ, Nat.mod_mul]
  rcases Nat.mod_two_eq_zero_or_one (natBit and x y / 2 ^ i) with h | h <;> simp [h]

theorem and_low (x y : Nat) : (x &&& y) % 4294967296 = (x % 4294967296) &&& (y % 4294967296) := Nat.and_mod_two_pow (n := 32)
end Go.Proofs.YtdbjklngnloibabGreat.num

/- Programs that run, on plain numbers: a machine, a step, so many steps; rows of cells in memory. -/
namespace Go.Proofs.YtdbjklngnloibabGreat.form
open Go.RowKit Go.Proofs.YtdbjklngnloibabGreat.num

/-- What an instruction gives, of what it takes and of what comes in. -/
def gvI (i : LIns) (a b x : Int) : Int :=
  if i.op = 1 then i.n else if i.op = 2 then a else if i.op = 3 then x else if i.op = 5 then IntKind.u64.wrap (IntKind.u64.wrap (b * 4294967296) + a)
  else if i.op = 6 then a % 4294967296 else if i.op = 7 then a / 4294967296
  else if 40 < i.op then opR .u64 (i.op - 40) a b else opR .u32 (i.op - 20) (a % 4294967296) (b % 4294967296)

/-- Where it goes on. -/
def nxI (i : LIns) (pc : Nat) (a : Int) : Int := if i.op = 8 ∨ (i.op = 9 ∧ ¬ a = 0) then i.c else pc + 1
def stI (i : LIns) (nC : Nat) (nx : Int) : Int := if i.op = 10 then 1 else if (nC : Int) ≤ nx then 2 else 0

/-- A machine: where it is, its temporaries, how many ins are taken, what came out, its state, its steps. -/
structure Mac where
  pc : Nat
  temps : List Int
  taken : Nat
  out : List Int
  state : Int
  steps : Nat

def Mac.start (nB : Nat) : Mac := ⟨0, List.replicate nB 0, 0, [], 0, 0⟩

def inOf (ins : List Int) (k : Nat) : Int := ins.getD k 0

def Mac.step (C : List LIns) (ins : List Int) (m : Mac) : Mac :=
  let i := C.getD m.pc .zero
  let a := m.temps.getD i.a.toNat 0
  let b := m.temps.getD i.b.toNat 0
  let nx := nxI i m.pc a
  { pc := nx.toNat
    temps := if givesB i.op then m.temps.set i.dest.toNat (gvI i a b (inOf ins m.taken)) else m.temps
    taken := if i.op = 3 ∧ m.taken < ins.length then m.taken + 1 else m.taken
    out := if i.op = 4 then m.out ++ [a % 4294967296] else m.out
    state := stI i C.length nx
    steps := m.steps + 1 }

/-- A row of cells that may be written. -/
def Row (w : World) (b : Nat) (t : TypeId) (cs : List Value) : Prop := w.heap[b]? = some (.cells cs.toArray t (0, 0))

theorem Row.lt {w : World} {b : Nat} {t : TypeId} {cs : List Value} (h : Row w b t cs) : b < w.heap.size := lt_of_block h
theorem Row.cell {w : World} {b : Nat} {t : TypeId} {cs : List Value} (h : Row w b t cs) (j : Nat) : w.cell? ⟨b, j, none⟩ = cs[j]? := by
  rw [cell_of_row w b j _ t (0, 0) h]; simp
theorem Row.frozen {w : World} {b : Nat} {t : TypeId} {cs : List Value} (h : Row w b t cs) (j : Nat) : w.frozen? ⟨b, j, none⟩ = false := by
  unfold Row at h; simp [World.frozen?, h]
theorem Row.set {w : World} {b : Nat} {t : TypeId} {cs : List Value} (h : Row w b t cs) (j : Nat) (v : Value) : Row (w.setCell ⟨b, j, none⟩ v) b t (cs.set j v) := by
  unfold Row at *
  rw [heap_setCell_same w b j _ t v h]; simp
theorem Row.other {w : World} {b : Nat} {t : TypeId} {cs : List Value} (h : Row w b t cs) {a : Addr} (ha : b ≠ a.block) (v : Value) : Row (w.setCell a v) b t cs := by
  unfold Row at *
  rw [heap_setCell_other w a b v ha]; exact h
theorem Row.below {w w' : World} {b : Nat} {t : TypeId} {cs : List Value} (h : Row w b t cs) (hb : Below w.heap.size w w') : Row w' b t cs := by
  have := h.lt
  unfold Row at *
  rw [hb.block b this]; exact h
theorem Row.alloc {w : World} {b : Nat} {t : TypeId} {cs : List Value} (h : Row w b t cs) (o : Obj) : Row (w.alloc o) b t cs := h.below ((Below.refl _ _).alloc (Nat.le_refl _) _)
theorem Row.drew {w : World} {b : Nat} {t : TypeId} {cs : List Value} (h : Row w b t cs) : Row w.drew b t cs := h
theorem Row.grown {w w' : World} {b : Nat} {t : TypeId} {cs : List Value} {row : Option Nat} (h : Row w b t cs) (hg : w.grownBy w' row) (hne : some b ≠ row) : Row w' b t cs := by
  have := h.lt
  unfold Row at *
  rw [hg.block b this hne]; exact h
theorem Row.new (w : World) (t : TypeId) (cs : List Value) : Row (w.alloc (.cells cs.toArray t)) w.heap.size t cs := heap_alloc_new w _

theorem cell_other {wr : World} {p q : Addr} {u u' : Value} (h : wr.cell? p = some u) (hne : p.block ≠ q.block) : (wr.setCell q u').cell? p = some u := by
  rw [World.cell?_of_block (Below.heap_setCell _ _ _ _ hne)]; exact h

end Go.Proofs.YtdbjklngnloibabGreat.form

/- What the functions on numbers come to: the document's. -/
namespace Go.Proofs.YtdbjklngnloibabGreat.num
open Go.RowKit

theorem ret_int {k : IntKind} {a b : Int} (h : a = b) : Ending.returned (.int k a) = .returned (.int k b) := by rw [h]

end Go.Proofs.YtdbjklngnloibabGreat.num

/- What the document's functions on runs answer: Wrong, Gives, Next, Same. -/
namespace Go.Proofs.YtdbjklngnloibabGreat.form
open Go.RowKit Go.Proofs.YtdbjklngnloibabGreat.num
set_option linter.unusedVariables false
attribute [local go_sem ↓] Go.wp_at_zero Go.wp_at_succ

/-- What came out, as a list. -/
def OutIs (w : World) (v : Value) (l : List Int) : Prop :=
  ∃ ao cap, v = .slice ao l.length cap ∧ l.length ≤ 1000000 ∧ (0 < l.length → ∃ b o, ao = some ⟨b, o, none⟩ ∧ b < w.heap.size ∧ ∀ j, j < l.length → w.cell? ⟨b, o + j, none⟩ = some (.int .u32 (l.getD j 0)))
def ShownIs (w : World) (v : Value) (st : Int) (l : List Int) (k : Int) : Prop := ∃ ov, v = .agg #[.int .i64 st, ov, .int .i64 k] ∧ OutIs w ov l

theorem OutIs.later {w w' : World} {v : Value} {l : List Int} (h : OutIs w v l) (hb : Below w.heap.size w w') : OutIs w' v l := by
  obtain ⟨ao, cap, hv, hl, hc⟩ := h
  refine ⟨ao, cap, hv, hl, fun h0 => ?_⟩
  obtain ⟨b, o, e, hlt, hcell⟩ := hc h0
  exact ⟨b, o, e, Nat.lt_of_lt_of_le hlt hb.size, fun j hj => step_cell hb (hcell j hj)⟩
theorem ShownIs.later {w w' : World} {v : Value} {st k : Int} {l : List Int} (h : ShownIs w v st l k) (hb : Below w.heap.size w w') : ShownIs w' v st l k := by
  obtain ⟨ov, hv, ho⟩ := h
  exact ⟨ov, hv, ho.later hb⟩

def sameB (s1 k1 s2 k2 : Int) (l1 l2 : List Int) : Bool := decide (s1 = s2) && decide (k1 = k2) && decide (l1 = l2)

set_option maxRecDepth 100000 in
set_option maxHeartbeats 1000000 in
theorem same (va vb : Value) (s1 k1 s2 k2 : Int) (l1 l2 : List Int) (w : World) (h1 : ShownIs w va s1 l1 k1) (h2 : ShownIs w vb s2 l2 k2) :
    Calls Tryz.prog 11 #[va, vb] w fun e w' => e = .returned (.bool (sameB s1 k1 s2 k2 l1 l2)) ∧ Below w.heap.size w w' := by
  obtain ⟨ov, rfl, ao, cap, rfl, hl1, hc1⟩ := h1
  obtain ⟨ov, rfl, bo, cbp, rfl, hl2, hc2⟩ := h2
  have HC1 : Hid _ := hc1
  have HC2 : Hid _ := hc2
  clear hc1 hc2
  by_cases hs : s1 = s2 ∧ k1 = k2 ∧ l1.length = l2.length
  case neg =>
    have hf : sameB s1 k1 s2 k2 l1 l2 = false := by
      unfold sameB
      simp only [Bool.and_eq_false_iff, decide_eq_false_iff_not]
      by_cases e1 : s1 = s2
      · by_cases e2 : k1 = k2
        · exact Or.inr (fun e => hs ⟨e1, e2, by rw [e]⟩)
        · exact Or.inl (Or.inr e2)
      · exact Or.inl (Or.inl e1)
    rw [hf]
    rcases (show (s1 != s2) = true ∨ ((s1 != s2) = false ∧ (k1 != k2) = true) ∨ ((s1 != s2) = false ∧ (k1 != k2) = false ∧ ((l1.length : Int) != (l2.length : Int)) = true) by
      by_cases e1 : s1 = s2
      · by_cases e2 : k1 = k2
        · have : ¬ l1.length = l2.length := fun e => hs ⟨e1, e2, e⟩
          exact Or.inr (Or.inr ⟨by simp [e1], by simp [e2], by simp; omega⟩)
        · exact Or.inr (Or.inl ⟨by simp [e1], by simp [e2]⟩)
      · exact Or.inl (by simp [e1])) with e1 | ⟨e1, e2⟩ | ⟨e1, e2, e3⟩
    all_goals
      clear hs hf
      go_enter Tryz.func11, Tryz.ntmps11
      go_wp2
      go_ret
      exact ⟨rfl, ((Below.refl _ _).alloc (Nat.le_refl _) _).alloc (by simp) _⟩
  obtain ⟨rfl, rfl, hlen⟩ := hs
  have HL : Hid (l1.length = l2.length) := hlen
  have hll : (l1.length : Int) = (l2.length : Int) := by omega
  have e3 : ((l1.length : Int) != (l2.length : Int)) = false := by simp [hlen]
  clear hlen hll
  go_enter Tryz.func11, Tryz.ntmps11
  go_wp2
  go_loopw [5] (fun i wr => ∃ k : Nat, k ≤ l1.length ∧ i = .int .i64 k ∧ Below w.heap.size w wr ∧
      wr.cell? ⟨w.heap.size, 1, none⟩ = some (.slice ao l1.length cap) ∧ wr.cell? ⟨w.heap.size + 1, 1, none⟩ = some (.slice bo l2.length cbp) ∧ (∀ j, j < k → l1.getD j 0 = l2.getD j 0))
    (fun i _ => l1.length - (intOf i).toNat)
  case atStart => exact ⟨0, by omega, rfl, ((Below.refl _ _).alloc (Nat.le_refl _) _).alloc (by simp) _, by simp [go_sem], by simp [go_sem], fun j hj => absurd hj (by omega)⟩
  case round =>
    obtain ⟨k, hk, rfl, hbel, p1, q1, hall⟩ := hrel
    have F : Hid _ := hall
    clear hall
    by_cases hlt : k < l1.length
    · obtain ⟨ba, oa, rfl, hb1, hcell1⟩ := HC1.out (by omega)
      obtain ⟨bb, ob, rfl, hb2, hcell2⟩ := HC2.out (by have := HL.out; omega)
      have x1 := step_cell hbel (hcell1 k hlt)
      have x2 := step_cell hbel (hcell2 k (by have := HL.out; omega))
      have y1 : (0 : Int) ≤ (k : Int) := by omega
      have y2 : (k : Int) < (l1.length : Int) := by omega
      have y3 : (k : Int) < (l2.length : Int) := by have := HL.out; omega
      obtain ⟨u1, hu1⟩ : ∃ u, u = l1.getD k 0 := ⟨_, rfl⟩
      obtain ⟨u2, hu2⟩ : ∃ u, u = l2.getD k 0 := ⟨_, rfl⟩
      rw [← hu1] at x1
      rw [← hu2] at x2
      have HU1 : Hid (u1 = l1.getD k 0) := hu1
      have HU2 : Hid (u2 = l2.getD k 0) := hu2
      clear hu1 hu2 hcell1 hcell2
      go_wp2
      go_quiet (fail)
      go_wp2
      · go_ret
        refine ⟨ret_bool ?_, below_drewN hbel _⟩
        have hne : (u1 != u2) = true := by assumption
        unfold sameB
        rw [eq_comm]
        simp only [Bool.and_eq_false_iff, decide_eq_false_iff_not]
        right
        intro e
        rw [HU1.out, HU2.out, e] at hne
        simp at hne
      · refine ⟨⟨k + 1, by omega, by go_num, below_drewN hbel _, p1, q1, ?_⟩, by simp [intOf]; omega⟩
        have hne : (u1 != u2) = false := by assumption
        intro j hj
        by_cases hjk : j < k
        · exact F.out j hjk
        · obtain rfl : j = k := by omega
          rw [← HU1.out, ← HU2.out]
          simpa using hne
    · go_wp2
      go_ret
      refine ⟨ret_bool ?_, hbel⟩
      unfold sameB
      have he : l1 = l2 := by
        apply List.ext_getElem HL.out
        intro j h1 h2
        have := F.out j (by omega)
        simpa [List.getD, h1, h2] using this
      simp [he]

end Go.Proofs.YtdbjklngnloibabGreat.form
