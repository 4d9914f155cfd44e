/- What check.Takes and build.Build must answer for CheckIdle, whatever 'taken' is. -/
import Derived.WalkKit
import Derived.Laws.BitsAllLaws
import Derived.Laws.Rows
import Derived.OneCell
import Derived.Deep.AppendLies
import Derived.Test.YtcmnmogmdhofcabGreatI05
import Derived.Test.YtcmnmogmdhofcabGreatI04
import Derived.Test.YtcmnmogmdhofcabGreatI01
import Derived.Test.YtcmnmogmdhofcabGreatI03

namespace Go.Proofs.YtcmnmogmdhofcabGreat.form
open Go.RowKit
set_option linter.unusedVariables false

def TakesT (T : List Bool → List LIns → Int → Int → List LRow → Prop) : Prop := ∀ (pv lv : Value) (B : List Bool) (C : List LIns) (s slots : Int) (R : List LRow) (w : World), ProgIs w pv B C → PlacedIs w lv slots R → RowsOk R →
  Calls Tryz.prog 6 #[pv, targetV s, lv] w fun e w' => (∃ b, e = .returned (.bool b) ∧ (b = true ↔ T B C s slots R)) ∧ Below w.heap.size w w'
structure GoodT (T : List Bool → List LIns → Int → Int → List LRow → Prop) (B : List Bool) (C : List LIns) (s slots : Int) (R : List LRow) : Prop where
  tk : T B C s slots R
  ok : RowsOk R
  l0 : 0 < R.length
  l1 : R.length ≤ 40
  s0 : 0 ≤ slots
  s1 : slots ≤ 12
  t0 : 4 ≤ s
  t1 : s ≤ 16
def BuildT (T : List Bool → List LIns → Int → Int → List LRow → Prop) : Prop := ∀ (pv : Value) (B : List Bool) (C : List LIns) (s : Int) (w : World), ProgIs w pv B C →
  Calls Tryz.prog 13 #[pv, targetV s] w fun e w' => ∃ lo lc x slots R, e = .returned (.tuple #[.agg #[.int .i64 slots, .slice lo R.length lc], .int .i64 x]) ∧ PlacedIs w' (.agg #[.int .i64 slots, .slice lo R.length lc]) slots R ∧ (x = 0 ∨ x = 2) ∧ (x = 0 → GoodT T B C s slots R) ∧ Below w.heap.size w w'

end Go.Proofs.YtcmnmogmdhofcabGreat.form

/- A program that halts at once, and its places, in memory. -/
namespace Go.Proofs.YtcmnmogmdhofcabGreat.form
open Go.RowKit
set_option linter.unusedVariables false

def haltI : LIns := ⟨10, 0, 0, 0, 0, 0⟩
theorem one_prog {w : World} {b0 b1 c0 c1 : Nat} (h0 : w.cell? ⟨b0, 0, none⟩ = some (.bool false)) (h1 : w.cell? ⟨b1, 0, none⟩ = some (.int .i64 10)) (h2 : ∀ j, 0 < j → j < 5 → w.cell? ⟨b1, j, none⟩ = some (.int .i64 0)) (h3 : w.cell? ⟨b1, 5, none⟩ = some (.int .u32 0)) :
    ProgIs w (.agg #[.slice (some ⟨b0, 0, none⟩) 1 c0, .slice (some ⟨b1, 0, none⟩) 1 c1]) [false] [haltI] := by
  have l0 := World.block_lt_of_cell? w _ h0
  have l1 := World.block_lt_of_cell? w _ h1
  refine ⟨⟨_, _, _, _, rfl, fun _ _ => ⟨b0, 0, b1, 0, rfl, rfl, l0, l1, fun i hi => ?_, fun i hi => ?_⟩⟩, by simp, by simp, fun i hi => ?_⟩
  · have : i = 0 := by simp at hi; omega
    subst this
    simpa using h0
  · have : i = 0 := by simp at hi; omega
    subst this
    exact ⟨by simpa [haltI] using h1, by simpa [haltI] using h2 1 (by omega) (by omega), by simpa [haltI] using h2 2 (by omega) (by omega), by simpa [haltI] using h2 3 (by omega) (by omega), by simpa [haltI] using h2 4 (by omega) (by omega), by simpa [haltI] using h3⟩
  · have : i = 0 := by simp at hi; omega
    subst this
    simp [haltI]
theorem one_placed {w : World} {b2 c2 : Nat} (h : ∀ j, j < 6 → w.cell? ⟨b2, j, none⟩ = some (.int .i64 0)) (h6 : w.cell? ⟨b2, 6, none⟩ = some (.slice none 0 0)) (h7 : w.cell? ⟨b2, 7, none⟩ = some (.slice none 0 0)) :
    PlacedIs w (.agg #[.int .i64 0, .slice (some ⟨b2, 0, none⟩) 1 c2]) 0 [.zero] := by
  have l0 := World.block_lt_of_cell? w _ h6
  refine ⟨_, _, rfl, by simp, fun _ => ⟨b2, 0, rfl, l0, fun r hr => ?_⟩⟩
  have : r = 0 := by simp at hr; omega
  subst this
  have hz : MovesIs w (.slice none 0 0) [] := ⟨none, 0, rfl, by simp, fun hh => absurd hh (by simp)⟩
  exact ⟨by simpa [LRow.zero, LPlace.zero] using h 0 (by omega), by simpa [LRow.zero, LPlace.zero] using h 1 (by omega), by simpa [LRow.zero, LPlace.zero] using h 2 (by omega), by simpa [LRow.zero, LPlace.zero] using h 3 (by omega), by simpa [LRow.zero, LPlace.zero] using h 4 (by omega), by simpa [LRow.zero, LPlace.zero] using h 5 (by omega), _, _, by simpa using h6, by simpa using h7, hz, hz⟩

end Go.Proofs.YtcmnmogmdhofcabGreat.form

/- Plain facts on numbers of 32 and 64 bits: what each operation comes to, and the document's bit-by-bit reckoning; no program in sight. -/
namespace Go.Proofs.YtcmnmogmdhofcabGreat.num

def opR (k : IntKind) (op a b : Int) : Int :=
  if op == 1 then k.wrap (a + b) else if op == 2 then k.wrap (a - b) else if op == 3 then k.wrap (a * b)
  else if op == 4 then bits .and k a b else if op == 5 then bits .xor k a b
  else if op == 6 then (if a < b then 1 else 0) else 0

def natBit (and : Bool) (x y : Nat) : Nat := if and then x &&& y else x ^^^ y

def Inv (and : Bool) (x y i a b n p : Nat) : Prop :=
  a = x / 2 ^ i ∧ b = y / 2 ^ i ∧ n = natBit and x y % 2 ^ i ∧ p = 2 ^ i % 18446744073709551616

theorem Inv.start (and : Bool) (x y : Nat) : Inv and x y 0 x y 0 1 := by
  refine ⟨by simp, by simp, by simp [Nat.mod_one], by decide⟩

theorem Inv.fin {and : Bool} {x y a b n p : Nat} (hx : x < 18446744073709551616) (hy : y < 18446744073709551616) (h : Inv and x y 64 a b n p) : n = natBit and x y := by
  have h3 := h.2.2.1
  have hlt : natBit and x y < 2 ^ 64 := by
    have hx' : x < 2 ^ 64 := by simpa using hx
    have hy' : y < 2 ^ 64 := by simpa using hy
    unfold natBit
    cases and
    · simpa using Nat.xor_lt_two_pow hx' hy'
    · simpa using Nat.and_lt_two_pow x hy'
  rw [h3, Nat.mod_eq_of_lt hlt]

def bitOn (and : Bool) (a b : Nat) : Bool := if and then a % 2 + b % 2 == 2 else a % 2 != b % 2

theorem natBit_testBit (and : Bool) (x y i : Nat) : (natBit and x y).testBit i = bitOn and (x / 2 ^ i) (y / 2 ^ i) := by
  have h1 := Nat.mod_two_eq_zero_or_one (x / 2 ^ i)
  have h2 := Nat.mod_two_eq_zero_or_one (y / 2 ^ i)
  unfold natBit bitOn
  cases and
  · simp only [Bool.false_eq_true, if_false]
    rw [Nat.testBit_xor, Nat.testBit_eq_decide_div_mod_eq, Nat.testBit_eq_decide_div_mod_eq]
    rcases h1 with h1 | h1 <;> rcases h2 with h2 | h2 <;> simp [h1, h2]
  · simp only [if_true]
    rw [Nat.testBit_and, Nat.testBit_eq_decide_div_mod_eq, Nat.testBit_eq_decide_div_mod_eq]
    rcases h1 with h1 | h1 <;> rcases h2 with h2 | h2 <;> simp [h1, h2]

theorem Inv.bound {and : Bool} {x y i a b n p : Nat} (hx : x < 18446744073709551616) (hy : y < 18446744073709551616) (hi : i < 64) (h : Inv and x y i a b n p) :
    a < 18446744073709551616 ∧ b < 18446744073709551616 ∧ n + p < 18446744073709551616 ∧ p < 18446744073709551616 ∧ p = 2 ^ i := by
  obtain ⟨rfl, rfl, rfl, hp⟩ := h
  have hpw : 2 ^ i ≤ 2 ^ 63 := Nat.pow_le_pow_right (by decide) (by omega)
  have h63 : (2 : Nat) ^ 63 = 9223372036854775808 := by decide
  have hlt : natBit and x y % 2 ^ i < 2 ^ i := Nat.mod_lt _ (Nat.pos_of_ne_zero (by simp))
  rw [Nat.mod_eq_of_lt (by omega)] at hp
  have ha := Nat.div_le_self x (2 ^ i)
  have hb := Nat.div_le_self y (2 ^ i)
  omega

theorem Inv.step {and : Bool} {x y i a b n p : Nat} (hx : x < 18446744073709551616) (hy : y < 18446744073709551616) (hi : i < 64) (h : Inv and x y i a b n p) :
    Inv and x y (i + 1) (a / 2) (b / 2) (n + if bitOn and a b then p else 0) ((p + p) % 18446744073709551616) := by
  have hb := h.bound hx hy hi
  obtain ⟨rfl, rfl, rfl, hp⟩ := h
  obtain ⟨-, -, -, -, hp2⟩ := hb
  subst hp2
  refine ⟨by rw [Nat.pow_succ, Nat.div_div_eq_div_mul], by rw [Nat.pow_succ, Nat.div_div_eq_div_mul], ?_, by rw [Nat.pow_succ]; congr 1; omega⟩
  have hb := natBit_testBit and x y i
  rw [Nat.testBit_eq_decide_div_mod_eq] at hb
  rw [← hb, Nat.pow_succ, Nat.mod_mul]
  rcases Nat.mod_two_eq_zero_or_one (natBit and x y / 2 ^ i) with h | h <;> simp [h]

theorem and_low (x y : Nat) : (x &&& y) % 4294967296 = (x % 4294967296) &&& (y % 4294967296) := Nat.and_mod_two_pow (n := 32)
end Go.Proofs.YtcmnmogmdhofcabGreat.num

/- Programs that run, on plain numbers: a machine, a step, so many steps; rows of cells in memory. -/
namespace Go.Proofs.YtcmnmogmdhofcabGreat.form
open Go.RowKit Go.Proofs.YtcmnmogmdhofcabGreat.num

def gvI (i : LIns) (a b x : Int) : Int :=
  if i.op = 1 then i.n else if i.op = 2 then a else if i.op = 3 then x else if i.op = 5 then IntKind.u64.wrap (IntKind.u64.wrap (b * 4294967296) + a)
  else if i.op = 6 then a % 4294967296 else if i.op = 7 then a / 4294967296
  else if 40 < i.op then opR .u64 (i.op - 40) a b else opR .u32 (i.op - 20) (a % 4294967296) (b % 4294967296)

def nxI (i : LIns) (pc : Nat) (a : Int) : Int := if i.op = 8 ∨ (i.op = 9 ∧ ¬ a = 0) then i.c else pc + 1
def stI (i : LIns) (nC : Nat) (nx : Int) : Int := if i.op = 10 then 1 else if (nC : Int) ≤ nx then 2 else 0

structure Mac where
  pc : Nat
  temps : List Int
  taken : Nat
  out : List Int
  state : Int
  steps : Nat

def Mac.start (nB : Nat) : Mac := ⟨0, List.replicate nB 0, 0, [], 0, 0⟩

def inOf (ins : List Int) (k : Nat) : Int := ins.getD k 0

def Mac.step (C : List LIns) (ins : List Int) (m : Mac) : Mac :=
  let i := C.getD m.pc .zero
  let a := m.temps.getD i.a.toNat 0
  let b := m.temps.getD i.b.toNat 0
  let nx := nxI i m.pc a
  { pc := nx.toNat
    temps := if givesB i.op then m.temps.set i.dest.toNat (gvI i a b (inOf ins m.taken)) else m.temps
    taken := if i.op = 3 ∧ m.taken < ins.length then m.taken + 1 else m.taken
    out := if i.op = 4 then m.out ++ [a % 4294967296] else m.out
    state := stI i C.length nx
    steps := m.steps + 1 }

def Row (w : World) (b : Nat) (t : TypeId) (cs : List Value) : Prop := w.heap[b]? = some (.cells cs.toArray t (0, 0))

theorem Row.lt {w : World} {b : Nat} {t : TypeId} {cs : List Value} (h : Row w b t cs) : b < w.heap.size := lt_of_block h
theorem Row.cell {w : World} {b : Nat} {t : TypeId} {cs : List Value} (h : Row w b t cs) (j : Nat) : w.cell? ⟨b, j, none⟩ = cs[j]? := by
  rw [cell_of_row w b j _ t (0, 0) h]; simp
theorem Row.frozen {w : World} {b : Nat} {t : TypeId} {cs : List Value} (h : Row w b t cs) (j : Nat) : w.frozen? ⟨b, j, none⟩ = false := by
  unfold Row at h; simp [World.frozen?, h]
theorem Row.set {w : World} {b : Nat} {t : TypeId} {cs : List Value} (h : Row w b t cs) (j : Nat) (v : Value) : Row (w.setCell ⟨b, j, none⟩ v) b t (cs.set j v) := by
  unfold Row at *
  rw [heap_setCell_same w b j _ t v h]; simp
theorem Row.other {w : World} {b : Nat} {t : TypeId} {cs : List Value} (h : Row w b t cs) {a : Addr} (ha : b ≠ a.block) (v : Value) : Row (w.setCell a v) b t cs := by
  unfold Row at *
  rw [heap_setCell_other w a b v ha]; exact h
theorem Row.below {w w' : World} {b : Nat} {t : TypeId} {cs : List Value} (h : Row w b t cs) (hb : Below w.heap.size w w') : Row w' b t cs := by
  have := h.lt
  unfold Row at *
  rw [hb.block b this]; exact h
theorem Row.alloc {w : World} {b : Nat} {t : TypeId} {cs : List Value} (h : Row w b t cs) (o : Obj) : Row (w.alloc o) b t cs := h.below ((Below.refl _ _).alloc (Nat.le_refl _) _)
theorem Row.drew {w : World} {b : Nat} {t : TypeId} {cs : List Value} (h : Row w b t cs) : Row w.drew b t cs := h
theorem Row.grown {w w' : World} {b : Nat} {t : TypeId} {cs : List Value} {row : Option Nat} (h : Row w b t cs) (hg : w.grownBy w' row) (hne : some b ≠ row) : Row w' b t cs := by
  have := h.lt
  unfold Row at *
  rw [hg.block b this hne]; exact h
theorem Row.new (w : World) (t : TypeId) (cs : List Value) : Row (w.alloc (.cells cs.toArray t)) w.heap.size t cs := heap_alloc_new w _

theorem cell_other {wr : World} {p q : Addr} {u u' : Value} (h : wr.cell? p = some u) (hne : p.block ≠ q.block) : (wr.setCell q u').cell? p = some u := by
  rw [World.cell?_of_block (Below.heap_setCell _ _ _ _ hne)]; exact h

end Go.Proofs.YtcmnmogmdhofcabGreat.form

/- Rows of places and moves that are copied: what lies where. -/
namespace Go.Proofs.YtcmnmogmdhofcabGreat.form
open Go.RowKit
set_option linter.unusedVariables false

theorem infRowA : (Tryz.prog.info? 40).map (fun i => (i.zero, i.size, i.bytes)) = some (some (.agg #[.int .i64 0, .int .i64 0, .int .i64 0, .int .i64 0, .int .i64 0, .int .i64 0, .slice none 0 0, .slice none 0 0]), 8, 96) := by kernel_rfl
theorem infMoveA : (Tryz.prog.info? 52).map (fun i => (i.zero, i.size, i.bytes)) = some (some (.agg #[.int .i64 0, .int .i64 0, .int .i64 0, .int .i64 0, .bool false, .int .u32 0]), 6, 40) := by kernel_rfl

def cellsAt (w : World) (b o m : Nat) : List Value := (List.range m).map fun j => (w.cell? ⟨b, o + j, none⟩).getD undef
theorem cellsAt_len (w : World) (b o m : Nat) : (cellsAt w b o m).length = m := by simp [cellsAt]
theorem cellsAt_get {w : World} {b o m : Nat} (h : ∀ j, j < m → ∃ u, w.cell? ⟨b, o + j, none⟩ = some u ∧ u.oneCell' = true) {j : Nat} (hj : j < m) : (cellsAt w b o m)[j]? = w.cell? ⟨b, o + j, none⟩ := by
  unfold cellsAt
  rw [List.getElem?_map, List.getElem?_range hj]
  obtain ⟨u, hu, -⟩ := h j hj
  simp [hu]
theorem cellsAt_news {w : World} {b o m : Nat} (h : ∀ j, j < m → ∃ u, w.cell? ⟨b, o + j, none⟩ = some u ∧ u.oneCell' = true) : ∀ j u, (cellsAt w b o m)[j]? = some u → w.cell? ((⟨b, o, none⟩ : Addr).add j) = some u := by
  intro j u hu
  have hj : j < m := by
    rcases Nat.lt_or_ge j m with h1 | h1
    · exact h1
    · rw [List.getElem?_eq_none (by rw [cellsAt_len]; exact h1)] at hu; cases hu
  rw [cellsAt_get h hj] at hu
  rw [show (⟨b, o, none⟩ : Addr).add j = ⟨b, o + j, none⟩ by simp [Addr.add]]
  exact hu
theorem cellsAt_one {w : World} {b o m : Nat} (h : ∀ j, j < m → ∃ u, w.cell? ⟨b, o + j, none⟩ = some u ∧ u.oneCell' = true) : ∀ u, u ∈ cellsAt w b o m → u.oneCell' = true := by
  intro u hu
  unfold cellsAt at hu
  obtain ⟨j, hj, rfl⟩ := List.mem_map.1 hu
  obtain ⟨v, hv, hv2⟩ := h j (by simpa using hj)
  rw [hv]
  exact hv2

theorem rows_cells {w : World} {b o : Nat} {R : List LRow} (h : RowsHeld w b o R) : ∀ j, j < R.length * 8 → ∃ u, w.cell? ⟨b, o + j, none⟩ = some u ∧ u.oneCell' = true := by
  intro j hj
  obtain ⟨r, i, rfl, hi⟩ : ∃ r i, j = r * 8 + i ∧ i < 8 := ⟨j / 8, j % 8, by omega, by omega⟩
  obtain ⟨c0, c1, c2, c3, c4, c5, vb, va, c6, c7, m0, m1⟩ := h.rows r (by omega)
  obtain ⟨ab, cb, rfl, -, -⟩ := m0
  obtain ⟨aa, ca, rfl, -, -⟩ := m1
  rw [show o + (r * 8 + i) = o + r * 8 + i by omega]
  rcases (show i = 0 ∨ i = 1 ∨ i = 2 ∨ i = 3 ∨ i = 4 ∨ i = 5 ∨ i = 6 ∨ i = 7 by omega) with rfl | rfl | rfl | rfl | rfl | rfl | rfl | rfl
  · exact ⟨_, c0, rfl⟩
  · exact ⟨_, c1, rfl⟩
  · exact ⟨_, c2, rfl⟩
  · exact ⟨_, c3, rfl⟩
  · exact ⟨_, c4, rfl⟩
  · exact ⟨_, c5, rfl⟩
  · exact ⟨_, c6, rfl⟩
  · exact ⟨_, c7, rfl⟩

theorem moves_cells {w : World} {b o : Nat} {l : List LMove} (h : ∀ k, k < l.length → w.cell? ⟨b, o + k * 6, none⟩ = some (.int .i64 (l.getD k .zero).dst.kind) ∧ w.cell? ⟨b, o + k * 6 + 1, none⟩ = some (.int .i64 (l.getD k .zero).dst.n) ∧ w.cell? ⟨b, o + k * 6 + 2, none⟩ = some (.int .i64 (l.getD k .zero).src.kind) ∧ w.cell? ⟨b, o + k * 6 + 3, none⟩ = some (.int .i64 (l.getD k .zero).src.n) ∧ w.cell? ⟨b, o + k * 6 + 4, none⟩ = some (.bool (l.getD k .zero).cst) ∧ w.cell? ⟨b, o + k * 6 + 5, none⟩ = some (.int .u32 (l.getD k .zero).n)) :
    ∀ j, j < l.length * 6 → ∃ u, w.cell? ⟨b, o + j, none⟩ = some u ∧ u.oneCell' = true := by
  intro j hj
  obtain ⟨r, i, rfl, hi⟩ : ∃ r i, j = r * 6 + i ∧ i < 6 := ⟨j / 6, j % 6, by omega, by omega⟩
  obtain ⟨c0, c1, c2, c3, c4, c5⟩ := h r (by omega)
  rw [show o + (r * 6 + i) = o + r * 6 + i by omega]
  rcases (show i = 0 ∨ i = 1 ∨ i = 2 ∨ i = 3 ∨ i = 4 ∨ i = 5 by omega) with rfl | rfl | rfl | rfl | rfl | rfl
  · exact ⟨_, c0, rfl⟩
  · exact ⟨_, c1, rfl⟩
  · exact ⟨_, c2, rfl⟩
  · exact ⟨_, c3, rfl⟩
  · exact ⟨_, c4, rfl⟩
  · exact ⟨_, c5, rfl⟩

theorem moves_more {w w' : World} {b o g cap base : Nat} {m : LMove} {l : List LMove} (hb : w'.ownsRow base 52 6 (.slice (some ⟨g, 0, none⟩) (1 + l.length) cap) (1 + l.length) (moveV m ++ cellsAt w b o (l.length * 6)))
    (h : 0 < l.length → ∀ k, k < l.length → w.cell? ⟨b, o + k * 6, none⟩ = some (.int .i64 (l.getD k .zero).dst.kind) ∧ w.cell? ⟨b, o + k * 6 + 1, none⟩ = some (.int .i64 (l.getD k .zero).dst.n) ∧ w.cell? ⟨b, o + k * 6 + 2, none⟩ = some (.int .i64 (l.getD k .zero).src.kind) ∧ w.cell? ⟨b, o + k * 6 + 3, none⟩ = some (.int .i64 (l.getD k .zero).src.n) ∧ w.cell? ⟨b, o + k * 6 + 4, none⟩ = some (.bool (l.getD k .zero).cst) ∧ w.cell? ⟨b, o + k * 6 + 5, none⟩ = some (.int .u32 (l.getD k .zero).n))
    (hl : l.length ≤ 6) : MovesIs w' (.slice (some ⟨g, 0, none⟩) (1 + l.length) cap) (m :: l) := by
  have hg := (World.ownsRow.lt hb g rfl).2
  have cell : ∀ j, j < (1 + l.length) * 6 → w'.cell? ⟨g, j, none⟩ = (moveV m ++ cellsAt w b o (l.length * 6))[j]? := fun j hj => World.ownsRow.cellAt hb _ (by omega)
  refine ⟨_, cap, by simp [Nat.add_comm], by simp; omega, fun _ => ⟨g, 0, rfl, hg, fun k hk => ?_⟩⟩
  have hk' : k < 1 + l.length := by simp at hk; omega
  simp only [Nat.zero_add]
  rw [cell (k * 6) (by omega), cell (k * 6 + 1) (by omega), cell (k * 6 + 2) (by omega), cell (k * 6 + 3) (by omega), cell (k * 6 + 4) (by omega), cell (k * 6 + 5) (by omega)]
  rcases Nat.eq_zero_or_pos k with rfl | hk0
  · simp [moveV]
  · obtain ⟨q, rfl⟩ : ∃ q, k = q + 1 := ⟨k - 1, by omega⟩
    have hq : q < l.length := by omega
    have hc := h (by omega)
    have hcs := moves_cells hc
    obtain ⟨c0, c1, c2, c3, c4, c5⟩ := hc q hq
    have key : ∀ i, i < 6 → (moveV m ++ cellsAt w b o (l.length * 6))[(q + 1) * 6 + i]? = w.cell? ⟨b, o + q * 6 + i, none⟩ := fun i hi => by
      rw [List.getElem?_append_right (by simp [moveV]; omega), show (q + 1) * 6 + i - (moveV m).length = q * 6 + i by simp [moveV]; omega, cellsAt_get hcs (by omega), show o + (q * 6 + i) = o + q * 6 + i by omega]
    have k0 := key 0 (by omega)
    simp only [Nat.add_zero] at k0
    rw [k0, key 1 (by omega), key 2 (by omega), key 3 (by omega), key 4 (by omega), key 5 (by omega)]
    simp only [List.getD_cons_succ]
    exact ⟨c0, c1, c2, c3, c4, c5⟩

theorem rows_put {w w' : World} {b o g k : Nat} {R : List LRow} {mv : Value} {l : List LMove} (h : RowsHeld w b o R) (hb : Below w.heap.size w w') (hg : g < w'.heap.size) (hk : k < R.length) (hc : ∀ j, j < R.length * 8 → j ≠ k * 8 + 6 → w'.cell? ⟨g, j, none⟩ = w.cell? ⟨b, o + j, none⟩)
    (hm : w'.cell? ⟨g, k * 8 + 6, none⟩ = some mv) (hmv : MovesIs w' mv l) : RowsHeld w' g 0 (R.set k { R.getD k .zero with before := l }) := by
  refine ⟨hg, fun r hr => ?_⟩
  have hr' : r < R.length := by simpa using hr
  obtain ⟨c0, c1, c2, c3, c4, c5, vb, va, c6, c7, m0, m1⟩ := h.rows r hr'
  have key : ∀ i, i < 8 → (r = k → i ≠ 6) → w'.cell? ⟨g, r * 8 + i, none⟩ = w.cell? ⟨b, o + r * 8 + i, none⟩ := fun i hi hne => by
    rw [hc (r * 8 + i) (by omega) (fun e => hne (by omega) (by omega)), show o + (r * 8 + i) = o + r * 8 + i by omega]
  simp only [Nat.zero_add]
  have k0 := key 0 (by omega) (by omega)
  simp only [Nat.add_zero] at k0
  by_cases e : k = r
  · subst e
    rw [show (R.set k { R.getD k .zero with before := l }).getD k .zero = { R.getD k .zero with before := l } by simp [List.getD, hr']]
    exact ⟨k0.trans c0, (key 1 (by omega) (by omega)).trans c1, (key 2 (by omega) (by omega)).trans c2, (key 3 (by omega) (by omega)).trans c3, (key 4 (by omega) (by omega)).trans c4, (key 5 (by omega) (by omega)).trans c5, mv, va, hm, (key 7 (by omega) (by omega)).trans c7, hmv, m1.later hb⟩
  · rw [show (R.set k { R.getD k .zero with before := l }).getD r .zero = R.getD r .zero by simp [List.getD, e]]
    exact ⟨k0.trans c0, (key 1 (by omega) (by omega)).trans c1, (key 2 (by omega) (by omega)).trans c2, (key 3 (by omega) (by omega)).trans c3, (key 4 (by omega) (by omega)).trans c4, (key 5 (by omega) (by omega)).trans c5, vb, va, (key 6 (by omega) (fun e' => absurd e'.symm e)).trans c6, (key 7 (by omega) (by omega)).trans c7, m0.later hb, m1.later hb⟩

theorem rowsOk_put {R : List LRow} {k : Nat} {m : LMove} (h : RowsOk R) (hk : k < R.length) (hm0 : 0 ≤ m.n) (hm1 : m.n < 4294967296) : RowsOk (R.set k { R.getD k .zero with before := m :: (R.getD k .zero).before }) := by
  intro r hr
  have hr' : r < R.length := by simpa using hr
  by_cases e : k = r
  · subst e
    rw [show (R.set k { R.getD k .zero with before := m :: (R.getD k .zero).before }).getD k .zero = { R.getD k .zero with before := m :: (R.getD k .zero).before } by simp [List.getD, hr']]
    refine ⟨fun j hj => ?_, (h k hr').2⟩
    rcases Nat.eq_zero_or_pos j with rfl | hj0
    · exact ⟨hm0, hm1⟩
    · obtain ⟨q, rfl⟩ : ∃ q, j = q + 1 := ⟨j - 1, by omega⟩
      simpa using (h k hr').1 q (by simpa using hj)
  · rw [show (R.set k { R.getD k .zero with before := m :: (R.getD k .zero).before }).getD r .zero = R.getD r .zero by simp [List.getD, e]]
    exact h r hr'

structure IdleR (w1 WM : World) (b2 o2 n : Nat) (sl : Int) (ob g cap : Nat) (wc : World) : Prop where
  bel : Below WM.heap.size WM wc
  c0 : wc.cell? ⟨ob, 0, none⟩ = some (.int .i64 sl)
  c1 : wc.cell? ⟨ob, 1, none⟩ = some (.slice (some ⟨g, 0, none⟩) n cap)
  og : WM.heap.size ≤ ob
  gg : WM.heap.size ≤ g
  ne : ob ≠ g
  ol : ob < wc.heap.size
  gl : g < wc.heap.size
  cells : ∀ j, j < n * 8 → wc.cell? ⟨g, j, none⟩ = w1.cell? ⟨b2, o2 + j, none⟩
  fz : ∀ j, wc.frozen? ⟨g, j, none⟩ = false

theorem own_copied {w1 w3 : World} {base b2 o2 n g cap : Nat} {R : List LRow} (hR : R.length = n) (h : RowsHeld w1 b2 o2 R) (hown : w3.ownsRow base 40 8 (.slice (some ⟨g, 0, none⟩) (0 + n) cap) (0 + n) ([] ++ cellsAt w1 b2 o2 (n * 8))) :
    (∀ j, j < n * 8 → w3.cell? ⟨g, j, none⟩ = w1.cell? ⟨b2, o2 + j, none⟩) ∧ (∀ j, w3.frozen? ⟨g, j, none⟩ = false) ∧ base ≤ g ∧ g < w3.heap.size := by
  have hlt := World.ownsRow.lt hown g rfl
  subst hR
  refine ⟨fun j hj => ?_, fun j => ?_, hlt.1, hlt.2⟩
  · rw [World.ownsRow.cellAt hown _ (by omega), List.nil_append, cellsAt_get (rows_cells h) hj]
  · rcases hown.2 with ⟨e, -⟩ | ⟨g', cap', cur, hv, -, hg, -⟩
    · cases e
    · injection hv with e1
      injection e1 with e2
      injection e2 with e3
      subst e3
      simp [World.frozen?, hg]
theorem froz_below {B g j : Nat} {w w' : World} (hb : Below B w w') (hg : g < B) : w'.frozen? ⟨g, j, none⟩ = w.frozen? ⟨g, j, none⟩ := by
  unfold World.frozen?
  rw [hb.block g hg]
theorem froz_set {w : World} {g j : Nat} {a : Addr} {u : Value} (h : g ≠ a.block) : (w.setCell a u).frozen? ⟨g, j, none⟩ = w.frozen? ⟨g, j, none⟩ := by
  unfold World.frozen?
  rw [Below.heap_setCell _ _ _ _ h]
theorem own_first (w : World) (m : LMove) : (w.alloc (.cells (moveV m).toArray 52)).ownsRow w.heap.size 52 6 (.slice (some ⟨w.heap.size, 0, none⟩) 1 1) 1 (moveV m) :=
  ⟨by simp [moveV], .inr ⟨w.heap.size, 1, (moveV m).toArray, rfl, Nat.le_refl _, heap_alloc_new w _, Nat.le_refl _, by unfold maxLen; omega, by simp [moveV], by simp [moveV]⟩⟩
end Go.Proofs.YtcmnmogmdhofcabGreat.form
