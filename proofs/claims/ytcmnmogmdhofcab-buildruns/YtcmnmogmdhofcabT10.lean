/- Places held against each other (== on structs). -/
import Derived.Test.YtcmnmogmdhofcabProg
import Derived.Laws.StructEq
import Derived.WalkKit
import Derived.Deep.AppendLies
import Derived.BigRegion
import Derived.Deep.DeepCutAuto
import Derived.Test.YtcmnmogmdhofcabT09
import Derived.Test.YtcmnmogmdhofcabT02

namespace Go.Proofs.Ytcmnmogmdhofcab.form
open Go.RowKit
set_option linter.unusedVariables false

theorem eqPlace (w : World) (a b c d : Int) : (binOp .eql 34 (.agg #[.int .i64 a, .int .i64 b]) (.agg #[.int .i64 c, .int .i64 d])).run Try.prog w = .ok (.bool ((a == c) && (b == d))) w := by
  have hu := Try.underlying34
  have h3 : Try.prog.underlying 3 = some (.int .i64) := Try.underlying3
  rw [run_eql_struct, run_equalIn_agg w 9999 34 _ _ (by kernel_rfl) (by kernel_rfl)]
  simp [go_sem, Program.fieldsOf, hu]
  by_cases e1 : a = c <;> by_cases e2 : b = d <;> simp [e1, e2]

theorem neqPlace (w : World) (a b c d : Int) : (binOp .neq 34 (.agg #[.int .i64 a, .int .i64 b]) (.agg #[.int .i64 c, .int .i64 d])).run Try.prog w = .ok (.bool (!((a == c) && (b == d)))) w := by
  have hu := Try.underlying34
  have h3 : Try.prog.underlying 3 = some (.int .i64) := Try.underlying3
  rw [run_neq_struct, run_equalIn_agg w 9999 34 _ _ (by kernel_rfl) (by kernel_rfl)]
  simp [go_sem, Program.fieldsOf, hu]
  by_cases e1 : a = c <;> by_cases e2 : b = d <;> simp [e1, e2]

end Go.Proofs.Ytcmnmogmdhofcab.form

/- What is needed, found by adding from nothing: the truths of all instructions in one row, on plain numbers and in memory. -/
namespace Go.Proofs.Ytcmnmogmdhofcab.form
open Go.RowKit
set_option linter.unusedVariables false

/-- The truth of an instruction and a temporary. -/
def getF (nB : Nat) (L : List Bool) (k t : Nat) : Bool := L.getD (k * nB + t) false
def rowF (nB : Nat) (L : List Bool) (k : Nat) : List Bool := (List.range nB).map (getF nB L k)

theorem flat_inj {nB k t k' t' : Nat} (h : t < nB) (h' : t' < nB) (e : k * nB + t = k' * nB + t') : k = k' ∧ t = t' := by
  have h1 : (k * nB + t) / nB = k := by rw [Nat.mul_comm, Nat.mul_add_div (by omega), Nat.div_eq_of_lt h]; omega
  have h2 : (k' * nB + t') / nB = k' := by rw [Nat.mul_comm, Nat.mul_add_div (by omega), Nat.div_eq_of_lt h']; omega
  rw [e, h2] at h1
  subst h1
  exact ⟨rfl, by omega⟩
theorem flat_lt {nB nC k t : Nat} (hk : k < nC) (ht : t < nB) : k * nB + t < nC * nB := by
  have : (k + 1) * nB ≤ nC * nB := Nat.mul_le_mul_right _ hk
  rw [Nat.succ_mul] at this
  omega
theorem getF_set {nB nC k t k' t' : Nat} {L : List Bool} (hL : L.length = nC * nB) (hk : k < nC) (ht : t < nB) (ht' : t' < nB) :
    getF nB (L.set (k * nB + t) true) k' t' = if k' = k ∧ t' = t then true else getF nB L k' t' := by
  have hlt := flat_lt hk ht
  unfold getF
  by_cases e : k' = k ∧ t' = t
  · rw [if_pos e, e.1, e.2]
    simp [List.getD, hL, hlt]
  · rw [if_neg e]
    have : k * nB + t ≠ k' * nB + t' := fun h => e (by have := flat_inj ht ht' h; omega)
    simp [List.getD, this]

/-- What is needed, by the truths found till now. -/
def stepB (nB : Nat) (C : List LIns) (L : List Bool) (k t : Nat) : Bool :=
  takesI (C.getD k .zero) t || (!givesT (C.getD k .zero) t && (nextsN (C.getD k .zero) k).any fun x => decide (x < C.length) && getF nB L x t)

def Snd (nB : Nat) (C : List LIns) (L : List Bool) : Prop := ∀ k t, k < C.length → t < nB → getF nB L k t = true → Need C t k
def Cls (nB : Nat) (C : List LIns) (L : List Bool) : Prop := ∀ k t, k < C.length → t < nB → getF nB L k t = false → stepB nB C L k t = false

theorem step_need {nB : Nat} {C : List LIns} {L : List Bool} {k t : Nat} (h : Snd nB C L) (hk : k < C.length) (ht : t < nB) (hs : stepB nB C L k t = true) : Need C t k := by
  rw [need_iff]
  refine ⟨hk, ?_⟩
  unfold stepB at hs
  simp only [Bool.or_eq_true, Bool.and_eq_true, Bool.not_eq_true', List.any_eq_true, decide_eq_true_eq] at hs
  rcases hs with hs | ⟨hg, x, hx, hxl, hxt⟩
  · exact Or.inl hs
  · exact Or.inr ⟨hg, x, hx, h x t hxl ht hxt⟩

theorem snd_set {nB : Nat} {C : List LIns} {L : List Bool} {k t : Nat} (h : Snd nB C L) (hL : L.length = C.length * nB) (hk : k < C.length) (ht : t < nB) (hs : stepB nB C L k t = true) : Snd nB C (L.set (k * nB + t) true) := by
  intro k' t' hk' ht' hg
  rw [getF_set hL hk ht ht'] at hg
  by_cases e : k' = k ∧ t' = t
  · rw [e.1, e.2]; exact step_need h hk ht hs
  · rw [if_neg e] at hg; exact h k' t' hk' ht' hg

theorem getF_nothing (nB nC k t : Nat) : getF nB (List.replicate (nC * nB) false) k t = false := by
  unfold getF
  by_cases h : k * nB + t < nC * nB <;> simp [List.getD, h]
theorem snd_nothing (nB : Nat) (C : List LIns) : Snd nB C (List.replicate (C.length * nB) false) := by
  intro k t _ _ h
  rw [getF_nothing] at h
  exact absurd h (by simp)

theorem flat_need {nB : Nat} {C : List LIns} {L : List Bool} (hS : Snd nB C L) (hC : Cls nB C L) {k t : Nat} (hk : k < C.length) (ht : t < nB) : getF nB L k t = true ↔ Need C t k := by
  refine ⟨hS k t hk ht, fun hn => ?_⟩
  refine (need_least C t (fun k => k < C.length ∧ getF nB L k t = true) (fun j hj hor => ⟨hj, ?_⟩) k hn).2
  cases hg : getF nB L j t with
  | true => rfl
  | false =>
    have := hC j t hj ht hg
    unfold stepB at this
    simp only [Bool.or_eq_false_iff, Bool.and_eq_false_iff, Bool.not_eq_false'] at this
    rcases hor with hor | ⟨h1, x, hx, hxl, hxt⟩
    · rw [hor] at this; exact absurd this.1 (by simp)
    · rcases this.2 with h2 | h2
      · rw [h1] at h2; exact absurd h2 (by simp)
      · have := List.any_eq_false.1 h2 x hx
        simp [hxl, hxt] at this

theorem len_rowF (nB : Nat) (L : List Bool) (k : Nat) : (rowF nB L k).length = nB := by simp [rowF]
theorem getD_rowF {nB : Nat} {L : List Bool} {k t : Nat} (ht : t < nB) : (rowF nB L k).getD t false = getF nB L k t := by simp [rowF, List.getD, ht]
theorem rowF_set {nB nC k t k' : Nat} {L : List Bool} (hL : L.length = nC * nB) (hk : k < nC) (ht : t < nB) : rowF nB (L.set (k * nB + t) true) k' = if k' = k then (rowF nB L k').set t true else rowF nB L k' := by
  by_cases e : k' = k
  · rw [if_pos e]
    subst e
    apply List.ext_getElem (by simp [rowF])
    intro q h1 h2
    have hq : q < nB := by simpa [rowF] using h1
    simp only [rowF, List.getElem_map, List.getElem_range, List.getElem_set]
    rw [getF_set hL hk ht hq]
    by_cases e2 : q = t
    · simp [e2]
    · rw [if_neg (by omega), if_neg (by omega)]
  · rw [if_neg e]
    unfold rowF
    apply List.map_congr_left
    intro q hq
    rw [getF_set hL hk ht (by simpa using hq), if_neg (by omega)]

/-- The rows in memory, one block behind the other. -/
structure MatF (g nB nC : Nat) (L : List Bool) (w : World) : Prop where
  len : L.length = nC * nB
  top : ∀ k, k < nC → w.cell? ⟨g, k, none⟩ = some (.slice (some ⟨g + 1 + k, 0, none⟩) nB nB)
  row : ∀ k, k < nC → Row w (g + 1 + k) 4 ((rowF nB L k).map Value.bool)

theorem MatF.cell {g nB nC : Nat} {L : List Bool} {w : World} (h : MatF g nB nC L w) {k t : Nat} (hk : k < nC) (ht : t < nB) : w.cell? ⟨g + 1 + k, t, none⟩ = some (.bool (getF nB L k t)) := by
  rw [(h.row k hk).cell]
  simp [rowF, ht]
theorem MatF.below {g nB nC : Nat} {L : List Bool} {w w' : World} (h : MatF g nB nC L w) (hb : Below w.heap.size w w') : MatF g nB nC L w' :=
  ⟨h.len, fun k hk => step_cell hb (h.top k hk), fun k hk => (h.row k hk).below hb⟩
theorem MatF.set {g nB nC : Nat} {L : List Bool} {w : World} (h : MatF g nB nC L w) {k t : Nat} (hk : k < nC) (ht : t < nB) : MatF g nB nC (L.set (k * nB + t) true) (w.setCell ⟨g + 1 + k, t, none⟩ (.bool true)) := by
  refine ⟨by simp [h.len], fun j hj => cell_other (h.top j hj) (by show g ≠ g + 1 + k; omega), fun j hj => ?_⟩
  rw [rowF_set h.len hk ht]
  by_cases e : j = k
  · subst e
    rw [if_pos rfl]
    have := (h.row j hj).set t (.bool true)
    simpa [List.map_set] using this
  · rw [if_neg e]
    exact (h.row j hj).other (by simp; omega) _

theorem MatF.mat {g nB nC : Nat} {L : List Bool} {w : World} (h : MatF g nB nC L w) (h1 : 1 ≤ nC) (h2 : nC ≤ 40) (h3 : nB ≤ 12) {cap : Nat} : MatIs w (.slice (some ⟨g, 0, none⟩) nC cap) ((List.range nC).map (rowF nB L)) := by
  refine ⟨some ⟨g, 0, none⟩, cap, by simp, by simp; omega, fun _ => ⟨g, 0, rfl, World.block_lt_of_cell? w _ (h.top 0 (by omega)), fun k hk => ?_⟩⟩
  have hk' : k < nC := by simpa using hk
  refine ⟨_, by rw [Nat.zero_add]; exact h.top k hk', ?_⟩
  have e : ((List.range nC).map (rowF nB L)).getD k [] = rowF nB L k := by simp [List.getD, hk']
  rw [e]
  refine ⟨some ⟨g + 1 + k, 0, none⟩, nB, by rw [len_rowF], by rw [len_rowF]; omega, fun _ => ⟨g + 1 + k, 0, rfl, (h.row k hk').lt, fun j hj => ?_⟩⟩
  rw [len_rowF] at hj
  rw [Nat.zero_add, h.cell hk' hj, getD_rowF hj]

theorem needF {nB : Nat} {C : List LIns} {L : List Bool} (hS : Snd nB C L) (hC : Cls nB C L) : NeedMat nB C ((List.range C.length).map (rowF nB L)) := by
  have e : ∀ k, k < C.length → ((List.range C.length).map (rowF nB L)).getD k [] = rowF nB L k := fun k hk => by simp [List.getD, hk]
  refine ⟨by simp, fun k hk => by rw [e k hk, len_rowF], fun k hk t ht => ?_⟩
  rw [e k hk, getD_rowF ht]
  exact flat_need hS hC hk ht

end Go.Proofs.Ytcmnmogmdhofcab.form

/- Places as bytes, on plain numbers: what is written, what is read, and that each is the other's way back. -/
namespace Go.Proofs.Ytcmnmogmdhofcab.form
open Go.RowKit
set_option linter.unusedVariables false

def bitI (b : Bool) : Int := if b then 1 else 0
def putMove (m : LMove) : List Int := [m.dst.kind, m.dst.n, m.src.kind, m.src.n, bitI m.cst, m.n / 16777216, m.n / 65536 % 256, m.n / 256 % 256, m.n % 256]
def putMoves (l : List LMove) : List Int := (l.length : Int) :: l.flatMap putMove
def putRow (r : LRow) : List Int := [r.dest.kind, r.dest.n, r.a.kind, r.a.n, r.b.kind, r.b.n] ++ (putMoves r.before ++ putMoves r.after)
def putRows (R : List LRow) : List Int := R.flatMap putRow
def putB (slots : Int) (R : List LRow) : List Int := slots :: (R.length : Int) :: putRows R
def smallB (l : List Int) : Bool := l.all (fun x => decide (0 ≤ x) && decide (x ≤ 255))

def mkMove (a0 a1 a2 a3 a4 a5 a6 a7 a8 : Int) : LMove := ⟨⟨a0, a1⟩, ⟨a2, a3⟩, decide (a4 = 1), a5 * 16777216 + a6 * 65536 + a7 * 256 + a8⟩
def getMoves : Nat → List Int → Option (List LMove × List Int)
  | 0, b => some ([], b)
  | n + 1, a0 :: a1 :: a2 :: a3 :: a4 :: a5 :: a6 :: a7 :: a8 :: b =>
    if 1 < a4 then none else match getMoves n b with
      | some (l, r) => some (mkMove a0 a1 a2 a3 a4 a5 a6 a7 a8 :: l, r)
      | none => none
  | _ + 1, _ => none
def readMoves : List Int → Option (List LMove × List Int)
  | [] => none
  | n :: b => getMoves n.toNat b
def getRows : Nat → List Int → Option (List LRow × List Int)
  | 0, b => some ([], b)
  | n + 1, a0 :: a1 :: a2 :: a3 :: a4 :: a5 :: b =>
    match readMoves b with
    | none => none
    | some (be, b1) => match readMoves b1 with
      | none => none
      | some (af, b2) => match getRows n b2 with
        | none => none
        | some (rs, b3) => some (⟨⟨a0, a1⟩, ⟨a2, a3⟩, ⟨a4, a5⟩, be, af⟩ :: rs, b3)
  | _ + 1, _ => none
def getB : List Int → Option (Int × List LRow)
  | slots :: n :: b => match getRows n.toNat b with
    | some (R, []) => some (slots, R)
    | _ => none
  | _ => none

/-- Moves whose numbers are of 32 bits. -/
def U32s (l : List LMove) : Prop := ∀ m, m ∈ l → 0 ≤ m.n ∧ m.n < 4294967296
def U32r (R : List LRow) : Prop := ∀ r, r ∈ R → U32s r.before ∧ U32s r.after

theorem small_cons {x : Int} {l : List Int} : smallB (x :: l) = true ↔ (0 ≤ x ∧ x ≤ 255) ∧ smallB l = true := by simp [smallB]
theorem small_append {l m : List Int} : smallB (l ++ m) = true ↔ smallB l = true ∧ smallB m = true := by simp [smallB, List.all_append]

theorem get_put_moves : ∀ (l : List LMove) (rest : List Int), U32s l → getMoves l.length (l.flatMap putMove ++ rest) = some (l, rest)
  | [], rest, _ => rfl
  | m :: l, rest, h => by
    have hm := h m (by simp)
    have ih := get_put_moves l rest (fun x hx => h x (by simp [hx]))
    obtain ⟨⟨dk, dn⟩, ⟨sk, sn⟩, c, n⟩ := m
    simp only at hm
    simp only [List.length_cons, List.flatMap_cons, putMove, List.cons_append, List.nil_append, getMoves]
    rw [if_neg (by cases c <;> simp [bitI]), ih]
    simp only [mkMove, Option.some.injEq, Prod.mk.injEq, List.cons.injEq, and_true, LMove.mk.injEq, true_and]
    refine ⟨by cases c <;> simp [bitI], by omega⟩
theorem read_put_moves (l : List LMove) (rest : List Int) (h : U32s l) : readMoves (putMoves l ++ rest) = some (l, rest) := by
  simp only [putMoves, List.cons_append, readMoves, Int.toNat_natCast]
  exact get_put_moves l rest h
theorem get_put_rows : ∀ (R : List LRow) (rest : List Int), U32r R → getRows R.length (putRows R ++ rest) = some (R, rest)
  | [], rest, _ => rfl
  | r :: R, rest, h => by
    have hr := h r (by simp)
    have ih := get_put_rows R rest (fun x hx => h x (by simp [hx]))
    obtain ⟨⟨d0, d1⟩, ⟨a0, a1⟩, ⟨b0, b1⟩, be, af⟩ := r
    simp only [List.length_cons, putRows, List.flatMap_cons, putRow, List.cons_append, List.nil_append, List.append_assoc, getRows]
    rw [read_put_moves be _ hr.1]
    simp only
    rw [read_put_moves af _ hr.2]
    simp only
    have ih' : getRows R.length (List.flatMap putRow R ++ rest) = some (R, rest) := ih
    rw [ih']
/-- What is written is read. -/
theorem get_put (slots : Int) (R : List LRow) (h : U32r R) : getB (putB slots R) = some (slots, R) := by
  simp only [putB, getB, Int.toNat_natCast]
  have := get_put_rows R [] h
  rw [List.append_nil] at this
  rw [this]

theorem put_get_moves : ∀ (n : Nat) (b : List Int) (l : List LMove) (r : List Int), smallB b = true → getMoves n b = some (l, r) → b = l.flatMap putMove ++ r ∧ l.length = n ∧ U32s l ∧ smallB r = true
  | 0, b, l, r, hs, h => by
    simp only [getMoves, Option.some.injEq, Prod.mk.injEq] at h
    obtain ⟨rfl, rfl⟩ := h
    exact ⟨rfl, rfl, fun m hm => by simp at hm, hs⟩
  | n + 1, a0 :: a1 :: a2 :: a3 :: a4 :: a5 :: a6 :: a7 :: a8 :: b, l, r, hs, h => by
    simp only [getMoves] at h
    simp only [small_cons] at hs
    split at h
    · exact absurd h (by simp)
    rename_i h4
    cases hg : getMoves n b with
    | none => rw [hg] at h; exact absurd h (by simp)
    | some x =>
      obtain ⟨l', r'⟩ := x
      rw [hg] at h
      simp only [Option.some.injEq, Prod.mk.injEq] at h
      obtain ⟨rfl, rfl⟩ := h
      obtain ⟨e1, e2, e3, e4⟩ := put_get_moves n b l' r' (by obtain ⟨_, _, _, _, _, _, _, _, _, h⟩ := hs; exact h) hg
      obtain ⟨s0, s1, s2, s3, s4, s5, s6, s7, s8, -⟩ := hs
      refine ⟨?_, by simp [e2], ?_, e4⟩
      · simp only [List.flatMap_cons, putMove, mkMove, List.cons_append, List.nil_append, List.cons.injEq, true_and]
        refine ⟨?_, by omega, by omega, by omega, by omega, e1⟩
        unfold bitI
        rcases (show a4 = 0 ∨ a4 = 1 by omega) with rfl | rfl <;> simp
      · intro m hm
        rw [List.mem_cons] at hm
        rcases hm with rfl | hm
        · simp only [mkMove]; omega
        · exact e3 m hm
  | n + 1, [], l, r, hs, h => by simp [getMoves] at h
  | n + 1, [_], l, r, hs, h => by simp [getMoves] at h
  | n + 1, [_, _], l, r, hs, h => by simp [getMoves] at h
  | n + 1, [_, _, _], l, r, hs, h => by simp [getMoves] at h
  | n + 1, [_, _, _, _], l, r, hs, h => by simp [getMoves] at h
  | n + 1, [_, _, _, _, _], l, r, hs, h => by simp [getMoves] at h
  | n + 1, [_, _, _, _, _, _], l, r, hs, h => by simp [getMoves] at h
  | n + 1, [_, _, _, _, _, _, _], l, r, hs, h => by simp [getMoves] at h
  | n + 1, [_, _, _, _, _, _, _, _], l, r, hs, h => by simp [getMoves] at h
theorem put_read_moves (b : List Int) (l : List LMove) (r : List Int) (hs : smallB b = true) (h : readMoves b = some (l, r)) : b = putMoves l ++ r ∧ U32s l ∧ smallB r = true := by
  cases b with
  | nil => exact absurd h (by simp [readMoves])
  | cons n b =>
    rw [small_cons] at hs
    obtain ⟨e1, e2, e3, e4⟩ := put_get_moves n.toNat b l r hs.2 h
    refine ⟨?_, e3, e4⟩
    simp only [putMoves, List.cons_append, List.cons.injEq]
    exact ⟨by omega, e1⟩
theorem put_get_rows : ∀ (n : Nat) (b : List Int) (R : List LRow) (r : List Int), smallB b = true → getRows n b = some (R, r) → b = putRows R ++ r ∧ R.length = n ∧ U32r R ∧ smallB r = true
  | 0, b, R, r, hs, h => by
    simp only [getRows, Option.some.injEq, Prod.mk.injEq] at h
    obtain ⟨rfl, rfl⟩ := h
    exact ⟨rfl, rfl, fun m hm => by simp at hm, hs⟩
  | n + 1, a0 :: a1 :: a2 :: a3 :: a4 :: a5 :: b, R, r, hs, h => by
    simp only [getRows] at h
    simp only [small_cons] at hs
    obtain ⟨s0, s1, s2, s3, s4, s5, hs⟩ := hs
    cases h1 : readMoves b with
    | none => rw [h1] at h; exact absurd h (by simp)
    | some x =>
      obtain ⟨be, b1⟩ := x
      rw [h1] at h
      simp only at h
      obtain ⟨f1, f2, f3⟩ := put_read_moves b be b1 hs h1
      cases h2 : readMoves b1 with
      | none => rw [h2] at h; exact absurd h (by simp)
      | some y =>
        obtain ⟨af, b2⟩ := y
        rw [h2] at h
        simp only at h
        obtain ⟨g1, g2, g3⟩ := put_read_moves b1 af b2 f3 h2
        cases h3 : getRows n b2 with
        | none => rw [h3] at h; exact absurd h (by simp)
        | some z =>
          obtain ⟨rs, b3⟩ := z
          rw [h3] at h
          simp only [Option.some.injEq, Prod.mk.injEq] at h
          obtain ⟨rfl, rfl⟩ := h
          obtain ⟨e1, e2, e3, e4⟩ := put_get_rows n b2 rs b3 g3 h3
          refine ⟨?_, by simp [e2], ?_, e4⟩
          · rw [f1, g1, e1]
            simp [putRows, putRow]
          · intro m hm
            rw [List.mem_cons] at hm
            rcases hm with rfl | hm
            · exact ⟨f2, g2⟩
            · exact e3 m hm
  | n + 1, [], R, r, hs, h => by simp [getRows] at h
  | n + 1, [_], R, r, hs, h => by simp [getRows] at h
  | n + 1, [_, _], R, r, hs, h => by simp [getRows] at h
  | n + 1, [_, _, _], R, r, hs, h => by simp [getRows] at h
  | n + 1, [_, _, _, _], R, r, hs, h => by simp [getRows] at h
  | n + 1, [_, _, _, _, _], R, r, hs, h => by simp [getRows] at h
/-- What is read has just these bytes. -/
theorem put_get {b : List Int} {slots : Int} {R : List LRow} (hs : smallB b = true) (h : getB b = some (slots, R)) : b = putB slots R ∧ U32r R := by
  match b, h with
  | [], h => exact absurd h (by simp [getB])
  | [_], h => exact absurd h (by simp [getB])
  | x :: n :: b, h =>
    simp only [getB] at h
    simp only [small_cons] at hs
    cases hg : getRows n.toNat b with
    | none => rw [hg] at h; exact absurd h (by simp)
    | some y =>
      obtain ⟨R', r⟩ := y
      rw [hg] at h
      cases r with
      | cons z r => exact absurd h (by simp)
      | nil =>
        simp only [Option.some.injEq, Prod.mk.injEq] at h
        obtain ⟨rfl, rfl⟩ := h
        obtain ⟨e1, e2, e3, e4⟩ := put_get_rows n.toNat b R' [] hs.2.2 hg
        refine ⟨?_, e3⟩
        simp only [putB, List.cons.injEq, true_and]
        exact ⟨by omega, by rw [e1]; simp⟩
/-- No shorter row of bytes is read. -/
theorem get_short {slots : Int} {R : List LRow} (h : U32r R) (hs : smallB (putB slots R) = true) {n : Nat} (hn : n < (putB slots R).length) : getB ((putB slots R).take n) = none := by
  cases hg : getB ((putB slots R).take n) with
  | none => rfl
  | some x =>
    exfalso
    obtain ⟨slots', R'⟩ := x
    have hst : smallB ((putB slots R).take n) = true := by
      unfold smallB at hs ⊢
      rw [List.all_eq_true] at hs ⊢
      exact fun y hy => hs y (List.mem_of_mem_take hy)
    obtain ⟨e1, e2⟩ := put_get hst hg
    have e3 : putB slots R = putB slots' R' ++ (putB slots R).drop n := by rw [← e1]; exact (List.take_append_drop n _).symm
    obtain ⟨d, hd⟩ : ∃ d, d = (putB slots R).drop n := ⟨_, rfl⟩
    rw [← hd] at e3
    have hdl : 0 < d.length := by rw [hd, List.length_drop]; omega
    simp only [putB, List.cons_append, List.cons.injEq] at e3
    obtain ⟨rfl, hl, hr⟩ := e3
    have hl' : R.length = R'.length := by omega
    have a1 := get_put_rows R [] h
    rw [List.append_nil, hr, hl', get_put_rows R' d e2] at a1
    simp only [Option.some.injEq, Prod.mk.injEq] at a1
    rw [a1.2] at hdl
    exact absurd hdl (by simp)

end Go.Proofs.Ytcmnmogmdhofcab.form

/- What the document's functions that read moves out of bytes answer: at, read. -/
namespace Go.Proofs.Ytcmnmogmdhofcab.form
open Go.RowKit
set_option linter.unusedVariables false
attribute [local go_sem ↓] Go.wp_at_zero Go.wp_at_succ

/-- Bytes in memory. -/
def BytesIs (w : World) (v : Value) (bs : List Int) : Prop :=
  ∃ ao cap, v = .slice ao bs.length cap ∧ bs.length ≤ cap ∧ bs.length ≤ 9223372036854775807 ∧ (∀ j, j < bs.length → 0 ≤ bs.getD j 0 ∧ bs.getD j 0 ≤ 255) ∧ (0 < bs.length → ∃ b o, ao = some ⟨b, o, none⟩ ∧ b < w.heap.size ∧ ∀ j, j < bs.length → w.cell? ⟨b, o + j, none⟩ = some (.int .u8 (bs.getD j 0)))
theorem BytesIs.later {w w' : World} {v : Value} {bs : List Int} (h : BytesIs w v bs) (hb : Below w.heap.size w w') : BytesIs w' v bs := by
  obtain ⟨ao, cap, e, h0, h1, h3, h2⟩ := h
  refine ⟨ao, cap, e, h0, h1, h3, fun hx => ?_⟩
  obtain ⟨b, o, e1, e2, e3⟩ := h2 hx
  exact ⟨b, o, e1, Nat.lt_of_lt_of_le e2 hb.size, fun j hj => step_cell hb (e3 j hj)⟩

def atB (bs : List Int) (k : Nat) : Int := if k < bs.length then bs.getD k 0 else -1

/-- Moves in new memory. -/
def MovesN (ob : Option Nat) (w : World) (v : Value) (l : List LMove) : Prop :=
  ∃ ao cap, v = .slice ao l.length cap ∧ l.length ≤ cap ∧ l.length ≤ 9223372036854775807 ∧ (0 < l.length → ∃ b, ao = some ⟨b, 0, none⟩ ∧ b < w.heap.size ∧ some b ≠ ob ∧ ∀ k, k < l.length → w.cell? ⟨b, k * 6, none⟩ = some (.int .i64 (l.getD k .zero).dst.kind) ∧ w.cell? ⟨b, k * 6 + 1, none⟩ = some (.int .i64 (l.getD k .zero).dst.n) ∧ w.cell? ⟨b, k * 6 + 2, none⟩ = some (.int .i64 (l.getD k .zero).src.kind) ∧ w.cell? ⟨b, k * 6 + 3, none⟩ = some (.int .i64 (l.getD k .zero).src.n) ∧ w.cell? ⟨b, k * 6 + 4, none⟩ = some (.bool (l.getD k .zero).cst) ∧ w.cell? ⟨b, k * 6 + 5, none⟩ = some (.int .u32 (l.getD k .zero).n))
theorem MovesN.is {ob : Option Nat} {w : World} {v : Value} {l : List LMove} (h : MovesN ob w v l) : MovesIs w v l := by
  obtain ⟨ao, cap, e, h0, h1, h2⟩ := h
  refine ⟨ao, cap, e, h1, fun hx => ?_⟩
  obtain ⟨b, e1, e2, -, e3⟩ := h2 hx
  exact ⟨b, 0, e1, e2, fun k hk => by simpa using e3 k hk⟩
theorem MovesN.later {ob : Option Nat} {w w' : World} {v : Value} {l : List LMove} (h : MovesN ob w v l) (hb : Below w.heap.size w w') : MovesN ob w' v l := by
  obtain ⟨ao, cap, e, h0, h1, h2⟩ := h
  refine ⟨ao, cap, e, h0, h1, fun hx => ?_⟩
  obtain ⟨b, e1, e2, e3, e4⟩ := h2 hx
  refine ⟨b, e1, Nat.lt_of_lt_of_le e2 hb.size, e3, fun k hk => ?_⟩
  obtain ⟨c0, c1, c2, c3, c4, c5⟩ := e4 k hk
  exact ⟨step_cell hb c0, step_cell hb c1, step_cell hb c2, step_cell hb c3, step_cell hb c4, step_cell hb c5⟩
theorem MovesN.grown {ob : Option Nat} {w w' : World} {v : Value} {l : List LMove} (h : MovesN ob w v l) (hg : w.grownBy w' ob) {g : Nat} (hat : ob = some g ∨ g = w.heap.size) : MovesN (some g) w' v l := by
  obtain ⟨ao, cap, e, h0, h1, h2⟩ := h
  refine ⟨ao, cap, e, h0, h1, fun hx => ?_⟩
  obtain ⟨b, e1, e2, e3, e4⟩ := h2 hx
  refine ⟨b, e1, Nat.lt_of_lt_of_le e2 hg.size, ?_, fun k hk => ?_⟩
  · rcases hat with hat | hat
    · rw [← hat]; exact e3
    · simp only [ne_eq, Option.some.injEq]; omega
  · obtain ⟨c0, c1, c2, c3, c4, c5⟩ := e4 k hk
    exact ⟨hg.cell c0 e3, hg.cell c1 e3, hg.cell c2 e3, hg.cell c3 e3, hg.cell c4 e3, hg.cell c5 e3⟩

def mvC (m : LMove) : List Value := [.int .i64 m.dst.kind, .int .i64 m.dst.n, .int .i64 m.src.kind, .int .i64 m.src.n, .bool m.cst, .int .u32 m.n]
theorem flat6 {l : List LMove} {k i : Nat} (hk : k < l.length) (hi : i < 6) : (l.flatMap mvC)[k * 6 + i]? = (mvC (l.getD k .zero))[i]? := by
  induction l generalizing k with
  | nil => simp at hk
  | cons m l ih =>
    have hl6 : (mvC m).length = 6 := rfl
    rw [List.flatMap_cons]
    cases k with
    | zero => rw [List.getElem?_append_left (by omega)]; simp
    | succ k =>
      rw [List.getElem?_append_right (by omega)]
      simp only [List.length_cons] at hk
      have := ih (k := k) (by omega)
      rw [show (k + 1) * 6 + i - (mvC m).length = k * 6 + i by omega]
      simpa using this
theorem mv_len (l : List LMove) : (l.flatMap mvC).length = l.length * 6 := by
  induction l with
  | nil => rfl
  | cons m l ih => rw [List.flatMap_cons, List.length_append, ih]; simp [mvC]; omega

/-- A row of moves of the call's own. -/
structure MW (w : World) (base : Nat) (l : List LMove) (v : Value) (wr : World) : Prop where
  bel : Below w.heap.size w wr
  lo : w.heap.size ≤ base
  own : wr.ownsRow base 139 6 v l.length (l.flatMap mvC)
section
variable {w wr w1 : World} {base : Nat} {l : List LMove} {v : Value}
theorem MW.below (h : MW w base l v wr) (hb : Below wr.heap.size wr w1) : MW w base l v w1 :=
  ⟨step_below hb h.bel, h.lo, World.ownsRow.kept h.own ⟨hb.os, hb.tape, hb.output, hb.size, fun j hj _ => hb.block j hj⟩ (row := none) (by cases v.ownBlock <;> simp)⟩
theorem MW.push (h : MW w base l v wr) {m : LMove} {g cap : Nat} (hown : w1.ownsRow base 139 6 (.slice (some ⟨g, 0, none⟩) (l.length + 1) cap) (l.length + 1) (l.flatMap mvC ++ mvC m)) (hgrow : wr.grownBy w1 v.ownBlock) :
    MW w base (l ++ [m]) (.slice (some ⟨g, 0, none⟩) (l.length + 1) cap) w1 :=
  ⟨h.bel.grown hgrow h.bel.size (fun j hj => by have := (World.ownsRow.lt h.own _ hj).1; have := h.lo; omega), h.lo, by simpa using hown⟩
theorem own_news (ho : wr.ownsRow base 139 6 v l.length (l.flatMap mvC)) (hl : l.length ≤ 9223372036854775807) {ob : Option Nat} (hob : ∀ b, base ≤ b → some b ≠ ob) : MovesN ob wr v l := by
  rcases ho.2 with ⟨e, e2⟩ | ⟨g, cap, cur, e, hg, hc, hn, hm, hs, ht⟩
  · exact ⟨none, 0, by rw [e, e2], by omega, hl, fun hx => absurd hx (by omega)⟩
  · refine ⟨_, cap, e, hn, hl, fun hx => ⟨g, rfl, (World.ownsRow.lt ho g (by rw [e]; rfl)).2, hob g hg, fun k hk => ?_⟩⟩
    rw [e] at ho
    have hcell : ∀ i, i < 6 → wr.cell? ⟨g, k * 6 + i, none⟩ = (mvC (l.getD k .zero))[i]? := fun i hi => by
      rw [World.ownsRow.cellAt ho (k * 6 + i) (by omega), flat6 hk hi]
    exact ⟨hcell 0 (by omega), hcell 1 (by omega), hcell 2 (by omega), hcell 3 (by omega), hcell 4 (by omega), hcell 5 (by omega)⟩
theorem MW.news (h : MW w base l v wr) (hl : l.length ≤ 9223372036854775807) {ob : Option Nat} (hob : ∀ b, base ≤ b → some b ≠ ob) : MovesN ob wr v l := own_news h.own hl hob
end

end Go.Proofs.Ytcmnmogmdhofcab.form

/- Rows of places that a call makes, with their moves, and what becomes of them. -/
namespace Go.Proofs.Ytcmnmogmdhofcab.form
open Go.RowKit
set_option linter.unusedVariables false

theorem MovesN.setCell {ob : Option Nat} {w : World} {v : Value} {l : List LMove} (h : MovesN ob w v l) {a : Addr} (hne : v.ownBlock ≠ some a.block) (x : Value) : MovesN ob (w.setCell a x) v l := by
  obtain ⟨ao, cap, e, h0, h1, h2⟩ := h
  refine ⟨ao, cap, e, h0, h1, fun hx => ?_⟩
  obtain ⟨b, e1, e2, e3, e4⟩ := h2 hx
  subst e1
  rw [e] at hne
  have hb : b ≠ a.block := by simpa [Value.ownBlock] using hne
  refine ⟨b, rfl, by simpa using e2, e3, fun k hk => ?_⟩
  obtain ⟨c0, c1, c2, c3, c4, c5⟩ := e4 k hk
  exact ⟨cell_other c0 hb, cell_other c1 hb, cell_other c2 hb, cell_other c3 hb, cell_other c4 hb, cell_other c5 hb⟩
theorem MovesN.to {ob ob' : Option Nat} {w : World} {v : Value} {l : List LMove} (h : MovesN ob w v l) (hne : ∀ b, v.ownBlock = some b → some b ≠ ob') : MovesN ob' w v l := by
  obtain ⟨ao, cap, e, h0, h1, h2⟩ := h
  refine ⟨ao, cap, e, h0, h1, fun hx => ?_⟩
  obtain ⟨b, e1, e2, e3, e4⟩ := h2 hx
  exact ⟨b, e1, e2, hne b (by rw [e, e1]; rfl), e4⟩

def rowC (x : LRow × Value × Value) : List Value := [.int .i64 x.1.dest.kind, .int .i64 x.1.dest.n, .int .i64 x.1.a.kind, .int .i64 x.1.a.n, .int .i64 x.1.b.kind, .int .i64 x.1.b.n, x.2.1, x.2.2]
def zeroX : LRow × Value × Value := (.zero, .slice none 0 0, .slice none 0 0)
theorem flat8 {L : List (LRow × Value × Value)} {k i : Nat} (hk : k < L.length) (hi : i < 8) : (L.flatMap rowC)[k * 8 + i]? = (rowC (L.getD k zeroX))[i]? := by
  induction L generalizing k with
  | nil => simp at hk
  | cons m L ih =>
    have hl8 : (rowC m).length = 8 := rfl
    rw [List.flatMap_cons]
    cases k with
    | zero => rw [List.getElem?_append_left (by omega)]; simp
    | succ k =>
      rw [List.getElem?_append_right (by omega)]
      simp only [List.length_cons] at hk
      have := ih (k := k) (by omega)
      rw [show (k + 1) * 8 + i - (rowC m).length = k * 8 + i by omega]
      simpa using this

/-- Some moves that the call made. -/
def MvOkC (base : Nat) (ob : Option Nat) (wr : World) (v : Value) (l : List LMove) : Prop := MovesN ob wr v l ∧ ∀ b, v.ownBlock = some b → base ≤ b
theorem own_mv {wr : World} {base lo : Nat} {l : List LMove} {v : Value} (ho : wr.ownsRow lo 139 6 v l.length (l.flatMap mvC)) (hl : l.length ≤ 9223372036854775807) (hlo : base ≤ lo) {ob : Option Nat} (hob : ∀ b, lo ≤ b → some b ≠ ob) : MvOkC base ob wr v l :=
  ⟨own_news ho hl hob, fun b hb => Nat.le_trans hlo (World.ownsRow.lt ho b hb).1⟩

/-- Rows of places of the call's own. -/
structure RW (base : Nat) (L : List (LRow × Value × Value)) (v : Value) (wr : World) : Prop where
  own : wr.ownsRow base 81 8 v L.length (L.flatMap rowC)
  mv : ∀ x, x ∈ L → MvOkC base v.ownBlock wr x.2.1 x.1.before ∧ MvOkC base v.ownBlock wr x.2.2 x.1.after
section
variable {wr w1 : World} {base : Nat} {L : List (LRow × Value × Value)} {v : Value}
theorem RW.below (h : RW base L v wr) (hb : Below wr.heap.size wr w1) : RW base L v w1 :=
  ⟨World.ownsRow.kept h.own ⟨hb.os, hb.tape, hb.output, hb.size, fun j hj _ => hb.block j hj⟩ (row := none) (by cases v.ownBlock <;> simp), fun x hx => ⟨⟨(h.mv x hx).1.1.later hb, (h.mv x hx).1.2⟩, ⟨(h.mv x hx).2.1.later hb, (h.mv x hx).2.2⟩⟩⟩
theorem RW.setCell (h : RW base L v wr) {a : Addr} (ha : a.block < base) (u : Value) : RW base L v (wr.setCell a u) := by
  refine ⟨World.ownsRow.kept h.own (row := some a.block) ⟨rfl, rfl, rfl, by simp, fun k hk hne => heap_setCell_other wr a k u (fun e => hne (by rw [e]))⟩ ?_, fun x hx => ⟨⟨(h.mv x hx).1.1.setCell (fun e => ?_) u, (h.mv x hx).1.2⟩, ⟨(h.mv x hx).2.1.setCell (fun e => ?_) u, (h.mv x hx).2.2⟩⟩⟩
  · cases hv : v.ownBlock with
    | none => exact Or.inl rfl
    | some k => exact Or.inr (fun e => by have := (World.ownsRow.lt h.own k hv).1; simp at e; omega)
  · have := (h.mv x hx).1.2 _ e; omega
  · have := (h.mv x hx).2.2 _ e; omega
theorem RW.push (h : RW base L v wr) {x : LRow × Value × Value} (hx : MvOkC base v.ownBlock wr x.2.1 x.1.before ∧ MvOkC base v.ownBlock wr x.2.2 x.1.after) {g cap : Nat} (hown : w1.ownsRow base 81 8 (.slice (some ⟨g, 0, none⟩) (L.length + 1) cap) (L.length + 1) (L.flatMap rowC ++ rowC x)) (hgrow : wr.grownBy w1 v.ownBlock) (hat : v.ownBlock = some g ∨ g = wr.heap.size) :
    RW base (L ++ [x]) (.slice (some ⟨g, 0, none⟩) (L.length + 1) cap) w1 := by
  refine ⟨by simpa using hown, fun y hy => ?_⟩
  have hy2 : MvOkC base v.ownBlock wr y.2.1 y.1.before ∧ MvOkC base v.ownBlock wr y.2.2 y.1.after := by
    rw [List.mem_append, List.mem_singleton] at hy
    rcases hy with hy | rfl
    · exact h.mv y hy
    · exact hx
  exact ⟨⟨hy2.1.1.grown hgrow hat, hy2.1.2⟩, ⟨hy2.2.1.grown hgrow hat, hy2.2.2⟩⟩
theorem RW.form (h : RW base L v wr) : ∃ ao cap, v = .slice ao L.length cap := by
  rcases h.own.2 with ⟨e, e2⟩ | ⟨g, cap, cur, e, -⟩
  · exact ⟨none, 0, by rw [e, e2]⟩
  · exact ⟨_, _, e⟩
/-- They are places. -/
theorem RW.placed (h : RW base L v wr) (hl : L.length ≤ 9223372036854775807) (slots : Int) : PlacedIs wr (.agg #[.int .i64 slots, v]) slots (L.map (·.1)) := by
  have hL : (L.map (·.1)).length = L.length := by simp
  rcases h.own.2 with ⟨e, e2⟩ | ⟨g, cap, cur, e, hg, hc, hn, hm, hs, ht⟩
  · exact ⟨none, 0, by rw [e, hL, e2], by omega, fun hx => absurd hx (by omega)⟩
  · have ho := h.own
    rw [e] at ho
    refine ⟨_, cap, by rw [e, hL], by omega, fun hx => ⟨g, 0, rfl, ?_, fun r hr => ?_⟩⟩
    · exact (World.ownsRow.lt h.own g (by rw [e]; rfl)).2
    · rw [hL] at hr
      have hcell : ∀ i, i < 8 → wr.cell? ⟨g, r * 8 + i, none⟩ = (rowC (L.getD r zeroX))[i]? := fun i hi => by
        rw [World.ownsRow.cellAt ho (r * 8 + i) (by omega), flat8 hr hi]
      have hrow : (L.map (·.1)).getD r .zero = (L.getD r zeroX).1 := by simp [List.getD, hr]
      have hmem : L.getD r zeroX ∈ L := by simp [List.getD, hr]
      rw [hrow]
      simp only [Nat.zero_add]
      exact ⟨hcell 0 (by omega), hcell 1 (by omega), hcell 2 (by omega), hcell 3 (by omega), hcell 4 (by omega), hcell 5 (by omega), (L.getD r zeroX).2.1, (L.getD r zeroX).2.2, hcell 6 (by omega), hcell 7 (by omega), (h.mv _ hmem).1.1.is, (h.mv _ hmem).2.1.is⟩
end

end Go.Proofs.Ytcmnmogmdhofcab.form
