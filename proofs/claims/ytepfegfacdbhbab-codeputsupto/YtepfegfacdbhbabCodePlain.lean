/- Places as bytes, on plain numbers: what is written, what is read, and that each is the other's way back. -/
import Derived.Test.YtepfegfacdbhbabPlaceMay
namespace Go.Proofs.Ytepfegfacdbhbab.form
open Go.RowKit
set_option linter.unusedVariables false

def bitI (b : Bool) : Int := if b then 1 else 0
def putMove (m : LMove) : List Int := [m.dst.kind, m.dst.n, m.src.kind, m.src.n, bitI m.cst, m.n / 16777216, m.n / 65536 % 256, m.n / 256 % 256, m.n % 256]
def putMoves (l : List LMove) : List Int := (l.length : Int) :: l.flatMap putMove
def putRow (r : LRow) : List Int := [r.dest.kind, r.dest.n, r.a.kind, r.a.n, r.b.kind, r.b.n] ++ (putMoves r.before ++ putMoves r.after)
def putRows (R : List LRow) : List Int := R.flatMap putRow
def putB (slots : Int) (R : List LRow) : List Int := slots :: (R.length : Int) :: putRows R
def smallB (l : List Int) : Bool := l.all (fun x => decide (0 ≤ x) && decide (x ≤ 255))

def mkMove (a0 a1 a2 a3 a4 a5 a6 a7 a8 : Int) : LMove := ⟨⟨a0, a1⟩, ⟨a2, a3⟩, decide (a4 = 1), a5 * 16777216 + a6 * 65536 + a7 * 256 + a8⟩
def getMoves : Nat → List Int → Option (List LMove × List Int)
  | 0, b => some ([], b)
  | n + 1, a0 :: a1 :: a2 :: a3 :: a4 :: a5 :: a6 :: a7 :: a8 :: b =>
    if 1 < a4 then none else match getMoves n b with
      | some (l, r) => some (mkMove a0 a1 a2 a3 a4 a5 a6 a7 a8 :: l, r)
      | none => none
  | _ + 1, _ => none
def readMoves : List Int → Option (List LMove × List Int)
  | [] => none
  | n :: b => getMoves n.toNat b
def getRows : Nat → List Int → Option (List LRow × List Int)
  | 0, b => some ([], b)
  | n + 1, a0 :: a1 :: a2 :: a3 :: a4 :: a5 :: b =>
    match readMoves b with
    | none => none
    | some (be, b1) => match readMoves b1 with
      | none => none
      | some (af, b2) => match getRows n b2 with
        | none => none
        | some (rs, b3) => some (⟨⟨a0, a1⟩, ⟨a2, a3⟩, ⟨a4, a5⟩, be, af⟩ :: rs, b3)
  | _ + 1, _ => none
def getB : List Int → Option (Int × List LRow)
  | slots :: n :: b => match getRows n.toNat b with
    | some (R, []) => some (slots, R)
    | _ => none
  | _ => none

/-- Moves whose numbers are of 32 bits. -/
def U32s (l : List LMove) : Prop := ∀ m, m ∈ l → 0 ≤ m.n ∧ m.n < 4294967296
def U32r (R : List LRow) : Prop := ∀ r, r ∈ R → U32s r.before ∧ U32s r.after

theorem small_cons {x : Int} {l : List Int} : smallB (x :: l) = true ↔ (0 ≤ x ∧ x ≤ 255) ∧ smallB l = true := by simp [smallB]
theorem small_append {l m : List Int} : smallB (l ++ m) = true ↔ smallB l = true ∧ smallB m = true := by simp [smallB, List.all_append]

theorem get_put_moves : ∀ (l : List LMove) (rest : List Int), U32s l → getMoves l.length (l.flatMap putMove ++ rest) = some (l, rest)
  | [], rest, _ => rfl
  | m :: l, rest, h => by
    have hm := h m (by simp)
    have ih := get_put_moves l rest (fun x hx => h x (by simp [hx]))
    obtain ⟨⟨dk, dn⟩, ⟨sk, sn⟩, c, n⟩ := m
    simp only at hm
    simp only [List.length_cons, List.flatMap_cons, putMove, List.cons_append, List.nil_append, getMoves]
    rw [if_neg (by cases c <;> simp [bitI]), ih]
    simp only [mkMove, Option.some.injEq, Prod.mk.injEq, List.cons.injEq, and_true, LMove.mk.injEq, true_and]
    refine ⟨by cases c <;> simp [bitI], by omega⟩
theorem read_put_moves (l : List LMove) (rest : List Int) (h : U32s l) : readMoves (putMoves l ++ rest) = some (l, rest) := by
  simp only [putMoves, List.cons_append, readMoves, Int.toNat_natCast]
  exact get_put_moves l rest h
theorem get_put_rows : ∀ (R : List LRow) (rest : List Int), U32r R → getRows R.length (putRows R ++ rest) = some (R, rest)
  | [], rest, _ => rfl
  | r :: R, rest, h => by
    have hr := h r (by simp)
    have ih := get_put_rows R rest (fun x hx => h x (by simp [hx]))
    obtain ⟨⟨d0, d1⟩, ⟨a0, a1⟩, ⟨b0, b1⟩, be, af⟩ := r
    simp only [List.length_cons, putRows, List.flatMap_cons, putRow, List.cons_append, List.nil_append, List.append_assoc, getRows]
    rw [read_put_moves be _ hr.1]
    simp only
    rw [read_put_moves af _ hr.2]
    simp only
    have ih' : getRows R.length (List.flatMap putRow R ++ rest) = some (R, rest) := ih
    rw [ih']
/-- What is written is read. -/
theorem get_put (slots : Int) (R : List LRow) (h : U32r R) : getB (putB slots R) = some (slots, R) := by
  simp only [putB, getB, Int.toNat_natCast]
  have := get_put_rows R [] h
  rw [List.append_nil] at this
  rw [this]

theorem put_get_moves : ∀ (n : Nat) (b : List Int) (l : List LMove) (r : List Int), smallB b = true → getMoves n b = some (l, r) → b = l.flatMap putMove ++ r ∧ l.length = n ∧ U32s l ∧ smallB r = true
  | 0, b, l, r, hs, h => by
    simp only [getMoves, Option.some.injEq, Prod.mk.injEq] at h
    obtain ⟨rfl, rfl⟩ := h
    exact ⟨rfl, rfl, fun m hm => by simp at hm, hs⟩
  | n + 1, a0 :: a1 :: a2 :: a3 :: a4 :: a5 :: a6 :: a7 :: a8 :: b, l, r, hs, h => by
    simp only [getMoves] at h
    simp only [small_cons] at hs
    split at h
    · exact absurd h (by simp)
    rename_i h4
    cases hg : getMoves n b with
    | none => rw [hg] at h; exact absurd h (by simp)
    | some x =>
      obtain ⟨l', r'⟩ := x
      rw [hg] at h
      simp only [Option.some.injEq, Prod.mk.injEq] at h
      obtain ⟨rfl, rfl⟩ := h
      obtain ⟨e1, e2, e3, e4⟩ := put_get_moves n b l' r' (by obtain ⟨_, _, _, _, _, _, _, _, _, h⟩ := hs; exact h) hg
      obtain ⟨s0, s1, s2, s3, s4, s5, s6, s7, s8, -⟩ := hs
      refine ⟨?_, by simp [e2], ?_, e4⟩
      · simp only [List.flatMap_cons, putMove, mkMove, List.cons_append, List.nil_append, List.cons.injEq, true_and]
        refine ⟨?_, by omega, by omega, by omega, by omega, e1⟩
        unfold bitI
        rcases (show a4 = 0 ∨ a4 = 1 by omega) with rfl | rfl <;> simp
      · intro m hm
        rw [List.mem_cons] at hm
        rcases hm with rfl | hm
        · simp only [mkMove]; omega
        · exact e3 m hm
  | n + 1, [], l, r, hs, h => by simp [getMoves] at h
  | n + 1, [_], l, r, hs, h => by simp [getMoves] at h
  | n + 1, [_, _], l, r, hs, h => by simp [getMoves] at h
  | n + 1, [_, _, _], l, r, hs, h => by simp [getMoves] at h
  | n + 1, [_, _, _, _], l, r, hs, h => by simp [getMoves] at h
  | n + 1, [_, _, _, _, _], l, r, hs, h => by simp [getMoves] at h
  | n + 1, [_, _, _, _, _, _], l, r, hs, h => by simp [getMoves] at h
  | n + 1, [_, _, _, _, _, _, _], l, r, hs, h => by simp [getMoves] at h
  | n + 1, [_, _, _, _, _, _, _, _], l, r, hs, h => by simp [getMoves] at h
theorem put_read_moves (b : List Int) (l : List LMove) (r : List Int) (hs : smallB b = true) (h : readMoves b = some (l, r)) : b = putMoves l ++ r ∧ U32s l ∧ smallB r = true := by
  cases b with
  | nil => exact absurd h (by simp [readMoves])
  | cons n b =>
    rw [small_cons] at hs
    obtain ⟨e1, e2, e3, e4⟩ := put_get_moves n.toNat b l r hs.2 h
    refine ⟨?_, e3, e4⟩
    simp only [putMoves, List.cons_append, List.cons.injEq]
    exact ⟨by omega, e1⟩
theorem put_get_rows : ∀ (n : Nat) (b : List Int) (R : List LRow) (r : List Int), smallB b = true → getRows n b = some (R, r) → b = putRows R ++ r ∧ R.length = n ∧ U32r R ∧ smallB r = true
  | 0, b, R, r, hs, h => by
    simp only [getRows, Option.some.injEq, Prod.mk.injEq] at h
    obtain ⟨rfl, rfl⟩ := h
    exact ⟨rfl, rfl, fun m hm => by simp at hm, hs⟩
  | n + 1, a0 :: a1 :: a2 :: a3 :: a4 :: a5 :: b, R, r, hs, h => by
    simp only [getRows] at h
    simp only [small_cons] at hs
    obtain ⟨s0, s1, s2, s3, s4, s5, hs⟩ := hs
    cases h1 : readMoves b with
    | none => rw [h1] at h; exact absurd h (by simp)
    | some x =>
      obtain ⟨be, b1⟩ := x
      rw [h1] at h
      simp only at h
      obtain ⟨f1, f2, f3⟩ := put_read_moves b be b1 hs h1
      cases h2 : readMoves b1 with
      | none => rw [h2] at h; exact absurd h (by simp)
      | some y =>
        obtain ⟨af, b2⟩ := y
        rw [h2] at h
        simp only at h
        obtain ⟨g1, g2, g3⟩ := put_read_moves b1 af b2 f3 h2
        cases h3 : getRows n b2 with
        | none => rw [h3] at h; exact absurd h (by simp)
        | some z =>
          obtain ⟨rs, b3⟩ := z
          rw [h3] at h
          simp only [Option.some.injEq, Prod.mk.injEq] at h
          obtain ⟨rfl, rfl⟩ := h
          obtain ⟨e1, e2, e3, e4⟩ := put_get_rows n b2 rs b3 g3 h3
          refine ⟨?_, by simp [e2], ?_, e4⟩
          · rw [f1, g1, e1]
            simp [putRows, putRow]
          · intro m hm
            rw [List.mem_cons] at hm
            rcases hm with rfl | hm
            · exact ⟨f2, g2⟩
            · exact e3 m hm
  | n + 1, [], R, r, hs, h => by simp [getRows] at h
  | n + 1, [_], R, r, hs, h => by simp [getRows] at h
  | n + 1, [_, _], R, r, hs, h => by simp [getRows] at h
  | n + 1, [_, _, _], R, r, hs, h => by simp [getRows] at h
  | n + 1, [_, _, _, _], R, r, hs, h => by simp [getRows] at h
  | n + 1, [_, _, _, _, _], R, r, hs, h => by simp [getRows] at h
/-- What is read has just these bytes. -/
theorem put_get {b : List Int} {slots : Int} {R : List LRow} (hs : smallB b = true) (h : getB b = some (slots, R)) : b = putB slots R ∧ U32r R := by
  match b, h with
  | [], h => exact absurd h (by simp [getB])
  | [_], h => exact absurd h (by simp [getB])
  | x :: n :: b, h =>
    simp only [getB] at h
    simp only [small_cons] at hs
    cases hg : getRows n.toNat b with
    | none => rw [hg] at h; exact absurd h (by simp)
    | some y =>
      obtain ⟨R', r⟩ := y
      rw [hg] at h
      cases r with
      | cons z r => exact absurd h (by simp)
      | nil =>
        simp only [Option.some.injEq, Prod.mk.injEq] at h
        obtain ⟨rfl, rfl⟩ := h
        obtain ⟨e1, e2, e3, e4⟩ := put_get_rows n.toNat b R' [] hs.2.2 hg
        refine ⟨?_, e3⟩
        simp only [putB, List.cons.injEq, true_and]
        exact ⟨by omega, by rw [e1]; simp⟩
/-- No shorter row of bytes is read. -/
theorem get_short {slots : Int} {R : List LRow} (h : U32r R) (hs : smallB (putB slots R) = true) {n : Nat} (hn : n < (putB slots R).length) : getB ((putB slots R).take n) = none := by
  cases hg : getB ((putB slots R).take n) with
  | none => rfl
  | some x =>
    exfalso
    obtain ⟨slots', R'⟩ := x
    have hst : smallB ((putB slots R).take n) = true := by
      unfold smallB at hs ⊢
      rw [List.all_eq_true] at hs ⊢
      exact fun y hy => hs y (List.mem_of_mem_take hy)
    obtain ⟨e1, e2⟩ := put_get hst hg
    have e3 : putB slots R = putB slots' R' ++ (putB slots R).drop n := by rw [← e1]; exact (List.take_append_drop n _).symm
    obtain ⟨d, hd⟩ : ∃ d, d = (putB slots R).drop n := ⟨_, rfl⟩
    rw [← hd] at e3
    have hdl : 0 < d.length := by rw [hd, List.length_drop]; omega
    simp only [putB, List.cons_append, List.cons.injEq] at e3
    obtain ⟨rfl, hl, hr⟩ := e3
    have hl' : R.length = R'.length := by omega
    have a1 := get_put_rows R [] h
    rw [List.append_nil, hr, hl', get_put_rows R' d e2] at a1
    simp only [Option.some.injEq, Prod.mk.injEq] at a1
    rw [a1.2] at hdl
    exact absurd hdl (by simp)

end Go.Proofs.Ytepfegfacdbhbab.form
