/- Bytes that are read one by one, behind the last one with 0, on plain numbers. -/
import Derived.Test.YtepfegfacdbhbabCodePlain
namespace Go.Proofs.Ytepfegfacdbhbab.form
open Go.RowKit
set_option linter.unusedVariables false

def mk9 (r : List Int) : LMove := mkMove (r.getD 0 0) (r.getD 1 0) (r.getD 2 0) (r.getD 3 0) (r.getD 4 0) (r.getD 5 0) (r.getD 6 0) (r.getD 7 0) (r.getD 8 0)
def bad9 (r : List Int) : Bool := decide (r.length < 9) || decide (1 < r.getD 4 0)
theorem moves_front : ∀ (n : Nat) (b : List Int), getMoves (n + 1) b = if bad9 b then none else match getMoves n (b.drop 9) with | some (l, r) => some (mk9 b :: l, r) | none => none
  | n, a0 :: a1 :: a2 :: a3 :: a4 :: a5 :: a6 :: a7 :: a8 :: b => by
    have e : bad9 (a0 :: a1 :: a2 :: a3 :: a4 :: a5 :: a6 :: a7 :: a8 :: b) = decide (1 < a4) := by
      unfold bad9
      rw [show decide ((a0 :: a1 :: a2 :: a3 :: a4 :: a5 :: a6 :: a7 :: a8 :: b).length < 9) = false by simp only [List.length_cons, decide_eq_false_iff_not]; omega]
      simp
    rw [e]
    simp only [getMoves, decide_eq_true_eq]
    split
    · rfl
    · show _ = match getMoves n b with | some (l, r) => some (mk9 (a0 :: a1 :: a2 :: a3 :: a4 :: a5 :: a6 :: a7 :: a8 :: b) :: l, r) | none => none
      cases getMoves n b with
      | none => rfl
      | some x => rfl
  | n, [] => by simp [getMoves, bad9]
  | n, [_] => by simp [getMoves, bad9]
  | n, [_, _] => by simp [getMoves, bad9]
  | n, [_, _, _] => by simp [getMoves, bad9]
  | n, [_, _, _, _] => by simp [getMoves, bad9]
  | n, [_, _, _, _, _] => by simp [getMoves, bad9]
  | n, [_, _, _, _, _, _] => by simp [getMoves, bad9]
  | n, [_, _, _, _, _, _, _] => by simp [getMoves, bad9]
  | n, [_, _, _, _, _, _, _, _] => by simp [getMoves, bad9]
theorem moves_back : ∀ (n : Nat) (b : List Int), getMoves (n + 1) b = match getMoves n b with | none => none | some (l, r) => if bad9 r then none else some (l ++ [mk9 r], r.drop 9)
  | 0, b => by
    rw [moves_front]
    simp only [getMoves]
    split <;> rfl
  | n + 1, b => by
    rw [moves_front (n + 1) b, moves_front n b, moves_back n (b.drop 9)]
    cases hb : bad9 b with
    | true => rfl
    | false =>
      cases getMoves n (b.drop 9) with
      | none => rfl
      | some x =>
        obtain ⟨l, r⟩ := x
        cases hr : bad9 r <;> simp [hr]

/-- What has been read of n moves, and whether something was wrong. -/
structure ReadM (n : Nat) (rest : List Int) (bad : Bool) (l : List LMove) (rest' : List Int) (bad' : Bool) : Prop where
  len : l.length = n
  bad : bad' = (bad || (getMoves n rest).isNone)
  is : bad' = false → getMoves n rest = some (l, rest')
theorem ReadM.zero (rest : List Int) (bad : Bool) : ReadM 0 rest bad [] rest bad := ⟨rfl, by simp [getMoves], fun _ => rfl⟩
theorem ReadM.step {n : Nat} {rest : List Int} {bad : Bool} {l : List LMove} {r1 : List Int} {b1 : Bool} (h : ReadM n rest bad l r1 b1) : ReadM (n + 1) rest bad (l ++ [mk9 r1]) (r1.drop 9) (b1 || bad9 r1) := by
  have hb := h.bad
  have hi := h.is
  refine ⟨by simp [h.len], ?_, fun e => ?_⟩
  · rw [moves_back]
    cases hg : getMoves n rest with
    | none => rw [hg] at hb; rw [hb]; simp
    | some x =>
      obtain ⟨l0, r0⟩ := x
      rw [hg] at hb hi
      cases bad with
      | true => rw [hb]; simp
      | false =>
        have hb1 : b1 = false := by rw [hb]; rfl
        have := hi hb1
        simp only [Option.some.injEq, Prod.mk.injEq] at this
        obtain ⟨rfl, rfl⟩ := this
        rw [hb1]
        cases hr : bad9 r0 <;> simp [hr]
  · rw [Bool.or_eq_false_iff] at e
    rw [moves_back, hi e.1]
    simp only [e.2]
    rfl

/-- A row of moves with their number ahead. -/
structure ReadMs (rest : List Int) (bad : Bool) (l : List LMove) (rest' : List Int) (bad' : Bool) : Prop where
  len : l.length ≤ 255
  bad : bad' = (bad || (readMoves rest).isNone)
  is : bad' = false → readMoves rest = some (l, rest')
theorem ReadM.all {rest : List Int} {bad : Bool} {l : List LMove} {rest' : List Int} {bad' : Bool} {n : Nat} (hn : (n : Int) = rest.getD 0 0) (hl : n ≤ 255) (h : ReadM n (rest.drop 1) (bad || decide (rest.length < 1)) l rest' bad') : ReadMs rest bad l rest' bad' := by
  cases rest with
  | nil =>
    have hb := h.bad
    refine ⟨by rw [h.len]; exact hl, ?_, fun e => ?_⟩
    · rw [hb]; simp [readMoves]
    · rw [hb] at e; simp at e
  | cons x b =>
    have e : readMoves (x :: b) = getMoves n b := by
      simp only [readMoves]
      rw [show x.toNat = n by simp at hn; omega]
    refine ⟨by rw [h.len]; exact hl, ?_, fun hh => ?_⟩
    · rw [e, h.bad]; simp
    · rw [e]; exact h.is hh

theorem rows_front6 (a0 a1 a2 a3 a4 a5 : Int) (n : Nat) (b : List Int) : getRows (n + 1) (a0 :: a1 :: a2 :: a3 :: a4 :: a5 :: b) = match readMoves b with | none => none | some (be, b1) => match readMoves b1 with | none => none | some (af, b2) => match getRows n b2 with | none => none | some (rs, b3) => some (⟨⟨a0, a1⟩, ⟨a2, a3⟩, ⟨a4, a5⟩, be, af⟩ :: rs, b3) := rfl
theorem rows_none : ∀ (n : Nat) (b : List Int), b.length < 6 → getRows (n + 1) b = none
  | n, [], _ => rfl
  | n, [_], _ => rfl
  | n, [_, _], _ => rfl
  | n, [_, _, _], _ => rfl
  | n, [_, _, _, _], _ => rfl
  | n, [_, _, _, _, _], _ => rfl
  | n, _ :: _ :: _ :: _ :: _ :: _ :: b, h => absurd h (by simp only [List.length_cons]; omega)
theorem list_six : ∀ (b : List Int), ¬ b.length < 6 → b = b.getD 0 0 :: b.getD 1 0 :: b.getD 2 0 :: b.getD 3 0 :: b.getD 4 0 :: b.getD 5 0 :: b.drop 6
  | _ :: _ :: _ :: _ :: _ :: _ :: b, _ => rfl
  | [], h => absurd h (by simp)
  | [_], h => absurd h (by simp)
  | [_, _], h => absurd h (by simp)
  | [_, _, _], h => absurd h (by simp)
  | [_, _, _, _], h => absurd h (by simp)
  | [_, _, _, _, _], h => absurd h (by simp)
theorem rows_front (n : Nat) (b : List Int) : getRows (n + 1) b = match getRows 1 b with | none => none | some (r1, b1) => match getRows n b1 with | none => none | some (rs, b2) => some (r1 ++ rs, b2) := by
  by_cases h : b.length < 6
  · rw [rows_none n b h, rows_none 0 b h]
  · rw [list_six b h, rows_front6, rows_front6 _ _ _ _ _ _ 0]
    cases readMoves (b.drop 6) with
    | none => rfl
    | some x =>
      obtain ⟨be, b1⟩ := x
      simp only
      cases readMoves b1 with
      | none => rfl
      | some y =>
        obtain ⟨af, b2⟩ := y
        simp only [getRows]
        cases getRows n b2 with
        | none => rfl
        | some z => rfl
theorem rows_back : ∀ (n : Nat) (b : List Int), getRows (n + 1) b = match getRows n b with | none => none | some (R, r) => match getRows 1 r with | none => none | some (r1, r2) => some (R ++ r1, r2)
  | 0, b => by
    simp only [show getRows 0 b = some ([], b) from rfl]
    cases getRows 1 b with
    | none => rfl
    | some x => rfl
  | n + 1, b => by
    rw [rows_front (n + 1) b, rows_front n b]
    cases getRows 1 b with
    | none => rfl
    | some x =>
      obtain ⟨r1, b1⟩ := x
      simp only
      rw [rows_back n b1]
      cases getRows n b1 with
      | none => rfl
      | some y =>
        obtain ⟨R, r⟩ := y
        simp only
        cases getRows 1 r with
        | none => rfl
        | some z => simp

/-- What has been read of n rows. -/
structure ReadR (n : Nat) (rest : List Int) (bad : Bool) (R : List LRow) (rest' : List Int) (bad' : Bool) : Prop where
  len : R.length = n
  bad : bad' = (bad || (getRows n rest).isNone)
  is : bad' = false → getRows n rest = some (R, rest')
theorem ReadR.zero (rest : List Int) (bad : Bool) : ReadR 0 rest bad [] rest bad := ⟨rfl, by simp [getRows], fun _ => rfl⟩
theorem ReadR.step {n : Nat} {rest : List Int} {bad : Bool} {R : List LRow} {r1 : List Int} {b1 : Bool} {r : LRow} {r2 : List Int} {b2 : Bool} (h : ReadR n rest bad R r1 b1) (k : ReadR 1 r1 b1 [r] r2 b2) : ReadR (n + 1) rest bad (R ++ [r]) r2 b2 := by
  have hb := h.bad
  have hi := h.is
  have kb := k.bad
  have ki := k.is
  refine ⟨by simp [h.len], ?_, fun e => ?_⟩
  · rw [rows_back]
    cases hg : getRows n rest with
    | none => rw [hg] at hb; rw [kb, hb]; simp
    | some x =>
      obtain ⟨R0, r0⟩ := x
      rw [hg] at hb hi
      cases bad with
      | true => rw [kb, hb]; simp
      | false =>
        have hb1 : b1 = false := by rw [hb]; rfl
        have := hi hb1
        simp only [Option.some.injEq, Prod.mk.injEq] at this
        obtain ⟨rfl, rfl⟩ := this
        rw [kb, hb1]
        simp only
        cases getRows 1 r0 with
        | none => rfl
        | some y => rfl
  · rw [kb, Bool.or_eq_false_iff] at e
    rw [rows_back, hi e.1]
    simp only
    rw [ki (by rw [kb, e.1, e.2]; rfl)]
/-- One row. -/
theorem ReadMs.row {rest : List Int} {bad : Bool} {be af : List LMove} {r1 r2 : List Int} {b1 b2 : Bool} (h : ReadMs (rest.drop 6) (bad || decide (rest.length < 6)) be r1 b1) (k : ReadMs r1 b1 af r2 b2) :
    ReadR 1 rest bad [⟨⟨rest.getD 0 0, rest.getD 1 0⟩, ⟨rest.getD 2 0, rest.getD 3 0⟩, ⟨rest.getD 4 0, rest.getD 5 0⟩, be, af⟩] r2 b2 := by
  have hb := h.bad
  have hi := h.is
  have kb := k.bad
  have ki := k.is
  by_cases hs : rest.length < 6
  · have hb1 : b1 = true := by rw [hb]; simp [hs]
    have hb2 : b2 = true := by rw [kb, hb1]; rfl
    exact ⟨rfl, by rw [rows_none 0 rest hs, hb2]; simp, fun e => by rw [hb2] at e; exact absurd e (by simp)⟩
  · have hs2 : decide (rest.length < 6) = false := by simp only [decide_eq_false_iff_not]; exact hs
    rw [hs2, Bool.or_false] at hb
    have eL := list_six rest hs
    obtain ⟨a0, h0⟩ : ∃ a0, a0 = rest.getD 0 0 := ⟨_, rfl⟩
    obtain ⟨a1, h1⟩ : ∃ a1, a1 = rest.getD 1 0 := ⟨_, rfl⟩
    obtain ⟨a2, h2⟩ : ∃ a2, a2 = rest.getD 2 0 := ⟨_, rfl⟩
    obtain ⟨a3, h3⟩ : ∃ a3, a3 = rest.getD 3 0 := ⟨_, rfl⟩
    obtain ⟨a4, h4⟩ : ∃ a4, a4 = rest.getD 4 0 := ⟨_, rfl⟩
    obtain ⟨a5, h5⟩ : ∃ a5, a5 = rest.getD 5 0 := ⟨_, rfl⟩
    rw [← h0, ← h1, ← h2, ← h3, ← h4, ← h5] at eL ⊢
    have eR := rows_front6 a0 a1 a2 a3 a4 a5 0 (rest.drop 6)
    rw [← eL] at eR
    have e01 : getRows (0 + 1) rest = getRows 1 rest := rfl
    rw [e01] at eR
    refine ⟨rfl, ?_, fun e => ?_⟩
    · rw [eR]
      cases hg : readMoves (rest.drop 6) with
      | none => rw [hg] at hb; rw [kb, hb]; simp
      | some x =>
        obtain ⟨l0, r0⟩ := x
        rw [hg] at hb hi
        cases bad with
        | true => rw [kb, hb]; simp
        | false =>
          have hb1 : b1 = false := by rw [hb]; rfl
          have := hi hb1
          simp only [Option.some.injEq, Prod.mk.injEq] at this
          obtain ⟨rfl, rfl⟩ := this
          rw [kb, hb1]
          simp only
          cases readMoves r0 with
          | none => rfl
          | some y => rfl
    · rw [kb, Bool.or_eq_false_iff] at e
      rw [eR, hi e.1]
      simp only
      rw [ki (by rw [kb, e.1, e.2]; rfl)]
      rfl

end Go.Proofs.Ytepfegfacdbhbab.form
