/- Places as bytes, on plain numbers: what is written, what is read, and that each is the other's way back. -/
import Derived.Deep.AppendLies
import Derived.Deep.DeepCutAuto
import Derived.Laws.BytesArg
import Derived.Deep.OwnRows
import Derived.Test.YtgnhpfmdbclnkaaGreatDoorW05
import Derived.Test.YtgnhpfmdbclnkaaGreatDoorW03

namespace Go.Proofs.YtgnhpfmdbclnkaaGreatDoor
set_option linter.unusedVariables false
namespace form
open Go.RowKit
def bitI (b : Bool) : Int := if b then 1 else 0
def putMove (m : LMove) : List Int := [m.dst.kind, m.dst.n, m.src.kind, m.src.n, bitI m.cst, m.n / 16777216, m.n / 65536 % 256, m.n / 256 % 256, m.n % 256]
def putMoves (l : List LMove) : List Int := (l.length : Int) :: l.flatMap putMove
def putRow (r : LRow) : List Int := [r.dest.kind, r.dest.n, r.a.kind, r.a.n, r.b.kind, r.b.n] ++ (putMoves r.before ++ putMoves r.after)
def putRows (R : List LRow) : List Int := R.flatMap putRow
def putB (slots : Int) (R : List LRow) : List Int := slots :: (R.length : Int) :: putRows R
def smallB (l : List Int) : Bool := l.all (fun x => decide (0 ≤ x) && decide (x ≤ 255))
theorem small_cons {x : Int} {l : List Int} : smallB (x :: l) = true ↔ (0 ≤ x ∧ x ≤ 255) ∧ smallB l = true := by simp [smallB]
end form
/- A row of ints that a call makes, and what becomes of it. -/
namespace form
open Go.RowKit
def iV (x : Int) : Value := .int .i64 x
section
variable {w wr w1 : World} {base : Nat} {xs ys : List Int} {v : Value}
end
end form
/- What the document's functions on places as numbers answer: moves, Small. -/
namespace form
open Go.RowKit
attribute [local go_sem ↓] Go.wp_at_zero Go.wp_at_succ
theorem putMove_len (m : LMove) : (putMove m).length = 9 := rfl
theorem putMoves_len (l : List LMove) : (putMoves l).length = 1 + 9 * l.length := by
  unfold putMoves
  simp only [List.length_cons, List.length_flatMap, putMove_len]
  induction l with
  | nil => rfl
  | cons m l ih => simp at ih ⊢; omega
theorem take_flat {α : Type} {f : α → List Int} {l : List α} {k : Nat} {z : α} (hk : k < l.length) : (l.take (k + 1)).flatMap f = (l.take k).flatMap f ++ f (l.getD k z) := by
  rw [List.take_succ_eq_append_getElem hk, List.flatMap_append]
  simp [List.getD, hk]
end form
/- What the document's functions on places as numbers answer: Numbers, Small. -/
namespace form
open Go.RowKit
attribute [local go_sem ↓] Go.wp_at_zero Go.wp_at_succ
section
variable {w wr w1 : World} {ao : Option Addr} {nR cap : Nat} {xs ys : List Int} {v : Value}
end
end form
/- What the document's function on numbers as bytes (loanbookref11.Bytes) answers. -/
namespace form
open Go.RowKit
attribute [local go_sem ↓] Go.wp_at_zero Go.wp_at_succ
end form
end Go.Proofs.YtgnhpfmdbclnkaaGreatDoor
