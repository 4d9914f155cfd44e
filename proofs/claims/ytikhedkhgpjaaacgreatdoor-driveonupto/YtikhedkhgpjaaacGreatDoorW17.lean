/- What Takes must answer, by whatever way. -/
import Derived.Deep.AppendLies
import Derived.Test.YtikhedkhgpjaaacGreatDoorW16
import Derived.Test.YtikhedkhgpjaaacGreatDoorW14
import Derived.Test.YtikhedkhgpjaaacGreatDoorW08
import Derived.Test.YtikhedkhgpjaaacGreatDoorW05

namespace Go.Proofs.YtikhedkhgpjaaacGreatDoor
set_option linter.unusedVariables false
namespace form
open Go.RowKit
end form
/- What Build must answer, by whatever way: f tells the places that are made. -/
namespace form
open Go.RowKit
def OwnBuild (f : List Bool → List LIns → Int → Int × List LRow) (B : List Bool) (C : List LIns) (s : Int) (w : World) (e : Ending) (w' : World) : Prop :=
  (((refMayB B C && targetB s) = false ∧ ∃ lv, e = .returned (.tuple #[lv, .int .i64 2]) ∧ PlacedIs w' lv 0 []) ∨ ((refMayB B C && targetB s) = true ∧ ∃ lv, e = .returned (.tuple #[lv, .int .i64 0]) ∧ PlacedIs w' lv (f B C s).1 (f B C s).2)) ∧ Below w.heap.size w w'
def BuildSpec (f : List Bool → List LIns → Int → Int × List LRow) : Prop := ∀ (pv : Value) (B : List Bool) (C : List LIns) (s : Int) (w : World), ProgIs w pv B C → Calls Tryz.prog 39 #[pv, targetV s] w fun e w' => OwnBuild f B C s w e w'
end form
/- Places as bytes, on plain numbers: what is written, what is read, and that each is the other's way back. -/
namespace form
open Go.RowKit
def bitI (b : Bool) : Int := if b then 1 else 0
def putMove (m : LMove) : List Int := [m.dst.kind, m.dst.n, m.src.kind, m.src.n, bitI m.cst, m.n / 16777216, m.n / 65536 % 256, m.n / 256 % 256, m.n % 256]
def putMoves (l : List LMove) : List Int := (l.length : Int) :: l.flatMap putMove
def putRow (r : LRow) : List Int := [r.dest.kind, r.dest.n, r.a.kind, r.a.n, r.b.kind, r.b.n] ++ (putMoves r.before ++ putMoves r.after)
def putRows (R : List LRow) : List Int := R.flatMap putRow
def putB (slots : Int) (R : List LRow) : List Int := slots :: (R.length : Int) :: putRows R
def smallB (l : List Int) : Bool := l.all (fun x => decide (0 ≤ x) && decide (x ≤ 255))
theorem small_cons {x : Int} {l : List Int} : smallB (x :: l) = true ↔ (0 ≤ x ∧ x ≤ 255) ∧ smallB l = true := by simp [smallB]
end form
/- A row of ints that a call makes, and what becomes of it. -/
namespace form
open Go.RowKit
def iV (x : Int) : Value := .int .i64 x
section
variable {w wr w1 : World} {base : Nat} {xs ys : List Int} {v : Value}
end
end form
end Go.Proofs.YtikhedkhgpjaaacGreatDoor
