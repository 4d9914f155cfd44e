/-
  DERIVED. GIVEN WITH THE SEED: THE CARDS: each row of YtikhedkhgpjaaabGreatDoorRows.lean that lists a variable, with what it lists TIED to the program's text (the seventh form; the later family's looks); each row that meets fmt, with fmt's text TOLD by the authors' own Lean function (tested against real Go, not proved from fmt's source: count such statements apart). THE CARD IS WHAT COUNTS. Prove the row's statement (the work); the ties are given (YtikhedkhgpjaaabGreatDoorTie.lean); close each card by the builder's one call (the guide's Derived/Test/ToyasCard.lean, 'card_holds'). Laid BY PROGRAM, IN A SANDBOX (cutbox-door.mjs). By AI agents, Wed Nov 11 2026. No macro, syntax, notation, axiom, sorry.
-/
import Derived.Test.YtikhedkhgpjaaabGreatDoorRows
import GoSem.ClaimSeven
namespace Go.Proofs.YtikhedkhgpjaaabGreatDoor
namespace Rows

/-- THE TIED CARD OF 'loanbookkeep.DriveTells'. -/
def driveTellsCard : Claim7 := { stood := { row := driveTellsRow, standIns := [], harness := (true, "2edfdfc3b2e0a8dfaa41ccd3d19d66141a5cd02f8946ce163c16b70cdbe30d5c"), looks := true }, kinds := [], alts := [], laidByText := true, laidKinds := [.data, .data, .data, .sentinel, .sentinel], laidTests := true, laidLooks := .later }
def DriveTellsCardSaid : Prop := Claim7.holds Tryz.pinned (.plain (OpenSpec.ofChange driveTellsSpec)) driveTellsCard

/-- THE SECOND FORM's CARD OF 'loanbookkeep.DriveTells'. -/
def driveTellsUptoCard : Claim7 := { stood := { row := driveTellsUptoRow, standIns := [], harness := (true, "2edfdfc3b2e0a8dfaa41ccd3d19d66141a5cd02f8946ce163c16b70cdbe30d5c"), looks := true }, kinds := [], alts := [], laidByText := true, laidKinds := [.data, .data, .data, .sentinel, .sentinel], laidTests := true, laidLooks := .later }
def DriveTellsUptoCardSaid : Prop := Claim7.holds Tryz.pinned (.plain (OpenSpec.upto driveTellsSpec)) driveTellsUptoCard
end Rows
end Go.Proofs.YtikhedkhgpjaaabGreatDoor
