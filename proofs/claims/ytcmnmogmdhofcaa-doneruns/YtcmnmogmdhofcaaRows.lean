/-
  No cell of these rows narrows 'for every input' (looked for: loops, veiled, ifaces, maps, wideKeys, modest, calm, conditions, laid).
  DERIVED. THE GIVEN ROWS OF THIS SEAT. 11 by the template 'for every input the law returns true; each argument reads behind the call as it read before'; 0 by the template 'total and deterministic' (their statements: YtcmnmogmdhofcaaTotals.lean).
  GIVEN WITH THE SEED: the statements are not yours to turn. If you find one false, say at which input.
  Laid BY PROGRAM, IN A SANDBOX (cutbox-rows.mjs): the forced cells as the released guide's own fill.sh prints them over the translation 1f84209f6fa2834f… (all of the seat's roots in one cut). By AI agents, Wed Nov 11 2026. No macro, syntax, notation, axiom, sorry.
-/
import Derived.Test.YtcmnmogmdhofcaaChecked
import GoSem.Claim
import GoSem.ClaimJoined
import GoSem.ClaimMapViews
import Derived.JoinedTies
import Derived.KernelRfl
namespace Go.Proofs.Ytcmnmogmdhofcaa
/- THE CELL 'sum', in the pinned program and in every row, IS THE sha256 OF THE DUMP (.gsa) THAT YtcmnmogmdhofcaaProg.lean LOADS. Nothing in Lean hashes anything: it is a label: what it is worth is what the hold of that sum in a sandbox is worth. -/
noncomputable def Try.pinned : Pinned := { name := "ytcmnmogmdhofcaa", sum := "1f84209f6fa2834fac80b571ab54107863f3ed063e3f624aee4e5868d7821025", checked := Try.checked }
namespace Rows
def none {H : Type} : Left H := { results := [], args := [] }

/-- 'loanbooklaw.NumTells': WHATEVER THE INPUT: true; the input reads as it did. -/
def numTellsSpec : ChangeSpec := { name := "numTells", fn := fun _ => fun
  | [d1, d2, d3] => { results := [.lit (.bool true)], args := [d1, d2, d3] }
  | _ => none }
def numTellsRow : OpenClaim := { program := "ytcmnmogmdhofcaa", sum := "1f84209f6fa2834fac80b571ab54107863f3ed063e3f624aee4e5868d7821025", func := "loanbook/loanbooklaw.NumTells", spec := "numTells", apart := false }
def NumTellsSaid : Prop := numTellsRow.holds Try.pinned (OpenSpec.ofChange numTellsSpec)

/-- ITS FALSE NEIGHBOUR: 'it returns false'. Refute it at one input. -/
def numTellsWrong : ChangeSpec := { name := "numTells", fn := fun _ => fun
  | [d1, d2, d3] => { results := [.lit (.bool false)], args := [d1, d2, d3] }
  | _ => none }
def NumTellsWrongFalsely : Prop := numTellsRow.holds Try.pinned (OpenSpec.ofChange numTellsWrong)

/-- 'loanbookkeep.NumHalves': WHATEVER THE INPUT: true; the input reads as it did. -/
def numHalvesSpec : ChangeSpec := { name := "numHalves", fn := fun _ => fun
  | [d1, d2] => { results := [.lit (.bool true)], args := [d1, d2] }
  | _ => none }
def numHalvesRow : OpenClaim := { program := "ytcmnmogmdhofcaa", sum := "1f84209f6fa2834fac80b571ab54107863f3ed063e3f624aee4e5868d7821025", func := "loanbook/loanbookkeep.NumHalves", spec := "numHalves", apart := false }
def NumHalvesSaid : Prop := numHalvesRow.holds Try.pinned (OpenSpec.ofChange numHalvesSpec)

/-- ITS FALSE NEIGHBOUR: 'it returns false'. Refute it at one input. -/
def numHalvesWrong : ChangeSpec := { name := "numHalves", fn := fun _ => fun
  | [d1, d2] => { results := [.lit (.bool false)], args := [d1, d2] }
  | _ => none }
def NumHalvesWrongFalsely : Prop := numHalvesRow.holds Try.pinned (OpenSpec.ofChange numHalvesWrong)

/-- 'loanbooklaw.FormTells': WHATEVER THE INPUT: true; the input reads as it did. -/
def formTellsSpec : ChangeSpec := { name := "formTells", fn := fun _ => fun
  | [d] => { results := [.lit (.bool true)], args := [d] }
  | _ => none }
def formTellsRow : OpenClaim := { program := "ytcmnmogmdhofcaa", sum := "1f84209f6fa2834fac80b571ab54107863f3ed063e3f624aee4e5868d7821025", func := "loanbook/loanbooklaw.FormTells", spec := "formTells", apart := false }
def FormTellsSaid : Prop := formTellsRow.holds Try.pinned (OpenSpec.ofChange formTellsSpec)

/-- ITS FALSE NEIGHBOUR: 'it returns false'. Refute it at one input. -/
def formTellsWrong : ChangeSpec := { name := "formTells", fn := fun _ => fun
  | [d] => { results := [.lit (.bool false)], args := [d] }
  | _ => none }
def FormTellsWrongFalsely : Prop := formTellsRow.holds Try.pinned (OpenSpec.ofChange formTellsWrong)

/-- 'loanbooklaw.RunRuns': WHATEVER THE INPUT: true; the input reads as it did. -/
def runRunsSpec : ChangeSpec := { name := "runRuns", fn := fun _ => fun
  | [d1, d2, d3] => { results := [.lit (.bool true)], args := [d1, d2, d3] }
  | _ => none }
def runRunsRow : OpenClaim := { program := "ytcmnmogmdhofcaa", sum := "1f84209f6fa2834fac80b571ab54107863f3ed063e3f624aee4e5868d7821025", func := "loanbook/loanbooklaw.RunRuns", spec := "runRuns", unfollowed := true, recurses := true, apart := false }
def RunRunsSaid : Prop := runRunsRow.holds Try.pinned (OpenSpec.ofChange runRunsSpec)

/-- ITS FALSE NEIGHBOUR: 'it returns false'. Refute it at one input. -/
def runRunsWrong : ChangeSpec := { name := "runRuns", fn := fun _ => fun
  | [d1, d2, d3] => { results := [.lit (.bool false)], args := [d1, d2, d3] }
  | _ => none }
def RunRunsWrongFalsely : Prop := runRunsRow.holds Try.pinned (OpenSpec.ofChange runRunsWrong)

/-- 'loanbookkeep.RunLonger': WHATEVER THE INPUT: true; the input reads as it did. -/
def runLongerSpec : ChangeSpec := { name := "runLonger", fn := fun _ => fun
  | [d1, d2, d3, d4] => { results := [.lit (.bool true)], args := [d1, d2, d3, d4] }
  | _ => none }
def runLongerRow : OpenClaim := { program := "ytcmnmogmdhofcaa", sum := "1f84209f6fa2834fac80b571ab54107863f3ed063e3f624aee4e5868d7821025", func := "loanbook/loanbookkeep.RunLonger", spec := "runLonger", unfollowed := true, recurses := true, apart := false }
def RunLongerSaid : Prop := runLongerRow.holds Try.pinned (OpenSpec.ofChange runLongerSpec)

/-- ITS FALSE NEIGHBOUR: 'it returns false'. Refute it at one input. -/
def runLongerWrong : ChangeSpec := { name := "runLonger", fn := fun _ => fun
  | [d1, d2, d3, d4] => { results := [.lit (.bool false)], args := [d1, d2, d3, d4] }
  | _ => none }
def RunLongerWrongFalsely : Prop := runLongerRow.holds Try.pinned (OpenSpec.ofChange runLongerWrong)

/-- 'loanbooklaw.LiveTells': WHATEVER THE INPUT: true; the input reads as it did. -/
def liveTellsSpec : ChangeSpec := { name := "liveTells", fn := fun _ => fun
  | [d] => { results := [.lit (.bool true)], args := [d] }
  | _ => none }
def liveTellsRow : OpenClaim := { program := "ytcmnmogmdhofcaa", sum := "1f84209f6fa2834fac80b571ab54107863f3ed063e3f624aee4e5868d7821025", func := "loanbook/loanbooklaw.LiveTells", spec := "liveTells", apart := false }
def LiveTellsSaid : Prop := liveTellsRow.holds Try.pinned (OpenSpec.ofChange liveTellsSpec)

/-- ITS FALSE NEIGHBOUR: 'it returns false'. Refute it at one input. -/
def liveTellsWrong : ChangeSpec := { name := "liveTells", fn := fun _ => fun
  | [d] => { results := [.lit (.bool false)], args := [d] }
  | _ => none }
def LiveTellsWrongFalsely : Prop := liveTellsRow.holds Try.pinned (OpenSpec.ofChange liveTellsWrong)

/-- 'loanbooklaw.NearTells': WHATEVER THE INPUT: true; the input reads as it did. -/
def nearTellsSpec : ChangeSpec := { name := "nearTells", fn := fun _ => fun
  | [d] => { results := [.lit (.bool true)], args := [d] }
  | _ => none }
def nearTellsRow : OpenClaim := { program := "ytcmnmogmdhofcaa", sum := "1f84209f6fa2834fac80b571ab54107863f3ed063e3f624aee4e5868d7821025", func := "loanbook/loanbooklaw.NearTells", spec := "nearTells", unfollowed := true, recurses := true, apart := false }
def NearTellsSaid : Prop := nearTellsRow.holds Try.pinned (OpenSpec.ofChange nearTellsSpec)

/-- ITS FALSE NEIGHBOUR: 'it returns false'. Refute it at one input. -/
def nearTellsWrong : ChangeSpec := { name := "nearTells", fn := fun _ => fun
  | [d] => { results := [.lit (.bool false)], args := [d] }
  | _ => none }
def NearTellsWrongFalsely : Prop := nearTellsRow.holds Try.pinned (OpenSpec.ofChange nearTellsWrong)

/-- 'loanbookkeep.NearBoth': WHATEVER THE INPUT: true; the input reads as it did. -/
def nearBothSpec : ChangeSpec := { name := "nearBoth", fn := fun _ => fun
  | [d] => { results := [.lit (.bool true)], args := [d] }
  | _ => none }
def nearBothRow : OpenClaim := { program := "ytcmnmogmdhofcaa", sum := "1f84209f6fa2834fac80b571ab54107863f3ed063e3f624aee4e5868d7821025", func := "loanbook/loanbookkeep.NearBoth", spec := "nearBoth", unfollowed := true, recurses := true, apart := false }
def NearBothSaid : Prop := nearBothRow.holds Try.pinned (OpenSpec.ofChange nearBothSpec)

/-- ITS FALSE NEIGHBOUR: 'it returns false'. Refute it at one input. -/
def nearBothWrong : ChangeSpec := { name := "nearBoth", fn := fun _ => fun
  | [d] => { results := [.lit (.bool false)], args := [d] }
  | _ => none }
def NearBothWrongFalsely : Prop := nearBothRow.holds Try.pinned (OpenSpec.ofChange nearBothWrong)

/-- 'loanbooklaw.PlaceTells': WHATEVER THE INPUT: true; the input reads as it did. -/
def placeTellsSpec : ChangeSpec := { name := "placeTells", fn := fun _ => fun
  | [d1, d2, d3, d4, d5] => { results := [.lit (.bool true)], args := [d1, d2, d3, d4, d5] }
  | _ => none }
def placeTellsRow : OpenClaim := { program := "ytcmnmogmdhofcaa", sum := "1f84209f6fa2834fac80b571ab54107863f3ed063e3f624aee4e5868d7821025", func := "loanbook/loanbooklaw.PlaceTells", spec := "placeTells", apart := false }
def PlaceTellsSaid : Prop := placeTellsRow.holds Try.pinned (OpenSpec.ofChange placeTellsSpec)

/-- ITS FALSE NEIGHBOUR: 'it returns false'. Refute it at one input. -/
def placeTellsWrong : ChangeSpec := { name := "placeTells", fn := fun _ => fun
  | [d1, d2, d3, d4, d5] => { results := [.lit (.bool false)], args := [d1, d2, d3, d4, d5] }
  | _ => none }
def PlaceTellsWrongFalsely : Prop := placeTellsRow.holds Try.pinned (OpenSpec.ofChange placeTellsWrong)

/-- 'loanbookkeep.PlaceBoth': WHATEVER THE INPUT: true; the input reads as it did. -/
def placeBothSpec : ChangeSpec := { name := "placeBoth", fn := fun _ => fun
  | [d1, d2, d3] => { results := [.lit (.bool true)], args := [d1, d2, d3] }
  | _ => none }
def placeBothRow : OpenClaim := { program := "ytcmnmogmdhofcaa", sum := "1f84209f6fa2834fac80b571ab54107863f3ed063e3f624aee4e5868d7821025", func := "loanbook/loanbookkeep.PlaceBoth", spec := "placeBoth", apart := false }
def PlaceBothSaid : Prop := placeBothRow.holds Try.pinned (OpenSpec.ofChange placeBothSpec)

/-- ITS FALSE NEIGHBOUR: 'it returns false'. Refute it at one input. -/
def placeBothWrong : ChangeSpec := { name := "placeBoth", fn := fun _ => fun
  | [d1, d2, d3] => { results := [.lit (.bool false)], args := [d1, d2, d3] }
  | _ => none }
def PlaceBothWrongFalsely : Prop := placeBothRow.holds Try.pinned (OpenSpec.ofChange placeBothWrong)

/-- 'loanbooklaw.DoneRuns': WHATEVER THE INPUT: true; the input reads as it did. -/
def doneRunsSpec : ChangeSpec := { name := "doneRuns", fn := fun _ => fun
  | [d1, d2, d3, d4, d5] => { results := [.lit (.bool true)], args := [d1, d2, d3, d4, d5] }
  | _ => none }
def doneRunsRow : OpenClaim := { program := "ytcmnmogmdhofcaa", sum := "1f84209f6fa2834fac80b571ab54107863f3ed063e3f624aee4e5868d7821025", func := "loanbook/loanbooklaw.DoneRuns", spec := "doneRuns", unfollowed := true, recurses := true, apart := false }
def DoneRunsSaid : Prop := doneRunsRow.holds Try.pinned (OpenSpec.ofChange doneRunsSpec)

/-- ITS FALSE NEIGHBOUR: 'it returns false'. Refute it at one input. -/
def doneRunsWrong : ChangeSpec := { name := "doneRuns", fn := fun _ => fun
  | [d1, d2, d3, d4, d5] => { results := [.lit (.bool false)], args := [d1, d2, d3, d4, d5] }
  | _ => none }
def DoneRunsWrongFalsely : Prop := doneRunsRow.holds Try.pinned (OpenSpec.ofChange doneRunsWrong)

/- THE SECOND FORM. 'bulk': how many values and letters a reading holds, each counted each time it is reached (what is shared counts as often as it is met; a slice's spare places count too). A statement '..UptoSaid' is the law's where the arguments, and the package variables that the reading takes, are together of bulk at most 1048576: NARROWER than '..Said'. Prove '..Said' where nothing that the law and all that it calls make is longer than what came in: it says more and counts as full. Else prove '..UptoSaid'. A law counts once. -/
mutual
def uptoBulk {H : Type} : DataW H → Nat
  | .lit (.string bytes) => bytes.length + 1
  | .lit _ => 1
  | .nil => 1
  | .ptr d => uptoBulk d + 1
  | .slice elems spare => uptoBulkAll elems + uptoBulkAll spare + 1
  | .agg parts => uptoBulkAll parts + 1
  | .iface _ d => uptoBulk d + 1
  | .map entries => uptoBulkEntries entries + 1
  | .held _ => 1
def uptoBulkAll {H : Type} : List (DataW H) → Nat
  | [] => 0
  | d :: r => uptoBulk d + uptoBulkAll r
def uptoBulkEntries {H : Type} : List (Lit × DataW H) → Nat
  | [] => 0
  | x :: r => uptoBulkEntry x + uptoBulkEntries r
def uptoBulkEntry {H : Type} : Lit × DataW H → Nat
  | (.string bytes, d) => bytes.length + uptoBulk d + 1
  | (_, d) => uptoBulk d + 1
 end
def uptoSmall : (H : Type) → List (DataW H) → Bool := fun _ ds => decide (uptoBulkAll ds ≤ 1048576)
def OpenSpec.upto (s : _root_.Go.ChangeSpec) : _root_.Go.OpenSpec := { _root_.Go.OpenSpec.ofChange s with cond := some uptoSmall }

/-- 'loanbooklaw.NumTells', WHERE WHAT IT READS IS OF BULK AT MOST 1048576: true; the input reads as it did. -/
def numTellsUptoRow : OpenClaim := { program := "ytcmnmogmdhofcaa", sum := "1f84209f6fa2834fac80b571ab54107863f3ed063e3f624aee4e5868d7821025", func := "loanbook/loanbooklaw.NumTells", spec := "numTells", apart := false, narrowed := true }
def NumTellsUptoSaid : Prop := numTellsUptoRow.holds Try.pinned (OpenSpec.upto numTellsSpec)

/-- 'loanbookkeep.NumHalves', WHERE WHAT IT READS IS OF BULK AT MOST 1048576: true; the input reads as it did. -/
def numHalvesUptoRow : OpenClaim := { program := "ytcmnmogmdhofcaa", sum := "1f84209f6fa2834fac80b571ab54107863f3ed063e3f624aee4e5868d7821025", func := "loanbook/loanbookkeep.NumHalves", spec := "numHalves", apart := false, narrowed := true }
def NumHalvesUptoSaid : Prop := numHalvesUptoRow.holds Try.pinned (OpenSpec.upto numHalvesSpec)

/-- 'loanbooklaw.FormTells', WHERE WHAT IT READS IS OF BULK AT MOST 1048576: true; the input reads as it did. -/
def formTellsUptoRow : OpenClaim := { program := "ytcmnmogmdhofcaa", sum := "1f84209f6fa2834fac80b571ab54107863f3ed063e3f624aee4e5868d7821025", func := "loanbook/loanbooklaw.FormTells", spec := "formTells", apart := false, narrowed := true }
def FormTellsUptoSaid : Prop := formTellsUptoRow.holds Try.pinned (OpenSpec.upto formTellsSpec)

/-- 'loanbooklaw.RunRuns', WHERE WHAT IT READS IS OF BULK AT MOST 1048576: true; the input reads as it did. -/
def runRunsUptoRow : OpenClaim := { program := "ytcmnmogmdhofcaa", sum := "1f84209f6fa2834fac80b571ab54107863f3ed063e3f624aee4e5868d7821025", func := "loanbook/loanbooklaw.RunRuns", spec := "runRuns", unfollowed := true, recurses := true, apart := false, narrowed := true }
def RunRunsUptoSaid : Prop := runRunsUptoRow.holds Try.pinned (OpenSpec.upto runRunsSpec)

/-- 'loanbookkeep.RunLonger', WHERE WHAT IT READS IS OF BULK AT MOST 1048576: true; the input reads as it did. -/
def runLongerUptoRow : OpenClaim := { program := "ytcmnmogmdhofcaa", sum := "1f84209f6fa2834fac80b571ab54107863f3ed063e3f624aee4e5868d7821025", func := "loanbook/loanbookkeep.RunLonger", spec := "runLonger", unfollowed := true, recurses := true, apart := false, narrowed := true }
def RunLongerUptoSaid : Prop := runLongerUptoRow.holds Try.pinned (OpenSpec.upto runLongerSpec)

/-- 'loanbooklaw.LiveTells', WHERE WHAT IT READS IS OF BULK AT MOST 1048576: true; the input reads as it did. -/
def liveTellsUptoRow : OpenClaim := { program := "ytcmnmogmdhofcaa", sum := "1f84209f6fa2834fac80b571ab54107863f3ed063e3f624aee4e5868d7821025", func := "loanbook/loanbooklaw.LiveTells", spec := "liveTells", apart := false, narrowed := true }
def LiveTellsUptoSaid : Prop := liveTellsUptoRow.holds Try.pinned (OpenSpec.upto liveTellsSpec)

/-- 'loanbooklaw.NearTells', WHERE WHAT IT READS IS OF BULK AT MOST 1048576: true; the input reads as it did. -/
def nearTellsUptoRow : OpenClaim := { program := "ytcmnmogmdhofcaa", sum := "1f84209f6fa2834fac80b571ab54107863f3ed063e3f624aee4e5868d7821025", func := "loanbook/loanbooklaw.NearTells", spec := "nearTells", unfollowed := true, recurses := true, apart := false, narrowed := true }
def NearTellsUptoSaid : Prop := nearTellsUptoRow.holds Try.pinned (OpenSpec.upto nearTellsSpec)

/-- 'loanbookkeep.NearBoth', WHERE WHAT IT READS IS OF BULK AT MOST 1048576: true; the input reads as it did. -/
def nearBothUptoRow : OpenClaim := { program := "ytcmnmogmdhofcaa", sum := "1f84209f6fa2834fac80b571ab54107863f3ed063e3f624aee4e5868d7821025", func := "loanbook/loanbookkeep.NearBoth", spec := "nearBoth", unfollowed := true, recurses := true, apart := false, narrowed := true }
def NearBothUptoSaid : Prop := nearBothUptoRow.holds Try.pinned (OpenSpec.upto nearBothSpec)

/-- 'loanbooklaw.PlaceTells', WHERE WHAT IT READS IS OF BULK AT MOST 1048576: true; the input reads as it did. -/
def placeTellsUptoRow : OpenClaim := { program := "ytcmnmogmdhofcaa", sum := "1f84209f6fa2834fac80b571ab54107863f3ed063e3f624aee4e5868d7821025", func := "loanbook/loanbooklaw.PlaceTells", spec := "placeTells", apart := false, narrowed := true }
def PlaceTellsUptoSaid : Prop := placeTellsUptoRow.holds Try.pinned (OpenSpec.upto placeTellsSpec)

/-- 'loanbookkeep.PlaceBoth', WHERE WHAT IT READS IS OF BULK AT MOST 1048576: true; the input reads as it did. -/
def placeBothUptoRow : OpenClaim := { program := "ytcmnmogmdhofcaa", sum := "1f84209f6fa2834fac80b571ab54107863f3ed063e3f624aee4e5868d7821025", func := "loanbook/loanbookkeep.PlaceBoth", spec := "placeBoth", apart := false, narrowed := true }
def PlaceBothUptoSaid : Prop := placeBothUptoRow.holds Try.pinned (OpenSpec.upto placeBothSpec)

/-- 'loanbooklaw.DoneRuns', WHERE WHAT IT READS IS OF BULK AT MOST 1048576: true; the input reads as it did. -/
def doneRunsUptoRow : OpenClaim := { program := "ytcmnmogmdhofcaa", sum := "1f84209f6fa2834fac80b571ab54107863f3ed063e3f624aee4e5868d7821025", func := "loanbook/loanbooklaw.DoneRuns", spec := "doneRuns", unfollowed := true, recurses := true, apart := false, narrowed := true }
def DoneRunsUptoSaid : Prop := doneRunsUptoRow.holds Try.pinned (OpenSpec.upto doneRunsSpec)

end Rows
end Go.Proofs.Ytcmnmogmdhofcaa
