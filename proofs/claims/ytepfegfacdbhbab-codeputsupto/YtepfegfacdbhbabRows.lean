/-
  No cell of these rows narrows 'for every input' (looked for: loops, veiled, ifaces, maps, wideKeys, modest, calm, conditions, laid).
  DERIVED. THE GIVEN ROWS OF THIS SEAT. 8 by the template 'for every input the law returns true; each argument reads behind the call as it read before'; 0 by the template 'total and deterministic' (their statements: YtepfegfacdbhbabTotals.lean).
  GIVEN WITH THE SEED: the statements are not yours to turn. If you find one false, say at which input.
  Laid BY PROGRAM, IN A SANDBOX (cutbox-rows.mjs): the forced cells as the released guide's own fill.sh prints them over the translation fbc738aadfc9e6b1… (all of the seat's roots in one cut). By AI agents, Wed Nov 11 2026. No macro, syntax, notation, axiom, sorry.
-/
import Derived.Test.YtepfegfacdbhbabChecked
import GoSem.Claim
import GoSem.ClaimJoined
import GoSem.ClaimMapViews
import Derived.JoinedTies
import Derived.KernelRfl
namespace Go.Proofs.Ytepfegfacdbhbab
/- THE CELL 'sum', in the pinned program and in every row, IS THE sha256 OF THE DUMP (.gsa) THAT YtepfegfacdbhbabProg.lean LOADS. Nothing in Lean hashes anything: it is a label: what it is worth is what the hold of that sum in a sandbox is worth. -/
noncomputable def Try.pinned : Pinned := { name := "ytepfegfacdbhbab", sum := "fbc738aadfc9e6b13de1e00283366a92b4082fe7736a577a3efbe171aa37ce4f", checked := Try.checked }
namespace Rows
def none {H : Type} : Left H := { results := [], args := [] }

/-- 'loanbooklaw.ColorApart': WHATEVER THE INPUT: true; the input reads as it did. -/
def colorApartSpec : ChangeSpec := { name := "colorApart", fn := fun _ => fun
  | [d1, d2] => { results := [.lit (.bool true)], args := [d1, d2] }
  | _ => none }
def colorApartRow : OpenClaim := { program := "ytepfegfacdbhbab", sum := "fbc738aadfc9e6b13de1e00283366a92b4082fe7736a577a3efbe171aa37ce4f", func := "loanbook/loanbooklaw.ColorApart", spec := "colorApart", unfollowed := true, recurses := true, apart := false }
def ColorApartSaid : Prop := colorApartRow.holds Try.pinned (OpenSpec.ofChange colorApartSpec)

/-- ITS FALSE NEIGHBOUR: 'it returns false'. Refute it at one input. -/
def colorApartWrong : ChangeSpec := { name := "colorApart", fn := fun _ => fun
  | [d1, d2] => { results := [.lit (.bool false)], args := [d1, d2] }
  | _ => none }
def ColorApartWrongFalsely : Prop := colorApartRow.holds Try.pinned (OpenSpec.ofChange colorApartWrong)

/-- 'loanbooklaw.BuildTakes': WHATEVER THE INPUT: true; the input reads as it did. -/
def buildTakesSpec : ChangeSpec := { name := "buildTakes", fn := fun _ => fun
  | [d1, d2] => { results := [.lit (.bool true)], args := [d1, d2] }
  | _ => none }
def buildTakesRow : OpenClaim := { program := "ytepfegfacdbhbab", sum := "fbc738aadfc9e6b13de1e00283366a92b4082fe7736a577a3efbe171aa37ce4f", func := "loanbook/loanbooklaw.BuildTakes", spec := "buildTakes", unfollowed := true, recurses := true, apart := false }
def BuildTakesSaid : Prop := buildTakesRow.holds Try.pinned (OpenSpec.ofChange buildTakesSpec)

/-- ITS FALSE NEIGHBOUR: 'it returns false'. Refute it at one input. -/
def buildTakesWrong : ChangeSpec := { name := "buildTakes", fn := fun _ => fun
  | [d1, d2] => { results := [.lit (.bool false)], args := [d1, d2] }
  | _ => none }
def BuildTakesWrongFalsely : Prop := buildTakesRow.holds Try.pinned (OpenSpec.ofChange buildTakesWrong)

/-- 'loanbooklaw.BuildSame': WHATEVER THE INPUT: true; the input reads as it did. -/
def buildSameSpec : ChangeSpec := { name := "buildSame", fn := fun _ => fun
  | [d1, d2, d3, d4] => { results := [.lit (.bool true)], args := [d1, d2, d3, d4] }
  | _ => none }
def buildSameRow : OpenClaim := { program := "ytepfegfacdbhbab", sum := "fbc738aadfc9e6b13de1e00283366a92b4082fe7736a577a3efbe171aa37ce4f", func := "loanbook/loanbooklaw.BuildSame", spec := "buildSame", unfollowed := true, recurses := true, apart := false }
def BuildSameSaid : Prop := buildSameRow.holds Try.pinned (OpenSpec.ofChange buildSameSpec)

/-- ITS FALSE NEIGHBOUR: 'it returns false'. Refute it at one input. -/
def buildSameWrong : ChangeSpec := { name := "buildSame", fn := fun _ => fun
  | [d1, d2, d3, d4] => { results := [.lit (.bool false)], args := [d1, d2, d3, d4] }
  | _ => none }
def BuildSameWrongFalsely : Prop := buildSameRow.holds Try.pinned (OpenSpec.ofChange buildSameWrong)

/-- 'loanbookkeep.BuildRuns': WHATEVER THE INPUT: true; the input reads as it did. -/
def buildRunsSpec : ChangeSpec := { name := "buildRuns", fn := fun _ => fun
  | [d1, d2, d3, d4, d5] => { results := [.lit (.bool true)], args := [d1, d2, d3, d4, d5] }
  | _ => none }
def buildRunsRow : OpenClaim := { program := "ytepfegfacdbhbab", sum := "fbc738aadfc9e6b13de1e00283366a92b4082fe7736a577a3efbe171aa37ce4f", func := "loanbook/loanbookkeep.BuildRuns", spec := "buildRuns", unfollowed := true, recurses := true, apart := false }
def BuildRunsSaid : Prop := buildRunsRow.holds Try.pinned (OpenSpec.ofChange buildRunsSpec)

/-- ITS FALSE NEIGHBOUR: 'it returns false'. Refute it at one input. -/
def buildRunsWrong : ChangeSpec := { name := "buildRuns", fn := fun _ => fun
  | [d1, d2, d3, d4, d5] => { results := [.lit (.bool false)], args := [d1, d2, d3, d4, d5] }
  | _ => none }
def BuildRunsWrongFalsely : Prop := buildRunsRow.holds Try.pinned (OpenSpec.ofChange buildRunsWrong)

/-- 'loanbooklaw.CodePuts': WHATEVER THE INPUT: true; the input reads as it did. -/
def codePutsSpec : ChangeSpec := { name := "codePuts", fn := fun _ => fun
  | [d] => { results := [.lit (.bool true)], args := [d] }
  | _ => none }
def codePutsRow : OpenClaim := { program := "ytepfegfacdbhbab", sum := "fbc738aadfc9e6b13de1e00283366a92b4082fe7736a577a3efbe171aa37ce4f", func := "loanbook/loanbooklaw.CodePuts", spec := "codePuts", apart := false }
def CodePutsSaid : Prop := codePutsRow.holds Try.pinned (OpenSpec.ofChange codePutsSpec)

/-- ITS FALSE NEIGHBOUR: 'it returns false'. Refute it at one input. -/
def codePutsWrong : ChangeSpec := { name := "codePuts", fn := fun _ => fun
  | [d] => { results := [.lit (.bool false)], args := [d] }
  | _ => none }
def CodePutsWrongFalsely : Prop := codePutsRow.holds Try.pinned (OpenSpec.ofChange codePutsWrong)

/-- 'loanbooklaw.CodeGets': WHATEVER THE INPUT: true; the input reads as it did. -/
def codeGetsSpec : ChangeSpec := { name := "codeGets", fn := fun _ => fun
  | [d] => { results := [.lit (.bool true)], args := [d] }
  | _ => none }
def codeGetsRow : OpenClaim := { program := "ytepfegfacdbhbab", sum := "fbc738aadfc9e6b13de1e00283366a92b4082fe7736a577a3efbe171aa37ce4f", func := "loanbook/loanbooklaw.CodeGets", spec := "codeGets", apart := false }
def CodeGetsSaid : Prop := codeGetsRow.holds Try.pinned (OpenSpec.ofChange codeGetsSpec)

/-- ITS FALSE NEIGHBOUR: 'it returns false'. Refute it at one input. -/
def codeGetsWrong : ChangeSpec := { name := "codeGets", fn := fun _ => fun
  | [d] => { results := [.lit (.bool false)], args := [d] }
  | _ => none }
def CodeGetsWrongFalsely : Prop := codeGetsRow.holds Try.pinned (OpenSpec.ofChange codeGetsWrong)

/-- 'loanbookkeep.CodeBack': WHATEVER THE INPUT: true; the input reads as it did. -/
def codeBackSpec : ChangeSpec := { name := "codeBack", fn := fun _ => fun
  | [d1, d2] => { results := [.lit (.bool true)], args := [d1, d2] }
  | _ => none }
def codeBackRow : OpenClaim := { program := "ytepfegfacdbhbab", sum := "fbc738aadfc9e6b13de1e00283366a92b4082fe7736a577a3efbe171aa37ce4f", func := "loanbook/loanbookkeep.CodeBack", spec := "codeBack", apart := false }
def CodeBackSaid : Prop := codeBackRow.holds Try.pinned (OpenSpec.ofChange codeBackSpec)

/-- ITS FALSE NEIGHBOUR: 'it returns false'. Refute it at one input. -/
def codeBackWrong : ChangeSpec := { name := "codeBack", fn := fun _ => fun
  | [d1, d2] => { results := [.lit (.bool false)], args := [d1, d2] }
  | _ => none }
def CodeBackWrongFalsely : Prop := codeBackRow.holds Try.pinned (OpenSpec.ofChange codeBackWrong)

/-- 'loanbookkeep.CodeThere': WHATEVER THE INPUT: true; the input reads as it did. -/
def codeThereSpec : ChangeSpec := { name := "codeThere", fn := fun _ => fun
  | [d] => { results := [.lit (.bool true)], args := [d] }
  | _ => none }
def codeThereRow : OpenClaim := { program := "ytepfegfacdbhbab", sum := "fbc738aadfc9e6b13de1e00283366a92b4082fe7736a577a3efbe171aa37ce4f", func := "loanbook/loanbookkeep.CodeThere", spec := "codeThere", apart := false }
def CodeThereSaid : Prop := codeThereRow.holds Try.pinned (OpenSpec.ofChange codeThereSpec)

/-- ITS FALSE NEIGHBOUR: 'it returns false'. Refute it at one input. -/
def codeThereWrong : ChangeSpec := { name := "codeThere", fn := fun _ => fun
  | [d] => { results := [.lit (.bool false)], args := [d] }
  | _ => none }
def CodeThereWrongFalsely : Prop := codeThereRow.holds Try.pinned (OpenSpec.ofChange codeThereWrong)

/- THE SECOND FORM. 'bulk': how many values and letters a reading holds, each counted each time it is reached (what is shared counts as often as it is met; a slice's spare places count too). A statement '..UptoSaid' is the law's where the arguments, and the package variables that the reading takes, are together of bulk at most 1048576: NARROWER than '..Said'. Prove '..Said' where nothing that the law and all that it calls make is longer than what came in: it says more and counts as full. Else prove '..UptoSaid'. A law counts once. -/
mutual
def uptoBulk {H : Type} : DataW H → Nat
  | .lit (.string bytes) => bytes.length + 1
  | .lit _ => 1
  | .nil => 1
  | .ptr d => uptoBulk d + 1
  | .slice elems spare => uptoBulkAll elems + uptoBulkAll spare + 1
  | .agg parts => uptoBulkAll parts + 1
  | .iface _ d => uptoBulk d + 1
  | .map entries => uptoBulkEntries entries + 1
  | .held _ => 1
def uptoBulkAll {H : Type} : List (DataW H) → Nat
  | [] => 0
  | d :: r => uptoBulk d + uptoBulkAll r
def uptoBulkEntries {H : Type} : List (Lit × DataW H) → Nat
  | [] => 0
  | x :: r => uptoBulkEntry x + uptoBulkEntries r
def uptoBulkEntry {H : Type} : Lit × DataW H → Nat
  | (.string bytes, d) => bytes.length + uptoBulk d + 1
  | (_, d) => uptoBulk d + 1
 end
def uptoSmall : (H : Type) → List (DataW H) → Bool := fun _ ds => decide (uptoBulkAll ds ≤ 1048576)
def OpenSpec.upto (s : _root_.Go.ChangeSpec) : _root_.Go.OpenSpec := { _root_.Go.OpenSpec.ofChange s with cond := some uptoSmall }

/-- 'loanbooklaw.ColorApart', WHERE WHAT IT READS IS OF BULK AT MOST 1048576: true; the input reads as it did. -/
def colorApartUptoRow : OpenClaim := { program := "ytepfegfacdbhbab", sum := "fbc738aadfc9e6b13de1e00283366a92b4082fe7736a577a3efbe171aa37ce4f", func := "loanbook/loanbooklaw.ColorApart", spec := "colorApart", unfollowed := true, recurses := true, apart := false, narrowed := true }
def ColorApartUptoSaid : Prop := colorApartUptoRow.holds Try.pinned (OpenSpec.upto colorApartSpec)

/-- 'loanbooklaw.BuildTakes', WHERE WHAT IT READS IS OF BULK AT MOST 1048576: true; the input reads as it did. -/
def buildTakesUptoRow : OpenClaim := { program := "ytepfegfacdbhbab", sum := "fbc738aadfc9e6b13de1e00283366a92b4082fe7736a577a3efbe171aa37ce4f", func := "loanbook/loanbooklaw.BuildTakes", spec := "buildTakes", unfollowed := true, recurses := true, apart := false, narrowed := true }
def BuildTakesUptoSaid : Prop := buildTakesUptoRow.holds Try.pinned (OpenSpec.upto buildTakesSpec)

/-- 'loanbooklaw.BuildSame', WHERE WHAT IT READS IS OF BULK AT MOST 1048576: true; the input reads as it did. -/
def buildSameUptoRow : OpenClaim := { program := "ytepfegfacdbhbab", sum := "fbc738aadfc9e6b13de1e00283366a92b4082fe7736a577a3efbe171aa37ce4f", func := "loanbook/loanbooklaw.BuildSame", spec := "buildSame", unfollowed := true, recurses := true, apart := false, narrowed := true }
def BuildSameUptoSaid : Prop := buildSameUptoRow.holds Try.pinned (OpenSpec.upto buildSameSpec)

/-- 'loanbookkeep.BuildRuns', WHERE WHAT IT READS IS OF BULK AT MOST 1048576: true; the input reads as it did. -/
def buildRunsUptoRow : OpenClaim := { program := "ytepfegfacdbhbab", sum := "fbc738aadfc9e6b13de1e00283366a92b4082fe7736a577a3efbe171aa37ce4f", func := "loanbook/loanbookkeep.BuildRuns", spec := "buildRuns", unfollowed := true, recurses := true, apart := false, narrowed := true }
def BuildRunsUptoSaid : Prop := buildRunsUptoRow.holds Try.pinned (OpenSpec.upto buildRunsSpec)

/-- 'loanbooklaw.CodePuts', WHERE WHAT IT READS IS OF BULK AT MOST 1048576: true; the input reads as it did. -/
def codePutsUptoRow : OpenClaim := { program := "ytepfegfacdbhbab", sum := "fbc738aadfc9e6b13de1e00283366a92b4082fe7736a577a3efbe171aa37ce4f", func := "loanbook/loanbooklaw.CodePuts", spec := "codePuts", apart := false, narrowed := true }
def CodePutsUptoSaid : Prop := codePutsUptoRow.holds Try.pinned (OpenSpec.upto codePutsSpec)

/-- 'loanbooklaw.CodeGets', WHERE WHAT IT READS IS OF BULK AT MOST 1048576: true; the input reads as it did. -/
def codeGetsUptoRow : OpenClaim := { program := "ytepfegfacdbhbab", sum := "fbc738aadfc9e6b13de1e00283366a92b4082fe7736a577a3efbe171aa37ce4f", func := "loanbook/loanbooklaw.CodeGets", spec := "codeGets", apart := false, narrowed := true }
def CodeGetsUptoSaid : Prop := codeGetsUptoRow.holds Try.pinned (OpenSpec.upto codeGetsSpec)

/-- 'loanbookkeep.CodeBack', WHERE WHAT IT READS IS OF BULK AT MOST 1048576: true; the input reads as it did. -/
def codeBackUptoRow : OpenClaim := { program := "ytepfegfacdbhbab", sum := "fbc738aadfc9e6b13de1e00283366a92b4082fe7736a577a3efbe171aa37ce4f", func := "loanbook/loanbookkeep.CodeBack", spec := "codeBack", apart := false, narrowed := true }
def CodeBackUptoSaid : Prop := codeBackUptoRow.holds Try.pinned (OpenSpec.upto codeBackSpec)

/-- 'loanbookkeep.CodeThere', WHERE WHAT IT READS IS OF BULK AT MOST 1048576: true; the input reads as it did. -/
def codeThereUptoRow : OpenClaim := { program := "ytepfegfacdbhbab", sum := "fbc738aadfc9e6b13de1e00283366a92b4082fe7736a577a3efbe171aa37ce4f", func := "loanbook/loanbookkeep.CodeThere", spec := "codeThere", apart := false, narrowed := true }
def CodeThereUptoSaid : Prop := codeThereUptoRow.holds Try.pinned (OpenSpec.upto codeThereSpec)

end Rows
end Go.Proofs.Ytepfegfacdbhbab
