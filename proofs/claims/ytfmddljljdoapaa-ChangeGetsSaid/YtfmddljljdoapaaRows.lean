/-
  No cell of these rows narrows 'for every input' (looked for: loops, veiled, ifaces, maps, wideKeys, modest, calm, conditions, laid).
  DERIVED. THE GIVEN ROWS OF THIS SEAT. 3 by the template 'for every input the law returns true; each argument reads behind the call as it read before'; 0 by the template 'total and deterministic' (their statements: YtfmddljljdoapaaTotals.lean).
  GIVEN WITH THE SEED: the statements are not yours to turn. If you find one false, say at which input.
  Laid BY PROGRAM, IN A SANDBOX (cutbox-rows.mjs): the forced cells as the released guide's own fill.sh prints them over the translation aba67b3c522c6585… (all of the seat's roots in one cut). By AI agents, Wed Nov 11 2026. No macro, syntax, notation, axiom, sorry.
-/
import Derived.Test.YtfmddljljdoapaaChecked
import GoSem.Claim
import GoSem.ClaimJoined
import GoSem.ClaimMapViews
import Derived.JoinedTies
import Derived.KernelRfl
namespace Go.Proofs.Ytfmddljljdoapaa
/- THE CELL 'sum', in the pinned program and in every row, IS THE sha256 OF THE DUMP (.gsa) THAT YtfmddljljdoapaaProg.lean LOADS. Nothing in Lean hashes anything: it is a label: what it is worth is what the hold of that sum in a sandbox is worth. -/
noncomputable def Try.pinned : Pinned := { name := "ytfmddljljdoapaa", sum := "aba67b3c522c65856eee97af34d3b1071b7d822de53f7c1ddc58af16f1b9681d", checked := Try.checked }
namespace Rows
def none {H : Type} : Left H := { results := [], args := [] }

/-- 'countermandlaw09.ChangePuts': WHATEVER THE INPUT: true; the input reads as it did. -/
def changePutsSpec : ChangeSpec := { name := "changePuts", fn := fun _ => fun
  | [d] => { results := [.lit (.bool true)], args := [d] }
  | _ => none }
def changePutsRow : OpenClaim := { program := "ytfmddljljdoapaa", sum := "aba67b3c522c65856eee97af34d3b1071b7d822de53f7c1ddc58af16f1b9681d", func := "countermand/countermandlaw09.ChangePuts", spec := "changePuts", unfollowed := true, recurses := true, apart := false }
def ChangePutsSaid : Prop := changePutsRow.holds Try.pinned (OpenSpec.ofChange changePutsSpec)

/-- ITS FALSE NEIGHBOUR: 'it returns false'. Refute it at one input. -/
def changePutsWrong : ChangeSpec := { name := "changePuts", fn := fun _ => fun
  | [d] => { results := [.lit (.bool false)], args := [d] }
  | _ => none }
def ChangePutsWrongFalsely : Prop := changePutsRow.holds Try.pinned (OpenSpec.ofChange changePutsWrong)

/-- 'countermandlaw09.ChangeGets': WHATEVER THE INPUT: true; the input reads as it did. -/
def changeGetsSpec : ChangeSpec := { name := "changeGets", fn := fun _ => fun
  | [d] => { results := [.lit (.bool true)], args := [d] }
  | _ => none }
def changeGetsRow : OpenClaim := { program := "ytfmddljljdoapaa", sum := "aba67b3c522c65856eee97af34d3b1071b7d822de53f7c1ddc58af16f1b9681d", func := "countermand/countermandlaw09.ChangeGets", spec := "changeGets", unfollowed := true, recurses := true, apart := false }
def ChangeGetsSaid : Prop := changeGetsRow.holds Try.pinned (OpenSpec.ofChange changeGetsSpec)

/-- ITS FALSE NEIGHBOUR: 'it returns false'. Refute it at one input. -/
def changeGetsWrong : ChangeSpec := { name := "changeGets", fn := fun _ => fun
  | [d] => { results := [.lit (.bool false)], args := [d] }
  | _ => none }
def ChangeGetsWrongFalsely : Prop := changeGetsRow.holds Try.pinned (OpenSpec.ofChange changeGetsWrong)

/-- 'countermandlaw09.ChangeLists': WHATEVER THE INPUT: true; the input reads as it did. -/
def changeListsSpec : ChangeSpec := { name := "changeLists", fn := fun _ => fun
  | [d1, d2] => { results := [.lit (.bool true)], args := [d1, d2] }
  | _ => none }
def changeListsRow : OpenClaim := { program := "ytfmddljljdoapaa", sum := "aba67b3c522c65856eee97af34d3b1071b7d822de53f7c1ddc58af16f1b9681d", func := "countermand/countermandlaw09.ChangeLists", spec := "changeLists", unfollowed := true, recurses := true, apart := false }
def ChangeListsSaid : Prop := changeListsRow.holds Try.pinned (OpenSpec.ofChange changeListsSpec)

/-- ITS FALSE NEIGHBOUR: 'it returns false'. Refute it at one input. -/
def changeListsWrong : ChangeSpec := { name := "changeLists", fn := fun _ => fun
  | [d1, d2] => { results := [.lit (.bool false)], args := [d1, d2] }
  | _ => none }
def ChangeListsWrongFalsely : Prop := changeListsRow.holds Try.pinned (OpenSpec.ofChange changeListsWrong)

/- THE SECOND FORM. 'bulk': how many values and letters a reading holds, each counted each time it is reached (what is shared counts as often as it is met; a slice's spare places count too). A statement '..UptoSaid' is the law's where the arguments, and the package variables that the reading takes, are together of bulk at most 1048576: NARROWER than '..Said'. Prove '..Said' where nothing that the law and all that it calls make is longer than what came in: it says more and counts as full. Else prove '..UptoSaid'. A law counts once. -/
mutual
def uptoBulk {H : Type} : DataW H → Nat
  | .lit (.string bytes) => bytes.length + 1
  | .lit _ => 1
  | .nil => 1
  | .ptr d => uptoBulk d + 1
  | .slice elems spare => uptoBulkAll elems + uptoBulkAll spare + 1
  | .agg parts => uptoBulkAll parts + 1
  | .iface _ d => uptoBulk d + 1
  | .map entries => uptoBulkEntries entries + 1
  | .held _ => 1
def uptoBulkAll {H : Type} : List (DataW H) → Nat
  | [] => 0
  | d :: r => uptoBulk d + uptoBulkAll r
def uptoBulkEntries {H : Type} : List (Lit × DataW H) → Nat
  | [] => 0
  | x :: r => uptoBulkEntry x + uptoBulkEntries r
def uptoBulkEntry {H : Type} : Lit × DataW H → Nat
  | (.string bytes, d) => bytes.length + uptoBulk d + 1
  | (_, d) => uptoBulk d + 1
 end
def uptoSmall : (H : Type) → List (DataW H) → Bool := fun _ ds => decide (uptoBulkAll ds ≤ 1048576)
def OpenSpec.upto (s : _root_.Go.ChangeSpec) : _root_.Go.OpenSpec := { _root_.Go.OpenSpec.ofChange s with cond := some uptoSmall }

/-- 'countermandlaw09.ChangePuts', WHERE WHAT IT READS IS OF BULK AT MOST 1048576: true; the input reads as it did. -/
def changePutsUptoRow : OpenClaim := { program := "ytfmddljljdoapaa", sum := "aba67b3c522c65856eee97af34d3b1071b7d822de53f7c1ddc58af16f1b9681d", func := "countermand/countermandlaw09.ChangePuts", spec := "changePuts", unfollowed := true, recurses := true, apart := false, narrowed := true }
def ChangePutsUptoSaid : Prop := changePutsUptoRow.holds Try.pinned (OpenSpec.upto changePutsSpec)

/-- 'countermandlaw09.ChangeGets', WHERE WHAT IT READS IS OF BULK AT MOST 1048576: true; the input reads as it did. -/
def changeGetsUptoRow : OpenClaim := { program := "ytfmddljljdoapaa", sum := "aba67b3c522c65856eee97af34d3b1071b7d822de53f7c1ddc58af16f1b9681d", func := "countermand/countermandlaw09.ChangeGets", spec := "changeGets", unfollowed := true, recurses := true, apart := false, narrowed := true }
def ChangeGetsUptoSaid : Prop := changeGetsUptoRow.holds Try.pinned (OpenSpec.upto changeGetsSpec)

/-- 'countermandlaw09.ChangeLists', WHERE WHAT IT READS IS OF BULK AT MOST 1048576: true; the input reads as it did. -/
def changeListsUptoRow : OpenClaim := { program := "ytfmddljljdoapaa", sum := "aba67b3c522c65856eee97af34d3b1071b7d822de53f7c1ddc58af16f1b9681d", func := "countermand/countermandlaw09.ChangeLists", spec := "changeLists", unfollowed := true, recurses := true, apart := false, narrowed := true }
def ChangeListsUptoSaid : Prop := changeListsUptoRow.holds Try.pinned (OpenSpec.upto changeListsSpec)

end Rows
end Go.Proofs.Ytfmddljljdoapaa
