/-
  Words of layer 10's contracts.
-/
import Derived.Test.YtdlmpdhbehpmpaaDoorEffM
import Derived.Test.YtdlmpdhbehpmpaaDoorFreshE
namespace Go.Proofs.YtdlmpdhbehpmpaaDoor
open Go.RowKit
set_option linter.unusedVariables false
def putEM (x : Eff) : List Int := if codeE x = 0 then bytesE x else []
def getEK (l : List Int) : Int := if (getE l).isSome = true then 0 else 16
theorem putEM_yes {x : Eff} (h : codeE x = 0) : putEM x = bytesE x := by unfold putEM; rw [if_pos h]
theorem putEM_no {x : Eff} (h : codeE x ≠ 0) : putEM x = [] := by unfold putEM; rw [if_neg h]
theorem getEK_bytesE {x : Eff} (h : codeE x = 0) (hn : I64 x.n) : getEK (bytesE x) = 0 := by unfold getEK; rw [getE_bytesE h hn]; rfl
end Go.Proofs.YtdlmpdhbehpmpaaDoor
