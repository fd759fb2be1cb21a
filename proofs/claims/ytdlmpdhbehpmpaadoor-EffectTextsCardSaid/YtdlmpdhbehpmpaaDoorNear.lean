/-
  The contract of Near.
-/
import Derived.Test.YtdlmpdhbehpmpaaDoorMem
namespace Go.Proofs.YtdlmpdhbehpmpaaDoor
open Go.RowKit
set_option linter.unusedVariables false

/-- The nearest from lo to hi. -/
def near (n lo hi : Int) : Int := if n < lo then lo else if hi < n then hi else n
theorem near_in {n lo hi : Int} (h : lo ≤ hi) : lo ≤ near n lo hi ∧ near n lo hi ≤ hi := by
  unfold near
  split
  · omega
  · split <;> omega
end Go.Proofs.YtdlmpdhbehpmpaaDoor
