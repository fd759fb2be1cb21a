/-
  Names of changes and requests: words, and the reference's contracts.
-/
import Derived.Test.YtdlmpdhbehpmpaaDoorNear
import Derived.Handy
namespace Go.Proofs.YtdlmpdhbehpmpaaDoor
open Go.RowKit
set_option linter.unusedVariables false

def idOf (r s : Int) : Value := .agg #[.int .i64 r, .int .i64 s]
def keyOf (r s o : Int) (u : Bool) : Value := .agg #[.int .i64 r, .int .i64 s, .int .i64 o, .bool u]
def mayId (r s : Int) : Bool := decide (0 ≤ r ∧ r ≤ 3 ∧ 1 ≤ s ∧ s ≤ 65535)
def mayKey (r s o : Int) : Bool := mayId r s && decide (1 ≤ o ∧ o ≤ 255)
def lessId (r s r2 s2 : Int) : Bool := decide (s < s2 ∨ (s = s2 ∧ r < r2))
def lessKey (r s o : Int) (u : Bool) (r2 s2 o2 : Int) (u2 : Bool) : Bool :=
  if r = r2 ∧ s = s2 then decide (o < o2) || (decide (o = o2) && !u && u2) else lessId r s r2 s2

theorem mayId_no {r s : Int} (h : r < 0 ∨ 3 < r ∨ s < 1 ∨ 65535 < s) : mayId r s = false := decide_eq_false (by omega)
theorem mayId_yes {r s : Int} (h : 0 ≤ r ∧ r ≤ 3 ∧ 1 ≤ s ∧ s ≤ 65535) : mayId r s = true := decide_eq_true h

end Go.Proofs.YtdlmpdhbehpmpaaDoor
