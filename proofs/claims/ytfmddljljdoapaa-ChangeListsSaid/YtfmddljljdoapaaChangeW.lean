/-
  Words of layer 9's contracts: octets, or changes, and an error's number.
-/
import Derived.Test.YtfmddljljdoapaaChangeGet
import Derived.Test.YtfmddljljdoapaaFreshE
import Derived.Test.YtfmddljljdoapaaStampPut
namespace Go.Proofs.Ytfmddljljdoapaa
open Go.RowKit
set_option linter.unusedVariables false

/-- Changes in memory of their own, and a number. -/
def FreshCE (w : World) (m : List Chg) (k : Int) (w' : World) (e : Ending) : Prop :=
  ∃ A c, e = .returned (.tuple #[.slice A m.length c, .int .i64 k]) ∧ w'.ownsRow w.heap.size 25 9 (.slice A m.length c) m.length (chgs m) ∧ Below w.heap.size w w'
theorem FreshCE.row {w w' : World} {m : List Chg} {k : Int} {e : Ending} (h : FreshCE w m k w' e) {n : Nat} (hn : m.length = n) : ∃ A c, e = .returned (.tuple #[.slice A n c, .int .i64 k]) ∧ w'.ownsRow w.heap.size 25 9 (.slice A n c) n (chgs m) ∧ Below w.heap.size w w' := by
  subst hn; exact h
/-- What Put tells, and its error. -/
def putM (x : Chg) : List Int := if mayC x = true then bytesC x else []
def putK (x : Chg) : Int := if mayC x = true then 0 else 4
/-- What Get tells beside its change. -/
def getK (l : List Int) : Int := if (getC l).isSome = true then 0 else 16
def allMay (l : List Chg) : Bool := l.all mayC
def allM (l : List Chg) : List Int := if l.length ≤ 48 ∧ allMay l = true then allC l else []
def allK (l : List Chg) : Int := if 48 < l.length then 3 else if allMay l = true then 0 else 4
def listM (b : List Int) : List Chg := (listC b).getD []
def listK (b : List Int) : Int := if (listC b).isSome = true then 0 else 16
theorem putM_yes {x : Chg} (h : mayC x = true) : putM x = bytesC x := by unfold putM; rw [if_pos h]
theorem putM_no {x : Chg} (h : mayC x = false) : putM x = [] := by unfold putM; rw [h]; rfl
theorem putK_yes {x : Chg} (h : mayC x = true) : putK x = 0 := by unfold putK; rw [if_pos h]
theorem putK_no {x : Chg} (h : mayC x = false) : putK x = 4 := by unfold putK; rw [h]; rfl
theorem allMay_iff (l : List Chg) : allMay l = true ↔ ∀ x ∈ l, mayC x = true := by simp [allMay]
end Go.Proofs.Ytfmddljljdoapaa
