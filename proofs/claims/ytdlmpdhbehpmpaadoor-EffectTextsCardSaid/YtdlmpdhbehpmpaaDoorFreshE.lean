/-
  Octets in memory of their own, and an error's number beside them.
-/
import Derived.Test.YtdlmpdhbehpmpaaDoorOctC
namespace Go.Proofs.YtdlmpdhbehpmpaaDoor
open Go.RowKit
set_option linter.unusedVariables false

/-- Octets in memory of their own, and a number. -/
def FreshE (w : World) (m : List Int) (k : Int) (w' : World) (e : Ending) : Prop :=
  ∃ A c, e = .returned (.tuple #[.slice A m.length c, .int .i64 k]) ∧ w'.ownsRow w.heap.size 5 1 (.slice A m.length c) m.length (octs m) ∧ Below w.heap.size w w'
theorem FreshE.row {w w' : World} {m : List Int} {k : Int} {e : Ending} (h : FreshE w m k w' e) {n : Nat} (hn : m.length = n) : ∃ A c, e = .returned (.tuple #[.slice A n c, .int .i64 k]) ∧ w'.ownsRow w.heap.size 5 1 (.slice A n c) n (octs m) ∧ Below w.heap.size w w' := by
  subst hn; exact h
theorem own_octs {w : World} {base : Nat} {e : TypeId} {A : Option Addr} {n c : Nat} {xs : List Value} (h : w.ownsRow base e 1 (.slice A n c) n xs) : Row w (fun b => base ≤ b) A n c xs := Row.of_own h
end Go.Proofs.YtdlmpdhbehpmpaaDoor
