/-
  What the calls of package disk come to. (D: 'this block, with those of P, is a disk that is as k says'.)
-/
import Derived.Test.YthoedknnchaiaaaDiskM
import Derived.Test.YthoedknnchaiaaaOctPut
import Derived.Test.YthoedknnchaiaaaNear
namespace Go.Proofs.Ythoedknnchaiaaa
open Go.RowKit
set_option linter.unusedVariables false
abbrev DskP := World → (Nat → Prop) → Nat → Dk → Prop

/-- A new disk. -/
def DMade (D : DskP) (k : Dk) (w w' : World) (e : Ending) : Prop :=
  ∃ g P, e = .returned (.pointer (some ⟨g, 0, none⟩)) ∧ D w' P g k ∧ (∀ n, P n → w.heap.size ≤ n) ∧ Below w.heap.size w w'
def DNew (D : DskP) (m : Nat) (w w' : World) (e : Ending) : Prop := DMade D (Dk.fresh m) w w' e
/-- It is as k says behind the call. -/
def DDid (D : DskP) (P : Nat → Prop) (d : Nat) (k : Dk) (v : Value) (w w' : World) (e : Ending) : Prop :=
  e = .returned v ∧ ∃ P', D w' P' d k ∧ (∀ n, P' n → P n ∨ w.heap.size ≤ n) ∧ Touch P w w'
/-- Fresh octets, and whether there are any. -/
def FreshB (w : World) (l : List Int) (b : Bool) (w' : World) (e : Ending) : Prop :=
  ∃ A c, e = .returned (.tuple #[.slice A l.length c, .bool b]) ∧ w'.ownsRow w.heap.size 5 1 (.slice A l.length c) l.length (octs l) ∧ Below w.heap.size w w'
end Go.Proofs.Ythoedknnchaiaaa
