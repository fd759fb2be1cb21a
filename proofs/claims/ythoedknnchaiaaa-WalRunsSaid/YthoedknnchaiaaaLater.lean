/-
  Worlds that come behind a world.
-/
import Derived.Test.YthoedknnchaiaaaMem
namespace Go.Proofs.Ythoedknnchaiaaa
open Go.RowKit
set_option linter.unusedVariables false

/-- What was there in w is there in w' as it was. -/
def Since (w w' : World) : Prop := Below w.heap.size w w'
theorem Since.refl (w : World) : Since w w := Below.refl _ w
theorem Since.drew {w w' : World} (h : Since w w') : Since w w'.drew := Below.drew h
theorem Since.next {w w' w2 : World} (h : Since w w') (hb : Below w'.heap.size w' w2) : Since w w2 := Below.trans h (hb.mono (Below.size h))
theorem Since.alloc {w w' : World} (h : Since w w') (o : Obj) : Since w (w'.alloc o) := Below.alloc h (Below.size h) o
theorem Since.row {w w' : World} {P : Nat → Prop} {A : Option Addr} {n c : Nat} {xs : List Value} (h : Since w w') (hr : Row w P A n c xs) : Row w' P A n c xs := hr.below h (fun _ _ h => h)
end Go.Proofs.Ythoedknnchaiaaa
