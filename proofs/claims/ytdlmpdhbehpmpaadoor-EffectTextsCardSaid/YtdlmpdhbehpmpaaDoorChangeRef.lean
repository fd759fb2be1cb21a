/-
  The reference's contracts of layer 9: a change's octets.
-/
import Derived.Test.YtdlmpdhbehpmpaaDoorChangeMay
import Derived.Test.YtdlmpdhbehpmpaaDoorAppK
import Derived.Handy
namespace Go.Proofs.YtdlmpdhbehpmpaaDoor
open Go.RowKit
set_option linter.unusedVariables false

theorem Fresh.row {w w' : World} {m : List Int} {e : Ending} (h : Fresh w m w' e) {k : Nat} (hk : m.length = k) : ∃ A c, e = .returned (.slice A k c) ∧ w'.ownsRow w.heap.size 5 1 (.slice A k c) k (octs m) ∧ Below w.heap.size w w' := by
  subst hk; exact h

theorem own_at {w : World} {base : Nat} {e : TypeId} {size : Nat} {v : Value} {n : Nat} {xs : List Value} (h : w.ownsRow base e size v n xs) : ∀ g, v.ownBlock = some g → base ≤ g := fun g hg => (h.lt g hg).1
theorem three_new (w : World) (x y z : Value) (t : TypeId) : ∀ j u, [x, y, z][j]? = some u → (w.alloc (.cells #[x, y, z] t)).cell? ((⟨w.heap.size, 0, none⟩ : Addr).add j) = some u := cells_new w #[x, y, z] t

end Go.Proofs.YtdlmpdhbehpmpaaDoor
