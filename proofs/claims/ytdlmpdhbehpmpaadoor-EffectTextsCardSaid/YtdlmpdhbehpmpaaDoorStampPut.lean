/-
  The reference's Put, Without, Find: one more change, one less, where one stands.
-/
import Derived.Test.YtdlmpdhbehpmpaaDoorStampRef
import Derived.Test.YtdlmpdhbehpmpaaDoorAppK
import Derived.Test.YtdlmpdhbehpmpaaDoorLater
import Derived.Deep.RegionHeld
namespace Go.Proofs.YtdlmpdhbehpmpaaDoor
open Go.RowKit
set_option linter.unusedVariables false

/-- Behind the last one of the first j that is not above c. -/
def lastAt (c : Chg) (l : List Chg) : Nat → Nat
  | 0 => 0
  | j + 1 => match l[j]? with
    | some x => if lessC c x then lastAt c l j else j + 1
    | none => lastAt c l j
theorem lastAt_le (c : Chg) (l : List Chg) (j : Nat) : lastAt c l j ≤ j := by
  induction j with
  | zero => exact Nat.le_refl _
  | succ j ih =>
    unfold lastAt
    split
    · split <;> omega
    · omega
def putC (l : List Chg) (c : Chg) : List Chg := l.take (lastAt c l l.length) ++ c :: l.drop (lastAt c l l.length)
theorem Since.trans {a b c : World} (h : Since a b) (k : Since b c) : Since a c := Below.trans h (Below.mono k (Below.size h))
theorem own_formK {w : World} {base : Nat} {e : TypeId} {size : Nat} {v : Value} {n : Nat} {xs : List Value} (h : w.ownsRow base e size v n xs) : ∃ A c, v = .slice A n c := by
  rcases h.2 with ⟨rfl, rfl⟩ | ⟨g, cap, cur, rfl, _⟩
  · exact ⟨_, _, rfl⟩
  · exact ⟨_, _, rfl⟩
theorem own_baseK {w : World} {base base' : Nat} {e : TypeId} {size : Nat} {v : Value} {n : Nat} {xs : List Value} (h : w.ownsRow base e size v n xs) (hb : base' ≤ base) : w.ownsRow base' e size v n xs :=
  ⟨h.1, h.2.imp id fun ⟨g, cap, cur, hv, hg, r⟩ => ⟨g, cap, cur, hv, Nat.le_trans hb hg, r⟩⟩
theorem At.later {w1 w' : World} {b o : Nat} {x : Chg} (h : At w1 b o x) (hb : b < w1.heap.size) (hs : Since w1 w') : At w' b o x := h.below hs hb

end Go.Proofs.YtdlmpdhbehpmpaaDoor
