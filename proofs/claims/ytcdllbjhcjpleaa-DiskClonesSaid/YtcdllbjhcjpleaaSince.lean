/-
  A fresh row, as a text.
-/
import Derived.Test.YtcdllbjhcjpleaaOctC
import Derived.Test.YtcdllbjhcjpleaaLater
namespace Go.Proofs.Ytcdllbjhcjpleaa
open Go.RowKit
set_option linter.unusedVariables false

/-- A fresh row of k octets, whose text is U, was made behind w3. -/
def Text (w3 : World) (k : Nat) (U : ByteArray) (w w' : World) (e : Ending) : Prop :=
  ∃ A c, e = .returned (.slice A k c) ∧ (∀ w'', Since w' w'' → (convert 33 9 (.slice A k c)).run Try.prog w'' = .ok (.string U) w'') ∧ Since w w' ∧ Since w' w' ∧ Since w3 w'
theorem fresh_text {w3 w w' : World} {m : List Int} {e : Ending} {k : Nat} {U : ByteArray} (h3 : Since w3 w) (h : Fresh w m w' e) (hk : m.length = k) (hU : strOfNums m = U) : Text w3 k U w w' e := by
  obtain ⟨A, c, rfl, hown, hb⟩ := h
  subst hk hU
  exact ⟨A, c, rfl, fun w'' hs => conv_row (hs.row (Row.of_own hown)), hb, Since.refl _, h3.next hb⟩
end Go.Proofs.Ytcdllbjhcjpleaa
