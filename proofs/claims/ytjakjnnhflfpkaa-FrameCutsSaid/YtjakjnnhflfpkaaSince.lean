/-
  Worlds that come behind a world; a fresh row, as a text.
-/
import Derived.Test.YtjakjnnhflfpkaaOctC
namespace Go.Proofs.Ytjakjnnhflfpkaa
open Go.RowKit
set_option linter.unusedVariables false

/-- What was there in w is there in w' as it was. -/
def Since (w w' : World) : Prop := Below w.heap.size w w'
theorem Since.refl (w : World) : Since w w := Below.refl _ w
theorem Since.drew {w w' : World} (h : Since w w') : Since w w'.drew := Below.drew h
theorem Since.next {w w' w2 : World} (h : Since w w') (hb : Below w'.heap.size w' w2) : Since w w2 := Below.trans h (hb.mono (Below.size h))
theorem Since.row {w w' : World} {P : Nat → Prop} {A : Option Addr} {n c : Nat} {xs : List Value} (h : Since w w') (hr : Row w P A n c xs) : Row w' P A n c xs := hr.below h (fun _ _ h => h)

/-- A fresh row of k octets, whose text is U, was made behind w3. -/
def Text (w3 : World) (k : Nat) (U : ByteArray) (w w' : World) (e : Ending) : Prop :=
  ∃ A c, e = .returned (.slice A k c) ∧ (∀ w'', Since w' w'' → (convert 22 9 (.slice A k c)).run Try.prog w'' = .ok (.string U) w'') ∧ Since w w' ∧ Since w' w' ∧ Since w3 w'
theorem fresh_text {w3 w w' : World} {m : List Int} {e : Ending} {k : Nat} {U : ByteArray} (h3 : Since w3 w) (h : Fresh w m w' e) (hk : m.length = k) (hU : strOfNums m = U) : Text w3 k U w w' e := by
  obtain ⟨A, c, rfl, hown, hb⟩ := h
  subst hk hU
  exact ⟨A, c, rfl, fun w'' hs => conv_row (hs.row (Row.of_own hown)), hb, Since.refl _, h3.next hb⟩
end Go.Proofs.Ytjakjnnhflfpkaa
