/-
  What the calls of package ident come to.
-/
import Derived.Test.YtdlmpdhbehpmpaaDoorIdentRef
import Derived.Test.YtdlmpdhbehpmpaaDoorGood
import Derived.Test.YtdlmpdhbehpmpaaDoorDecimal
import Derived.Test.YtdlmpdhbehpmpaaDoorNumeral
namespace Go.Proofs.YtdlmpdhbehpmpaaDoor
open Go.RowKit
set_option linter.unusedVariables false

/-- What Parse answers. -/
def Parsed (l : List UInt8) (w w' : World) (e : Ending) : Prop :=
  (∀ r s, idText mayId l = some (r, s) → e = .returned (.tuple #[idOf r s, .bool true])) ∧ (idText mayId l = none → e = .returned (.tuple #[idOf 0 0, .bool false])) ∧ Below w.heap.size w w'
theorem Parsed.some {l : List UInt8} {w w' : World} {e : Ending} {r s : Int} (h : Parsed l w w' e) (hi : idText mayId l = some (r, s)) : e = .returned (.tuple #[idOf r s, .bool true]) ∧ Below w.heap.size w w' := ⟨h.1 r s hi, h.2.2⟩
theorem Parsed.none {l : List UInt8} {w w' : World} {e : Ending} (h : Parsed l w w' e) (hi : idText mayId l = none) : e = .returned (.tuple #[idOf 0 0, .bool false]) ∧ Below w.heap.size w w' := ⟨h.2.1 hi, h.2.2⟩
/-- The Id of a text, zero if there is none; is there one? -/
noncomputable def idVal (l : List UInt8) : Int × Int := (idText mayId l).getD (0, 0)
noncomputable def idOk (l : List UInt8) : Bool := (idText mayId l).isSome
theorem Parsed.val {l : List UInt8} {w w' : World} {e : Ending} (h : Parsed l w w' e) : e = .returned (.tuple #[idOf (idVal l).1 (idVal l).2, .bool (idOk l)]) ∧ Below w.heap.size w w' := by
  unfold idVal idOk
  cases hi : idText mayId l with
  | none => exact h.none hi
  | some p => exact h.some (r := p.1) (s := p.2) hi
theorem idVal_may {r s : Int} (h : mayId r s = true) : idVal (textId r s) = (r, s) ∧ idOk (textId r s) = true := by
  unfold idVal idOk
  rw [idText_some h rfl]
  exact ⟨rfl, rfl⟩
theorem idVal_not {r s : Int} (h : mayId r s = false) : idVal (textId r s) = (0, 0) ∧ idOk (textId r s) = false := by
  unfold idVal idOk
  rw [idText_none (fun r2 s2 h2 he => by
    obtain ⟨rfl, rfl⟩ := textId_inj he
    rw [h] at h2
    cases h2)]
  exact ⟨rfl, rfl⟩
theorem may_bounds {r s : Int} (h : mayId r s = true) : 0 ≤ r ∧ r ≤ 3 ∧ 1 ≤ s ∧ s ≤ 65535 := of_decide_eq_true h
end Go.Proofs.YtdlmpdhbehpmpaaDoor
