/-
  The order of changes: words; the reference's Less, and the statements' compare of lists.
-/
import Derived.Test.YtdlmpdhbehpmpaaDoorChg
import Derived.BigQuiet
namespace Go.Proofs.YtdlmpdhbehpmpaaDoor
open Go.RowKit
set_option linter.unusedVariables false

def lessC (x y : Chg) : Bool := decide (x.t < y.t ∨ (x.t = y.t ∧ (x.r < y.r ∨ (x.r = y.r ∧ x.s < y.s))))

theorem id_equal (r s r2 s2 : Int) (d : Nat) (W : World) : (Op.equalIn (d + 2) 23 (.agg #[.int .i64 r, .int .i64 s]) (.agg #[.int .i64 r2, .int .i64 s2])).run Tryd.prog W = .ok (decide (r = r2 ∧ s = s2)) W := by
  have u3 := Tryd.underlying3
  have a3 := Tryd.isAgg3
  have z3 := Tryd.sizeOf3
  have hS : Tryd.prog.underlying 23 = some (.struct (Tryd.prog.fieldsOf 23)) := by kernel_rfl
  have hp : Tryd.prog.stoodInHeld 23 = false := by kernel_rfl
  rw [run_equalIn_agg W (d + 1) 23 _ _ hS hp]
  simp only [Program.fieldsOf, Tryd.underlying23]
  go_simp
  by_cases h1 : r = r2 <;> by_cases h2 : s = s2 <;> simp [h1, h2]
end Go.Proofs.YtdlmpdhbehpmpaaDoor
