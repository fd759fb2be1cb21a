/-
  The contract of ident.May.
-/
import Derived.Test.YtfmddljljdoapaaIdentRef
import Derived.Test.YtfmddljljdoapaaOct
import Derived.Test.YtfmddljljdoapaaFlat
namespace Go.Proofs.Ytfmddljljdoapaa
open Go.RowKit
set_option linter.unusedVariables false

theorem within_any (n lo hi : Int) (w : World) :
    Calls Try.prog 28 #[.int .i64 n, .int .i64 lo, .int .i64 hi] w fun e w' => e = .returned (.bool (decide (lo ≤ n ∧ n ≤ hi))) ∧ w = w' := by
  by_cases h : lo ≤ n ∧ n ≤ hi
  · have E := hide (show decide (lo ≤ n ∧ n ≤ hi) = true from decide_eq_true h)
    have H := hide h
    clear h
    go_enter Try.func28, Try.ntmps28
    go_wp2_with fail
    refine (in_yes n lo hi _ H.out.1 H.out.2).mono ?_
    rintro e w' ⟨rfl, rfl⟩
    go_wp2
    go_ret
    exact ⟨by rw [E.out]; rfl, rfl⟩
  · have E := hide (show decide (lo ≤ n ∧ n ≤ hi) = false from decide_eq_false h)
    have H := hide (show n < lo ∨ hi < n by omega)
    clear h
    go_enter Try.func28, Try.ntmps28
    go_wp2_with fail
    refine (in_no n lo hi _ H.out).mono ?_
    rintro e w' ⟨rfl, rfl⟩
    go_wp2
    go_ret
    exact ⟨by rw [E.out]; rfl, rfl⟩

theorem mayId_two (r s : Int) : mayId r s = (decide (0 ≤ r ∧ r ≤ 3) && decide (1 ≤ s ∧ s ≤ 65535)) := by
  unfold mayId
  rw [← Bool.decide_and]
  exact decide_eq_decide.2 ⟨fun h => by omega, fun h => by omega⟩

theorem pmay_any (r s : Int) (w : World) : Calls Try.prog 21 #[idOf r s] w fun e w' => e = .returned (.bool (mayId r s)) ∧ Below w.heap.size w w' := by
  have HB := hide ((Below.refl w.heap.size w).alloc (Nat.le_refl _) (.cells #[.int .i64 r, .int .i64 s] 23))
  have HE := hide (mayId_two r s)
  unfold idOf
  cases h1 : decide (0 ≤ r ∧ r ≤ 3) with
  | false =>
    have E := hide (show mayId r s = false by rw [HE.out, h1]; rfl)
    go_enter Try.func21, Try.ntmps21
    go_wp2_with fail
    refine (within_any r 0 3 _).mono ?_
    rintro e w' ⟨rfl, rfl⟩
    rw [h1]
    go_wp2
    go_ret
    exact ⟨by rw [E.out]; rfl, HB.out⟩
  | true =>
    have E := hide (show mayId r s = decide (1 ≤ s ∧ s ≤ 65535) by rw [HE.out, h1]; rfl)
    go_enter Try.func21, Try.ntmps21
    go_wp2_with fail
    refine (within_any r 0 3 _).mono ?_
    rintro e w' ⟨rfl, rfl⟩
    rw [h1]
    go_wp2_with fail
    refine (within_any s 1 65535 _).mono ?_
    rintro e w' ⟨rfl, rfl⟩
    generalize decide (1 ≤ s ∧ s ≤ 65535) = b at *
    go_wp2
    go_ret
    exact ⟨by rw [E.out]; rfl, HB.out⟩

end Go.Proofs.Ytfmddljljdoapaa
