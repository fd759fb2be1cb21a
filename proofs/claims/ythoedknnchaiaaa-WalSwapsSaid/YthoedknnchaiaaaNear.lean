/-
  The contract of Near.
-/
import Derived.Test.YthoedknnchaiaaaMem
namespace Go.Proofs.Ythoedknnchaiaaa
open Go.RowKit
set_option linter.unusedVariables false

/-- The nearest from lo to hi. -/
def near (n lo hi : Int) : Int := if n < lo then lo else if hi < n then hi else n
theorem near_in {n lo hi : Int} (h : lo ≤ hi) : lo ≤ near n lo hi ∧ near n lo hi ≤ hi := by
  unfold near
  split
  · omega
  · split <;> omega
theorem near_any (n lo hi : Int) (w : World) :
    Calls Try.prog 11 #[.int .i64 n, .int .i64 lo, .int .i64 hi] w fun e w' => e = .returned (.int .i64 (near n lo hi)) ∧ w = w' := by
  by_cases h1 : n < lo
  · have e : near n lo hi = lo := by unfold near; rw [if_pos h1]
    go_enter Try.func11, Try.ntmps11
    go_wp2
    go_ret
    exact ⟨by first | rfl | (rw [e]; rfl), rfl⟩
  · by_cases h2 : hi < n
    · have e : near n lo hi = hi := by unfold near; rw [if_neg h1, if_pos h2]
      go_enter Try.func11, Try.ntmps11
      go_wp2
      go_ret
      exact ⟨by first | rfl | (rw [e]; rfl), rfl⟩
    · have e : near n lo hi = n := by unfold near; rw [if_neg h1, if_neg h2]
      go_enter Try.func11, Try.ntmps11
      go_wp2
      go_ret
      exact ⟨by first | rfl | (rw [e]; rfl), rfl⟩
end Go.Proofs.Ythoedknnchaiaaa
