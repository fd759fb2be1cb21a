/-
  The reference's contracts of layer 9: which changes may be.
-/
import Derived.Test.YtdlmpdhbehpmpaaDoorChangeM
import Derived.Handy
namespace Go.Proofs.YtdlmpdhbehpmpaaDoor
open Go.RowKit
set_option linter.unusedVariables false

def smallC (n : Int) : Bool := decide (0 ≤ n ∧ n ≤ 255)
theorem refsmall_any (n : Int) (w : World) : Calls Tryd.prog 21 #[.int .i64 n] w fun e w' => e = .returned (.bool (smallC n)) ∧ w = w' := by
  rcases Int.lt_or_le n 0 with h1 | h1
  · have E := hide (show smallC n = false from decide_eq_false (by omega))
    have hd : decide (0 ≤ n) = false := decide_eq_false (by omega)
    go_enter Tryd.func21, Tryd.ntmps21
    go_wp2
    go_ret
    exact ⟨by rw [E.out]; rfl, rfl⟩
  · have E := hide (show smallC n = decide (n ≤ 255) by unfold smallC; simp [h1])
    go_enter Tryd.func21, Tryd.ntmps21
    go_wp2
    go_ret
    exact ⟨by rw [E.out]; rfl, rfl⟩

theorem mayC_split (r s t k a b n p q : Int) : mayC ⟨r, s, t, k, a, b, n, p, q⟩ = (mayId r s && decide (1 ≤ t) && decide (t ≤ 1073741824) && smallC k && smallC a && smallC b && smallC p && decide (0 ≤ q) && decide (q ≤ 65535)) := by
  unfold mayC smallC
  simp only [Bool.decide_and, Bool.and_assoc]

end Go.Proofs.YtdlmpdhbehpmpaaDoor
