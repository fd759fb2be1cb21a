/-
  The reference's contracts of layer 10: which effects may be.
-/
import Derived.Test.YtdlmpdhbehpmpaaDoorEffM
import Derived.Test.YtdlmpdhbehpmpaaDoorChangeMay
import Derived.Handy
namespace Go.Proofs.YtdlmpdhbehpmpaaDoor
open Go.RowKit
set_option linter.unusedVariables false

set_option maxHeartbeats 4000000 in
theorem refmaye_any (x : Eff) (w : World) : Calls Tryd.prog 7 #[x.val] w fun e w' => e = .returned (.int .i64 (codeE x)) ∧ Below w.heap.size w w' := by
  obtain ⟨k, a, n, p, q⟩ := x
  unfold Eff.val
  obtain ⟨W, hW⟩ : ∃ W, W = w.alloc (.cells #[.int .i64 k, .int .i64 a, .int .i64 n, .int .i64 p, .int .i64 q] 25) := ⟨_, rfl⟩
  have HB := hide (show Below w.heap.size w W by rw [hW]; exact (Below.refl w.heap.size w).alloc (Nat.le_refl _) _)
  have hat : Eff.At W w.heap.size 0 ⟨k, a, n, p, q⟩ := by rw [hW]; exact eff_at_new w ⟨k, a, n, p, q⟩ 25
  have HW := hide hW
  have fin : ∀ z, codeE ⟨k, a, n, p, q⟩ = z → Ending.returned (.int .i64 z) = Ending.returned (.int .i64 (codeE ⟨k, a, n, p, q⟩)) := fun z h => by rw [h]
  have FIN := hide fin
  obtain ⟨x0, x1, x2, x3, x4⟩ := hat
  simp only [Nat.zero_add] at x0 x1 x2 x3 x4
  rw [hW] at x0 x1 x2 x3 x4
  have HX := hide (show (∀ W, W = w.alloc (.cells #[.int .i64 k, .int .i64 a, .int .i64 n, .int .i64 p, .int .i64 q] 25) → W.cell? ⟨w.heap.size, 3, none⟩ = some (.int .i64 p) ∧ W.cell? ⟨w.heap.size, 4, none⟩ = some (.int .i64 q)) from fun W h => by rw [h]; exact ⟨x3, x4⟩)
  clear fin hW
  rcases Int.lt_or_le k 1 with h1 | h1
  · have d1 : decide (k < 1) = true := decide_eq_true h1
    have E := hide (show codeE ⟨k, a, n, p, q⟩ = 12 by unfold codeE; rw [if_pos (by simp only; omega)])
    go_enter Tryd.func7, Tryd.ntmps7
    go_wp2
    go_ret
    exact ⟨FIN.out _ E.out, HW.out ▸ HB.out⟩
  have d1 : decide (k < 1) = false := decide_eq_false (by omega)
  rcases Int.lt_or_le 11 k with h2 | h2
  · have d2 : decide (11 < k) = true := decide_eq_true h2
    have E := hide (show codeE ⟨k, a, n, p, q⟩ = 12 by unfold codeE; rw [if_pos (by simp only; omega)])
    go_enter Tryd.func7, Tryd.ntmps7
    go_wp2
    go_ret
    exact ⟨FIN.out _ E.out, HW.out ▸ HB.out⟩
  have d2 : decide (11 < k) = false := decide_eq_false (by omega)
  cases ha : smallC a with
  | false =>
    have ha' : ¬ (0 ≤ a ∧ a ≤ 255) := of_decide_eq_false ha
    have E := hide (show codeE ⟨k, a, n, p, q⟩ = 4 by unfold codeE; rw [if_neg (by simp only; omega), if_neg (by simp only; omega)])
    go_enter Tryd.func7, Tryd.ntmps7
    go_wp2_with fail
    refine (refsmall_any a _).mono ?_
    rintro e w' ⟨rfl, rfl⟩
    rw [ha]
    go_wp2
    go_ret
    exact ⟨FIN.out _ E.out, HW.out ▸ HB.out⟩
  | true =>
    have ha' : 0 ≤ a ∧ a ≤ 255 := of_decide_eq_true ha
    cases hp : smallC p with
    | false =>
      have hp' : ¬ (0 ≤ p ∧ p ≤ 255) := of_decide_eq_false hp
      have E := hide (show codeE ⟨k, a, n, p, q⟩ = 4 by unfold codeE; rw [if_neg (by simp only; omega), if_neg (by simp only; omega)])
      go_enter Tryd.func7, Tryd.ntmps7
      go_wp2_with fail
      refine (refsmall_any a _).mono ?_
      rintro e w' ⟨rfl, rfl⟩
      rw [ha]
      go_wp2_with fail
      refine (refsmall_any p _).mono ?_
      rintro e w' ⟨rfl, rfl⟩
      rw [hp]
      go_wp2
      go_ret
      exact ⟨FIN.out _ E.out, HW.out ▸ HB.out⟩
    | true =>
      have hp' : 0 ≤ p ∧ p ≤ 255 := of_decide_eq_true hp
      rcases Int.lt_or_le q 0 with h3 | h3
      · have d3 : decide (q < 0) = true := decide_eq_true h3
        have E := hide (show codeE ⟨k, a, n, p, q⟩ = 4 by unfold codeE; rw [if_neg (by simp only; omega), if_neg (by simp only; omega)])
        go_enter Tryd.func7, Tryd.ntmps7
        go_wp2_with fail
        refine (refsmall_any a _).mono ?_
        rintro e w' ⟨rfl, rfl⟩
        rw [ha]
        go_wp2_with fail
        refine (refsmall_any p _).mono ?_
        rintro e w' ⟨rfl, rfl⟩
        rw [hp]
        go_wp2
        go_ret
        exact ⟨FIN.out _ E.out, HW.out ▸ HB.out⟩
      have d3 : decide (q < 0) = false := decide_eq_false (by omega)
      rcases Int.lt_or_le 65535 q with h4 | h4
      · have d4 : decide (65535 < q) = true := decide_eq_true h4
        have E := hide (show codeE ⟨k, a, n, p, q⟩ = 4 by unfold codeE; rw [if_neg (by simp only; omega), if_neg (by simp only; omega)])
        go_enter Tryd.func7, Tryd.ntmps7
        go_wp2_with fail
        refine (refsmall_any a _).mono ?_
        rintro e w' ⟨rfl, rfl⟩
        rw [ha]
        go_wp2_with fail
        refine (refsmall_any p _).mono ?_
        rintro e w' ⟨rfl, rfl⟩
        rw [hp]
        go_wp2
        go_ret
        exact ⟨FIN.out _ E.out, HW.out ▸ HB.out⟩
      · have d4 : decide (65535 < q) = false := decide_eq_false (by omega)
        have E := hide (show codeE ⟨k, a, n, p, q⟩ = 0 by unfold codeE; rw [if_neg (by simp only; omega), if_pos (by simp only; omega)])
        go_enter Tryd.func7, Tryd.ntmps7
        go_wp2_with fail
        refine (refsmall_any a _).mono ?_
        rintro e w' ⟨rfl, rfl⟩
        rw [ha]
        go_wp2_with fail
        refine (refsmall_any p _).mono ?_
        rintro e w' ⟨rfl, rfl⟩
        rw [hp]
        go_wp2
        go_ret
        exact ⟨FIN.out _ E.out, HW.out ▸ HB.out⟩
end Go.Proofs.YtdlmpdhbehpmpaaDoor
