/-
  The program's contracts of layer 10: Later, Check. (Made by gen-effcheck.py.)
-/
import Derived.Test.YtdlmpdhbehpmpaaDoorEffW
import Derived.Test.YtdlmpdhbehpmpaaDoorOct
import Derived.Handy
namespace Go.Proofs.YtdlmpdhbehpmpaaDoor
open Go.RowKit
set_option linter.unusedVariables false

theorem ewithin_any (n lo hi : Int) (w : World) :
    Calls Tryd.prog 23 #[.int .i64 n, .int .i64 lo, .int .i64 hi] w fun e w' => e = .returned (.bool (decide (lo ≤ n ∧ n ≤ hi))) ∧ w = w' := by
  by_cases h : lo ≤ n ∧ n ≤ hi
  · have E := hide (show decide (lo ≤ n ∧ n ≤ hi) = true from decide_eq_true h)
    have H := hide h
    clear h
    go_enter Tryd.func23, Tryd.ntmps23
    go_wp2_with fail
    refine (in_yes n lo hi _ H.out.1 H.out.2).mono ?_
    rintro e w' ⟨rfl, rfl⟩
    go_wp2
    go_ret
    exact ⟨by rw [E.out]; rfl, rfl⟩
  · have E := hide (show decide (lo ≤ n ∧ n ≤ hi) = false from decide_eq_false h)
    have H := hide (show n < lo ∨ hi < n by omega)
    clear h
    go_enter Tryd.func23, Tryd.ntmps23
    go_wp2_with fail
    refine (in_no n lo hi _ H.out).mono ?_
    rintro e w' ⟨rfl, rfl⟩
    go_wp2
    go_ret
    exact ⟨by rw [E.out]; rfl, rfl⟩

theorem elater_any (x : Eff) (w : World) : Calls Tryd.prog 10 #[x.val] w fun e w' => e = .returned (.bool (laterE x)) ∧ Below w.heap.size w w' := by
  obtain ⟨k, a, n, p, q⟩ := x
  unfold Eff.val laterE
  simp only
  have HB := hide ((Below.refl w.heap.size w).alloc (Nat.le_refl _) (.cells #[.int .i64 k, .int .i64 a, .int .i64 n, .int .i64 p, .int .i64 q] 25))
  go_enter Tryd.func10, Tryd.ntmps10
  go_wp2_with fail
  refine (ewithin_any k 7 11 _).mono ?_
  rintro e w' ⟨rfl, rfl⟩
  obtain ⟨b, hb⟩ : ∃ b, b = decide (7 ≤ k ∧ k ≤ 11) := ⟨_, rfl⟩
  rw [← hb]
  have E := hide hb
  clear hb
  go_wp2
  go_ret
  exact ⟨by rw [← E.out]; rfl, HB.out⟩

theorem codeE_bools (k a n p q : Int) : codeE ⟨k, a, n, p, q⟩ = if decide (1 ≤ k ∧ k ≤ 11) = true then (if (decide (0 ≤ a ∧ a ≤ 255) && decide (0 ≤ p ∧ p ≤ 255) && decide (0 ≤ q ∧ q ≤ 65535)) = true then 0 else 4) else 12 := by
  unfold codeE
  simp only [← Bool.decide_and, decide_eq_true_eq]
  by_cases h : k < 1 ∨ 11 < k
  · rw [if_pos h, if_neg (by omega)]
  · rw [if_neg h, if_pos (show 1 ≤ k ∧ k ≤ 11 by omega)]
    by_cases h2 : 0 ≤ a ∧ a ≤ 255 ∧ 0 ≤ p ∧ p ≤ 255 ∧ 0 ≤ q ∧ q ≤ 65535
    · rw [if_pos h2, if_pos (by omega)]
    · rw [if_neg h2, if_neg (by omega)]

set_option maxHeartbeats 4000000 in
theorem echeck_all (x : Eff) (w : World) : Calls Tryd.prog 9 #[x.val] w fun e w' => e = .returned (.int .i64 (codeE x)) ∧ Below w.heap.size w w' := by
  obtain ⟨k, a, n, p, q⟩ := x
  unfold Eff.val
  simp only
  have HB := hide ((Below.refl w.heap.size w).alloc (Nat.le_refl _) (.cells #[.int .i64 k, .int .i64 a, .int .i64 n, .int .i64 p, .int .i64 q] 25))
  have HC := hide (codeE_bools k a n p q)
  cases hk : decide (1 ≤ k ∧ k ≤ 11) with
  | false =>
    have E := hide (show codeE ⟨k, a, n, p, q⟩ = 12 by rw [HC.out]; simp [hk])
    go_enter Tryd.func9, Tryd.ntmps9
    go_wp2_with fail
    refine (ewithin_any k 1 11 _).mono ?_
    rintro e w3 ⟨rfl, rfl⟩
    rw [hk]
    go_wp2
    go_ret
    exact ⟨by rw [E.out]; rfl, HB.out⟩
  | true =>
    cases ha : decide (0 ≤ a ∧ a ≤ 255) with
    | false =>
      have E := hide (show codeE ⟨k, a, n, p, q⟩ = 4 by rw [HC.out]; simp [hk, ha])
      go_enter Tryd.func9, Tryd.ntmps9
      go_wp2_with fail
      refine (ewithin_any k 1 11 _).mono ?_
      rintro e w3 ⟨rfl, rfl⟩
      rw [hk]
      go_wp2_with fail
      refine (ewithin_any a 0 255 _).mono ?_
      rintro e w3 ⟨rfl, rfl⟩
      rw [ha]
      go_wp2
      go_ret
      exact ⟨by rw [E.out]; rfl, HB.out⟩
    | true =>
      cases hp : decide (0 ≤ p ∧ p ≤ 255) with
      | false =>
        have E := hide (show codeE ⟨k, a, n, p, q⟩ = 4 by rw [HC.out]; simp [hk, ha, hp])
        go_enter Tryd.func9, Tryd.ntmps9
        go_wp2_with fail
        refine (ewithin_any k 1 11 _).mono ?_
        rintro e w3 ⟨rfl, rfl⟩
        rw [hk]
        go_wp2_with fail
        refine (ewithin_any a 0 255 _).mono ?_
        rintro e w3 ⟨rfl, rfl⟩
        rw [ha]
        go_wp2_with fail
        refine (ewithin_any p 0 255 _).mono ?_
        rintro e w3 ⟨rfl, rfl⟩
        rw [hp]
        go_wp2
        go_ret
        exact ⟨by rw [E.out]; rfl, HB.out⟩
      | true =>
        cases hq : decide (0 ≤ q ∧ q ≤ 65535) with
        | false =>
          have E := hide (show codeE ⟨k, a, n, p, q⟩ = 4 by rw [HC.out]; simp [hk, ha, hp, hq])
          go_enter Tryd.func9, Tryd.ntmps9
          go_wp2_with fail
          refine (ewithin_any k 1 11 _).mono ?_
          rintro e w3 ⟨rfl, rfl⟩
          rw [hk]
          go_wp2_with fail
          refine (ewithin_any a 0 255 _).mono ?_
          rintro e w3 ⟨rfl, rfl⟩
          rw [ha]
          go_wp2_with fail
          refine (ewithin_any p 0 255 _).mono ?_
          rintro e w3 ⟨rfl, rfl⟩
          rw [hp]
          go_wp2_with fail
          refine (ewithin_any q 0 65535 _).mono ?_
          rintro e w3 ⟨rfl, rfl⟩
          rw [hq]
          go_wp2
          go_ret
          exact ⟨by rw [E.out]; rfl, HB.out⟩
        | true =>
          have E := hide (show codeE ⟨k, a, n, p, q⟩ = 0 by rw [HC.out]; simp [hk, ha, hp, hq])
          go_enter Tryd.func9, Tryd.ntmps9
          go_wp2_with fail
          refine (ewithin_any k 1 11 _).mono ?_
          rintro e w3 ⟨rfl, rfl⟩
          rw [hk]
          go_wp2_with fail
          refine (ewithin_any a 0 255 _).mono ?_
          rintro e w3 ⟨rfl, rfl⟩
          rw [ha]
          go_wp2_with fail
          refine (ewithin_any p 0 255 _).mono ?_
          rintro e w3 ⟨rfl, rfl⟩
          rw [hp]
          go_wp2_with fail
          refine (ewithin_any q 0 65535 _).mono ?_
          rintro e w3 ⟨rfl, rfl⟩
          rw [hq]
          go_wp2
          go_ret
          exact ⟨by rw [E.out]; rfl, HB.out⟩
theorem echeck_any (x : Eff) (hx : x.ok) (w : World) : Calls Tryd.prog 9 #[x.val] w fun e w' => e = .returned (.int .i64 (codeE x)) ∧ Below w.heap.size w w' := echeck_all x w
end Go.Proofs.YtdlmpdhbehpmpaaDoor
