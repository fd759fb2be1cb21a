/-
  The walks of stage 5's statements.
-/
import Derived.Test.YtafihjpmecdgbaaDelayP
namespace Go.Proofs.Ytafihjpmecdgbaa
open Go.RowKit
set_option linter.unusedVariables false

theorem delay_facts : dwait 3 10 1 = 3 ∧ dwait 3 10 2 = 6 ∧ dwait 3 10 3 = 10 ∧ ddue 3 10 2 5 = 11 ∧ dsum 3 10 (tries 3) = 19 := by decide +kernel

theorem alive05 (w : World) :
    Calls Try.prog 6 #[] w fun e w' => e = .returned (.bool true) ∧ w = w' := by
  obtain ⟨h1, h2, h3, h4, h5⟩ := delay_facts
  have h6 : decide ((0 : Int) < 1 ∨ ddue 3 10 0 99 ≤ 0) = true := decide_eq_true (.inl (by omega))
  go_enter Try.func6, Try.ntmps6
  go_wp2_with fail
  refine (wait_any 3 10 1 _ (by omega) (by omega)).mono ?_
  rintro e w' ⟨rfl, rfl⟩
  rw [h1]
  go_wp2_with fail
  refine (wait_any 3 10 2 _ (by omega) (by omega)).mono ?_
  rintro e w' ⟨rfl, rfl⟩
  rw [h2]
  go_wp2_with fail
  refine (wait_any 3 10 3 _ (by omega) (by omega)).mono ?_
  rintro e w' ⟨rfl, rfl⟩
  rw [h3]
  go_wp2_with fail
  refine (due_any 3 10 2 5 _ (by omega) (by omega)).mono ?_
  rintro e w' ⟨rfl, rfl⟩
  rw [h4]
  go_wp2_with fail
  refine (ready_any 3 10 0 99 0 _ (by omega) (by omega)).mono ?_
  rintro e w' ⟨rfl, rfl⟩
  rw [h6]
  go_wp2_with fail
  refine (total_any 3 10 3 _ (by omega) (by omega)).mono ?_
  rintro e w' ⟨rfl, rfl⟩
  rw [h5]
  go_wp2
  go_ret
  exact ⟨rfl, rfl⟩

theorem rises_walk (base most n : Int) (w : World) :
    Calls Try.prog 4 #[.int .i64 base, .int .i64 most, .int .i64 n] w fun e w' => e = .returned (.bool true) ∧ Below w.heap.size w w' := by
  obtain ⟨hn1, hn2⟩ := near_in (n := n) (show (1 : Int) ≤ 70 by omega)
  obtain ⟨hm1, hm2⟩ := near_in (n := most) (show (1 : Int) ≤ 64 by omega)
  go_enter Try.func4, Try.ntmps4
  go_wp2_with fail
  refine (alive05 _).mono ?_
  rintro e w' ⟨rfl, rfl⟩
  go_wp2_with fail
  refine (near_any n 1 70 _).mono ?_
  rintro e w' ⟨rfl, rfl⟩
  go_wp2_with fail
  refine (near_any most 1 64 _).mono ?_
  rintro e w' ⟨rfl, rfl⟩
  generalize near n 1 70 = q at *
  obtain ⟨r1, r2, r3, r4⟩ := dwait_rises base most q hn1 hn2
  have ha := dwait_in base most q
  have hb := dwait_in base most (q + 1)
  have h0 : dwait base most 0 = 0 := by unfold dwait; rw [if_pos (by omega)]
  go_wp2_with fail
  refine (wait_any base most q _ (by omega) (by omega)).mono ?_
  rintro e w' ⟨rfl, rfl⟩
  go_wp2_with fail
  refine (wait_any base most (q + 1) _ (by omega) (by omega)).mono ?_
  rintro e w' ⟨rfl, rfl⟩
  generalize near most 1 64 = m at *
  generalize dwait base most q = a at *
  generalize dwait base most (q + 1) = b at *
  by_cases hba : b = 2 * a
  · subst hba
    have r3' : a ≤ 2 * a := by omega
    have e1 : (2 * a == a * 2) = true := by simp; omega
    have e2 : (2 * a == 2 * a) = true := by simp
    go_wp2_with fail
    refine (wait_any base most 0 _ (by omega) (by omega)).mono ?_
    rintro e w' ⟨rfl, rfl⟩
    rw [h0]
    go_wp2
    go_ret
    exact ⟨rfl, Below.refl _ _⟩
  · have hbm : b = m := by omega
    subst hbm
    have e2 : (b == 2 * a) = false := by simp; exact hba
    have e3 : (b == b) = true := by simp
    go_wp2_with fail
    refine (wait_any base most 0 _ (by omega) (by omega)).mono ?_
    rintro e w' ⟨rfl, rfl⟩
    rw [h0]
    go_wp2
    go_ret
    exact ⟨rfl, Below.refl _ _⟩

theorem late_walk (base most n last now later : Int) (w : World) (hn0 : -9223372036854775808 ≤ n) (hn1 : n ≤ 9223372036854775807) :
    Calls Try.prog 5 #[.int .i64 base, .int .i64 most, .int .i64 n, .int .i64 last, .int .i64 now, .int .i64 later] w fun e w' => e = .returned (.bool true) ∧ Below w.heap.size w w' := by
  go_enter Try.func5, Try.ntmps5
  go_wp2_with fail
  refine (alive05 _).mono ?_
  rintro e w' ⟨rfl, rfl⟩
  rcases Int.lt_or_le later now with h | h
  · go_wp2
    go_ret
    exact ⟨rfl, Below.refl _ _⟩
  · by_cases hr : n < 1 ∨ ddue base most n last ≤ now
    · have e1 : decide (n < 1 ∨ ddue base most n last ≤ now) = true := decide_eq_true hr
      have e2 : decide (n < 1 ∨ ddue base most n last ≤ later) = true := decide_eq_true (by omega)
      have hd : decide (later < now) = false := decide_eq_false (by omega)
      go_wp2_with fail
      refine (ready_any base most n last now _ hn0 hn1).mono ?_
      rintro e w' ⟨rfl, rfl⟩
      rw [e1]
      go_wp2_with fail
      refine (ready_any base most n last later _ hn0 hn1).mono ?_
      rintro e w' ⟨rfl, rfl⟩
      rw [e2]
      go_wp2
      go_ret
      exact ⟨rfl, Below.refl _ _⟩
    · have e1 : decide (n < 1 ∨ ddue base most n last ≤ now) = false := decide_eq_false hr
      have hd : decide (later < now) = false := decide_eq_false (by omega)
      go_wp2_with fail
      refine (ready_any base most n last now _ hn0 hn1).mono ?_
      rintro e w' ⟨rfl, rfl⟩
      rw [e1]
      go_wp2
      go_ret
      exact ⟨rfl, Below.refl _ _⟩

theorem waits_walk (base most n last now : Int) (w : World) (hn0 : -9223372036854775808 ≤ n) (hn1 : n ≤ 9223372036854775807) :
    Calls Try.prog 3 #[.int .i64 base, .int .i64 most, .int .i64 n, .int .i64 last, .int .i64 now] w fun e w' => e = .returned (.bool true) ∧ Below w.heap.size w w' := by
  have ht : ((tries n : Nat) : Int) = max (min n 64) 0 := by unfold tries; omega
  go_enter Try.func3, Try.ntmps3
  go_wp2_with fail
  refine (alive05 _).mono ?_
  rintro e w' ⟨rfl, rfl⟩
  go_wp2
  go_loop [11, 12] (fun v i => ∃ j : Nat, j ≤ tries n ∧ v = .int .i64 (dsum base most j) ∧ i = .int .i64 ((j : Int) + 1)) (fun _ i => tries n + 1 - (intOf i).toNat)
  case atStart => exact ⟨0, Nat.zero_le _, rfl, rfl⟩
  case round =>
    obtain ⟨j, hj, rfl, rfl⟩ := hrel
    have hs := dsum_in base most j
    have hw := dwait_in base most ((j : Int) + 1)
    by_cases hlt : j < tries n
    · have h1 : (j : Int) + 1 ≤ n := by omega
      have h2 : (j : Int) + 1 ≤ 64 := by omega
      go_wp2_with fail
      refine (refwait_any base most ((j : Int) + 1) _ (by omega) (by omega)).mono ?_
      rintro e w' ⟨rfl, rfl⟩
      go_wp2
      go_round
      case rel => exact ⟨j + 1, by omega, rfl, by go_num⟩
      case measure => simp [intOf]; omega
    · obtain rfl : j = tries n := by omega
      have hd := ddue_in base most n last
      have hww := dwait_in base most n
      by_cases h1 : n < 1
      · have e1 : decide (n < 1 ∨ ddue base most n last ≤ now) = true := decide_eq_true (.inl h1)
        have hj1 : decide (((tries n : Nat) : Int) + 1 ≤ n) = false := decide_eq_false (by omega)
        go_wp2_with fail
        refine (refdue_any base most n last _ hn0 hn1).mono ?_
        rintro e w' ⟨rfl, rfl⟩
        go_wp2_with fail
        refine (wait_any base most n _ hn0 hn1).mono ?_
        rintro e w' ⟨rfl, rfl⟩
        go_wp2_with fail
        refine (refwait_any base most n _ hn0 hn1).mono ?_
        rintro e w' ⟨rfl, rfl⟩
        go_wp2_with fail
        refine (due_any base most n last _ hn0 hn1).mono ?_
        rintro e w' ⟨rfl, rfl⟩
        go_wp2_with fail
        refine (ready_any base most n last now _ hn0 hn1).mono ?_
        rintro e w' ⟨rfl, rfl⟩
        rw [e1]
        go_wp2_with fail
        refine (total_any base most n _ hn0 hn1).mono ?_
        rintro e w' ⟨rfl, rfl⟩
        go_wp2
        go_ret
        exact ⟨rfl, Below.refl _ _⟩
      · have hr : decide (n < 1 ∨ ddue base most n last ≤ now) = decide (ddue base most n last ≤ now) := by
          by_cases h : ddue base most n last ≤ now
          · rw [decide_eq_true (.inr h : n < 1 ∨ _), decide_eq_true h]
          · rw [decide_eq_false (by omega : ¬ (n < 1 ∨ _)), decide_eq_false h]
        have HRD := hide hr
        have h1' : decide (n < 1) = false := decide_eq_false h1
        clear hr
        rcases Int.lt_or_le n 65 with h65 | h65
        · have hd1 : decide (((tries n : Nat) : Int) + 1 ≤ n) = false := decide_eq_false (by omega)
          go_wp2_with fail
          refine (refdue_any base most n last _ hn0 hn1).mono ?_
          rintro e w' ⟨rfl, rfl⟩
          go_wp2_with fail
          refine (wait_any base most n _ hn0 hn1).mono ?_
          rintro e w' ⟨rfl, rfl⟩
          go_wp2_with fail
          refine (refwait_any base most n _ hn0 hn1).mono ?_
          rintro e w' ⟨rfl, rfl⟩
          go_wp2_with fail
          refine (due_any base most n last _ hn0 hn1).mono ?_
          rintro e w' ⟨rfl, rfl⟩
          go_wp2_with fail
          refine (ready_any base most n last now _ hn0 hn1).mono ?_
          rintro e w' ⟨rfl, rfl⟩
          rw [HRD.out]
          go_wp2_with fail
          refine (total_any base most n _ hn0 hn1).mono ?_
          rintro e w' ⟨rfl, rfl⟩
          go_wp2
          go_ret
          exact ⟨rfl, Below.refl _ _⟩
        · have hd1 : ((tries n : Nat) : Int) + 1 ≤ n := by omega
          have hd2 : decide (((tries n : Nat) : Int) + 1 ≤ 64) = false := decide_eq_false (by omega)
          go_wp2_with fail
          refine (refdue_any base most n last _ hn0 hn1).mono ?_
          rintro e w' ⟨rfl, rfl⟩
          go_wp2_with fail
          refine (wait_any base most n _ hn0 hn1).mono ?_
          rintro e w' ⟨rfl, rfl⟩
          go_wp2_with fail
          refine (refwait_any base most n _ hn0 hn1).mono ?_
          rintro e w' ⟨rfl, rfl⟩
          go_wp2_with fail
          refine (due_any base most n last _ hn0 hn1).mono ?_
          rintro e w' ⟨rfl, rfl⟩
          go_wp2_with fail
          refine (ready_any base most n last now _ hn0 hn1).mono ?_
          rintro e w' ⟨rfl, rfl⟩
          rw [HRD.out]
          go_wp2_with fail
          refine (total_any base most n _ hn0 hn1).mono ?_
          rintro e w' ⟨rfl, rfl⟩
          go_wp2
          go_ret
          exact ⟨rfl, Below.refl _ _⟩
end Go.Proofs.Ytafihjpmecdgbaa
