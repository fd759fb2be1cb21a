/-
  The contracts of the program's waits.
-/
import Derived.Test.YtafihjpmecdgbaaDelayRef
namespace Go.Proofs.Ytafihjpmecdgbaa
open Go.RowKit
set_option linter.unusedVariables false

theorem clamp_any (n lo hi : Int) (w : World) :
    Calls Try.prog 16 #[.int .i64 n, .int .i64 lo, .int .i64 hi] w fun e w' => e = .returned (.int .i64 (near n lo hi)) ∧ w = w' := by
  by_cases h1 : n < lo
  · have e : near n lo hi = lo := by unfold near; rw [if_pos h1]
    go_enter Try.func16, Try.ntmps16
    go_wp2
    go_ret
    exact ⟨by first | rfl | (rw [e]; rfl), rfl⟩
  · by_cases h2 : hi < n
    · have e : near n lo hi = hi := by unfold near; rw [if_neg h1, if_pos h2]
      go_enter Try.func16, Try.ntmps16
      go_wp2
      go_ret
      exact ⟨by first | rfl | (rw [e]; rfl), rfl⟩
    · have e : near n lo hi = n := by unfold near; rw [if_neg h1, if_neg h2]
      go_enter Try.func16, Try.ntmps16
      go_wp2
      go_ret
      exact ⟨by first | rfl | (rw [e]; rfl), rfl⟩

theorem near_tries (n : Int) : near n 0 64 = ((tries n : Nat) : Int) := by
  unfold near tries
  split
  · omega
  · split <;> omega

theorem tries_any (n : Int) (w : World) :
    Calls Try.prog 14 #[.int .i64 n] w fun e w' => e = .returned (.int .i64 ((tries n : Nat) : Int)) ∧ w = w' := by
  go_enter Try.func14, Try.ntmps14
  go_wp2_with fail
  refine (clamp_any n 0 64 _).mono ?_
  rintro e w' ⟨rfl, rfl⟩
  rw [near_tries]
  go_wp2
  go_ret
  exact ⟨rfl, rfl⟩

theorem span_any (n : Int) (w : World) :
    Calls Try.prog 15 #[.int .i64 n] w fun e w' => e = .returned (.int .i64 (near n 1 64)) ∧ w = w' := by
  go_enter Try.func15, Try.ntmps15
  go_wp2_with fail
  refine (clamp_any n 1 64 _).mono ?_
  rintro e w' ⟨rfl, rfl⟩
  go_wp2
  go_ret
  exact ⟨rfl, rfl⟩

/-- The wait behind k doublings. -/
def cap2 (k : Nat) (b m : Int) : Int := min (b * 2 ^ k) m
theorem cap2_zero (b m : Int) : cap2 0 b m = min b m := by simp [cap2]
theorem cap2_in (k : Nat) (b m : Int) (hb : 1 ≤ b) (hm : 1 ≤ m) : 1 ≤ cap2 k b m ∧ cap2 k b m ≤ m := by
  unfold cap2
  have hp : (1 : Int) ≤ 2 ^ k := by
    have := Int.pow_pos (n := 2) (m := k) (by omega)
    omega
  have hx : b * 1 ≤ b * 2 ^ k := Int.mul_le_mul_of_nonneg_left hp (by omega)
  generalize b * 2 ^ k = x at *
  omega
theorem cap2_step (k : Nat) (b m : Int) (hb : 1 ≤ b) (hm : 1 ≤ m) : cap2 (k + 1) b m = min (2 * cap2 k b m) m := by
  unfold cap2
  have hp : (1 : Int) ≤ 2 ^ k := by
    have := Int.pow_pos (n := 2) (m := k) (by omega)
    omega
  have hx : b * 1 ≤ b * 2 ^ k := Int.mul_le_mul_of_nonneg_left hp (by omega)
  rw [Int.pow_succ, ← Int.mul_assoc]
  generalize b * 2 ^ k = x at *
  omega

set_option maxHeartbeats 1000000 in
theorem wait_any (base most n : Int) (w : World) (hn0 : -9223372036854775808 ≤ n) (hn1 : n ≤ 9223372036854775807) :
    Calls Try.prog 9 #[.int .i64 base, .int .i64 most, .int .i64 n] w fun e w' => e = .returned (.int .i64 (dwait base most n)) ∧ w = w' := by
  obtain ⟨hb1, hb2⟩ := near_in (n := base) (show (1 : Int) ≤ 64 by omega)
  obtain ⟨hm1, hm2⟩ := near_in (n := most) (show (1 : Int) ≤ 64 by omega)
  by_cases h1 : n < 1
  · have e : dwait base most n = 0 := by unfold dwait; rw [if_pos h1]
    have E := hide e
    clear e
    have t0 : ((tries n : Nat) : Int) = 0 := by unfold tries; omega
    go_enter Try.func9, Try.ntmps9
    go_wp2_with fail
    refine (tries_any n _).mono ?_
    rintro e w' ⟨rfl, rfl⟩
    rw [t0]
    go_wp2
    go_ret
    exact ⟨by rw [E.out]; rfl, rfl⟩
  · have e : dwait base most n = cap2 (tries n - 1) (near base 1 64) (near most 1 64) := by unfold dwait cap2; rw [if_neg h1, dbl_min _ _ _ hb1]
    have ht : 1 ≤ tries n ∧ tries n ≤ 64 := by unfold tries; omega
    obtain ⟨ht1, ht2⟩ := ht
    have E := hide e
    clear e
    go_enter Try.func9, Try.ntmps9
    go_wp2_with fail
    refine (tries_any n _).mono ?_
    rintro e w' ⟨rfl, rfl⟩
    generalize tries n = K at *
    have hk0 : (((K : Nat) : Int) == 0) = false := by simp; omega
    go_wp2_with fail
    refine (span_any most _).mono ?_
    rintro e w' ⟨rfl, rfl⟩
    go_wp2_with fail
    refine (span_any base _).mono ?_
    rintro e w' ⟨rfl, rfl⟩
    generalize near base 1 64 = b at *
    generalize near most 1 64 = m at *
    have h0 : cap2 0 b m = if m < b then m else b := by rw [cap2_zero, ← min_as]
    by_cases hmb : m < b
    all_goals
      go_wp2
      go_loop [7, 20] (fun v i => ∃ (j : Nat), j + 1 ≤ K ∧ v = .int .i64 (cap2 j b m) ∧ i = .int .i64 j) (fun _ i => K - (intOf i).toNat)
      case atStart => exact ⟨0, by omega, by rw [h0]; split <;> first | rfl | (exfalso; omega), rfl⟩
      case round =>
        obtain ⟨j, hj1, rfl, rfl⟩ := hrel
        obtain ⟨c1, c2⟩ := cap2_in j b m hb1 hm1
        by_cases hjn : (j : Int) < (K : Int) - 1
        · have hs := hide (cap2_step j b m hb1 hm1)
          generalize cap2 j b m = x at *
          by_cases hxm : m < 2 * x
          · go_wp2
            go_round
            case rel => exact ⟨j + 1, by omega, by rw [hs.out]; first | rfl | (congr 1; omega), by go_num⟩
            case measure => simp [intOf]; omega
          · go_wp2
            go_round
            case rel => exact ⟨j + 1, by omega, by rw [hs.out]; first | rfl | (congr 1; omega), by go_num⟩
            case measure => simp [intOf]; omega
        · have hjj : K - 1 = j := by omega
          rw [hjj] at E
          have hjn' : decide ((j : Int) < (K : Int) - 1) = false := decide_eq_false hjn
          go_wp2
          go_ret
          exact ⟨by rw [E.out]; rfl, rfl⟩

theorem due_any (base most n last : Int) (w : World) (hn0 : -9223372036854775808 ≤ n) (hn1 : n ≤ 9223372036854775807) :
    Calls Try.prog 10 #[.int .i64 base, .int .i64 most, .int .i64 n, .int .i64 last] w fun e w' => e = .returned (.int .i64 (ddue base most n last)) ∧ w = w' := by
  obtain ⟨h1, h2⟩ := near_in (n := last) (show (0 : Int) ≤ 1073741824 by omega)
  have h3 := dwait_in base most n
  go_enter Try.func10, Try.ntmps10
  go_wp2_with fail
  refine (clamp_any last 0 1073741824 _).mono ?_
  rintro e w' ⟨rfl, rfl⟩
  go_wp2_with fail
  refine (wait_any base most n _ hn0 hn1).mono ?_
  rintro e w' ⟨rfl, rfl⟩
  go_wp2
  go_ret
  exact ⟨rfl, rfl⟩

theorem ready_any (base most n last now : Int) (w : World) (hn0 : -9223372036854775808 ≤ n) (hn1 : n ≤ 9223372036854775807) :
    Calls Try.prog 11 #[.int .i64 base, .int .i64 most, .int .i64 n, .int .i64 last, .int .i64 now] w fun e w' => e = .returned (.bool (decide (n < 1 ∨ ddue base most n last ≤ now))) ∧ w = w' := by
  by_cases h1 : n < 1
  · have e : decide (n < 1 ∨ ddue base most n last ≤ now) = true := decide_eq_true (.inl h1)
    have E := hide e
    clear e
    have t0 : ((tries n : Nat) : Int) = 0 := by unfold tries; omega
    go_enter Try.func11, Try.ntmps11
    go_wp2_with fail
    refine (tries_any n _).mono ?_
    rintro e w' ⟨rfl, rfl⟩
    rw [t0]
    go_wp2
    go_ret
    exact ⟨by rw [E.out]; rfl, rfl⟩
  · have e : decide (n < 1 ∨ ddue base most n last ≤ now) = decide (ddue base most n last ≤ now) := by simp [h1]
    have E := hide e
    clear e
    have ht1 : 1 ≤ tries n := by unfold tries; omega
    go_enter Try.func11, Try.ntmps11
    go_wp2_with fail
    refine (tries_any n _).mono ?_
    rintro e w' ⟨rfl, rfl⟩
    have hk0 : (((tries n : Nat) : Int) == 0) = false := by simp; omega
    go_wp2_with fail
    refine (due_any base most n last _ hn0 hn1).mono ?_
    rintro e w' ⟨rfl, rfl⟩
    go_wp2
    go_ret
    exact ⟨by rw [E.out]; rfl, rfl⟩

set_option maxHeartbeats 1000000 in
theorem total_any (base most n : Int) (w : World) (hn0 : -9223372036854775808 ≤ n) (hn1 : n ≤ 9223372036854775807) :
    Calls Try.prog 12 #[.int .i64 base, .int .i64 most, .int .i64 n] w fun e w' => e = .returned (.int .i64 (dsum base most (tries n))) ∧ w = w' := by
  have ht2 : tries n ≤ 64 := by unfold tries; omega
  go_enter Try.func12, Try.ntmps12
  go_wp2_with fail
  refine (tries_any n _).mono ?_
  rintro e w' ⟨rfl, rfl⟩
  generalize hK : tries n = K at *
  go_wp2
  go_loop [7, 11] (fun v i => ∃ (j : Nat), j ≤ K ∧ v = .int .i64 (dsum base most j) ∧ i = .int .i64 j) (fun _ i => K - (intOf i).toNat)
  case atStart => exact ⟨0, by omega, rfl, rfl⟩
  case round =>
    obtain ⟨j, hj1, rfl, rfl⟩ := hrel
    have hd := dsum_in base most j
    have hw := dwait_in base most ((j : Int) + 1)
    by_cases hjn : (j : Int) < (K : Int)
    · go_wp2_with fail
      refine (wait_any base most ((j : Int) + 1) _ (by omega) (by omega)).mono ?_
      rintro e w' ⟨rfl, rfl⟩
      go_wp2
      go_round
      case rel => exact ⟨j + 1, by omega, by go_num, by go_num⟩
      case measure => simp [intOf]; omega
    · have hjj : K = j := by omega
      subst hjj
      go_wp2
      go_ret
      exact ⟨by rw [← hK]; rfl, rfl⟩
end Go.Proofs.Ytafihjpmecdgbaa
