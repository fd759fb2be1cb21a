/-
  The contracts of the reference's waits.
-/
import Derived.Test.YtafihjpmecdgbaaDelayM
namespace Go.Proofs.Ytafihjpmecdgbaa
open Go.RowKit
set_option linter.unusedVariables false

theorem min_as (x m : Int) : (if m < x then m else x) = min x m := by
  split <;> omega

set_option maxHeartbeats 1000000 in
theorem refwait_any (base most n : Int) (w : World) (hn0 : -9223372036854775808 ≤ n) (hn1 : n ≤ 9223372036854775807) :
    Calls Try.prog 7 #[.int .i64 base, .int .i64 most, .int .i64 n] w fun e w' => e = .returned (.int .i64 (dwait base most n)) ∧ w = w' := by
  obtain ⟨hb1, hb2⟩ := near_in (n := base) (show (1 : Int) ≤ 64 by omega)
  obtain ⟨hm1, hm2⟩ := near_in (n := most) (show (1 : Int) ≤ 64 by omega)
  by_cases h1 : n < 1
  · have e : dwait base most n = 0 := by unfold dwait; rw [if_pos h1]
    have E := hide e
    clear e
    go_enter Try.func7, Try.ntmps7
    go_wp2_with fail
    refine (near_any base 1 64 _).mono ?_
    rintro e w' ⟨rfl, rfl⟩
    go_wp2_with fail
    refine (near_any most 1 64 _).mono ?_
    rintro e w' ⟨rfl, rfl⟩
    go_wp2
    go_ret
    exact ⟨by rw [E.out]; rfl, rfl⟩
  · have e : dwait base most n = min (dbl (tries n - 1) (near base 1 64) (near most 1 64)) (near most 1 64) := by unfold dwait; rw [if_neg h1]
    have ht : ((tries n : Nat) : Int) = min n 64 := by unfold tries; omega
    have E := hide e
    clear e
    go_enter Try.func7, Try.ntmps7
    go_wp2_with fail
    refine (near_any base 1 64 _).mono ?_
    rintro e w' ⟨rfl, rfl⟩
    go_wp2_with fail
    refine (near_any most 1 64 _).mono ?_
    rintro e w' ⟨rfl, rfl⟩
    generalize near base 1 64 = b at *
    generalize near most 1 64 = m at *
    generalize tries n = K at *
    go_wp2
    go_loop [7, 8] (fun v i => ∃ (x : Int) (j : Nat), 1 ≤ j ∧ j ≤ K ∧ 1 ≤ x ∧ x ≤ 128 ∧ v = .int .i64 x ∧ i = .int .i64 j ∧ Hid (dbl (K - j) x m = dbl (K - 1) b m)) (fun _ i => K - (intOf i).toNat)
    case atStart => exact ⟨b, 1, by omega, by omega, by omega, by omega, rfl, rfl, hide rfl⟩
    case round =>
      obtain ⟨x, j, hj1, hj2, hx1, hx2, rfl, rfl, hd⟩ := hrel
      have fin : ∀ (_ : dbl (K - j) x m = x), dwait base most n = min x m := fun h => by rw [E.out, ← hd.out, h]
      have FIN := hide fin
      clear fin
      by_cases hjn : (j : Int) < n
      · by_cases hj64 : j < 64
        · by_cases hxm : x < m
          · have hst : dbl (K - (j + 1)) (x * 2) m = dbl (K - 1) b m := by
              rw [← hd.out, show K - j = (K - (j + 1)) + 1 by omega]
              conv => rhs; rw [dbl]
              rw [if_pos hxm]
            have HS := hide hst
            have hj64' : (j : Int) < 64 := by omega
            clear hst
            go_wp2
            go_round
            case rel => exact ⟨x * 2, j + 1, by omega, by omega, by omega, by omega, by go_num, by go_num, HS⟩
            case measure => simp [intOf]; omega
          · have hst := FIN.out (by
              cases hk : K - j with
              | zero => rfl
              | succ k => rw [dbl, if_neg hxm])
            have HS := hide hst
            have hj64' : (j : Int) < 64 := by omega
            have hdm : decide (x < m) = false := decide_eq_false hxm
            clear hst
            go_wp2
            all_goals go_ret
            all_goals refine ⟨?_, rfl⟩
            all_goals rw [HS.out, ← min_as]
            all_goals first | rfl | (congr 2; split <;> first | rfl | omega)
        · have hst := FIN.out (by rw [show K - j = 0 by omega]; rfl)
          have HS := hide hst
          have hdm : decide ((j : Int) < 64) = false := decide_eq_false (by omega)
          clear hst
          go_wp2
          all_goals go_ret
          all_goals refine ⟨?_, rfl⟩
          all_goals rw [HS.out, ← min_as]
          all_goals first | rfl | (congr 2; split <;> first | rfl | omega)
      · have hst := FIN.out (by rw [show K - j = 0 by omega]; rfl)
        have HS := hide hst
        have hdm : decide ((j : Int) < n) = false := decide_eq_false hjn
        clear hst
        go_wp2
        all_goals go_ret
        all_goals refine ⟨?_, rfl⟩
        all_goals rw [HS.out, ← min_as]
        all_goals first | rfl | (congr 2; split <;> first | rfl | omega)

theorem refdue_any (base most n last : Int) (w : World) (hn0 : -9223372036854775808 ≤ n) (hn1 : n ≤ 9223372036854775807) :
    Calls Try.prog 8 #[.int .i64 base, .int .i64 most, .int .i64 n, .int .i64 last] w fun e w' => e = .returned (.int .i64 (ddue base most n last)) ∧ w = w' := by
  obtain ⟨h1, h2⟩ := near_in (n := last) (show (0 : Int) ≤ 1073741824 by omega)
  have h3 := dwait_in base most n
  go_enter Try.func8, Try.ntmps8
  go_wp2_with fail
  refine (near_any last 0 1073741824 _).mono ?_
  rintro e w' ⟨rfl, rfl⟩
  go_wp2_with fail
  refine (refwait_any base most n _ hn0 hn1).mono ?_
  rintro e w' ⟨rfl, rfl⟩
  go_wp2
  go_ret
  exact ⟨rfl, rfl⟩
end Go.Proofs.Ytafihjpmecdgbaa
