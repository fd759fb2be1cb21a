/-
  The program's contracts of layer 9: Check. (Made by gen-changecheck.py.)
-/
import Derived.Test.YtfmddljljdoapaaChangeW
import Derived.Test.YtfmddljljdoapaaIdentMay
import Derived.Handy
namespace Go.Proofs.Ytfmddljljdoapaa
open Go.RowKit
set_option linter.unusedVariables false

theorem cwithin_any (n lo hi : Int) (w : World) :
    Calls Try.prog 22 #[.int .i64 n, .int .i64 lo, .int .i64 hi] w fun e w' => e = .returned (.bool (decide (lo ≤ n ∧ n ≤ hi))) ∧ w = w' := by
  by_cases h : lo ≤ n ∧ n ≤ hi
  · have E := hide (show decide (lo ≤ n ∧ n ≤ hi) = true from decide_eq_true h)
    have H := hide h
    clear h
    go_enter Try.func22, Try.ntmps22
    go_wp2_with fail
    refine (in_yes n lo hi _ H.out.1 H.out.2).mono ?_
    rintro e w' ⟨rfl, rfl⟩
    go_wp2
    go_ret
    exact ⟨by rw [E.out]; rfl, rfl⟩
  · have E := hide (show decide (lo ≤ n ∧ n ≤ hi) = false from decide_eq_false h)
    have H := hide (show n < lo ∨ hi < n by omega)
    clear h
    go_enter Try.func22, Try.ntmps22
    go_wp2_with fail
    refine (in_no n lo hi _ H.out).mono ?_
    rintro e w' ⟨rfl, rfl⟩
    go_wp2
    go_ret
    exact ⟨by rw [E.out]; rfl, rfl⟩

theorem mayC_parts (r s t k a b n p q : Int) : mayC ⟨r, s, t, k, a, b, n, p, q⟩ = (mayId r s && decide (1 ≤ t ∧ t ≤ 1073741824) && decide (0 ≤ q ∧ q ≤ 65535) && decide (0 ≤ k ∧ k ≤ 255) && decide (0 ≤ a ∧ a ≤ 255) && decide (0 ≤ b ∧ b ≤ 255) && decide (0 ≤ p ∧ p ≤ 255)) := by
  unfold mayC
  simp only [← Bool.decide_and, Bool.and_assoc]
  congr 1
  exact decide_eq_decide.2 ⟨fun h => by omega, fun h => by omega⟩

set_option maxHeartbeats 4000000 in
theorem ccheck_all (x : Chg) (w : World) : Calls Try.prog 9 #[x.val] w fun e w' => e = .returned (.int .i64 (putK x)) ∧ Below w.heap.size w w' := by
  obtain ⟨r, s, t, k, a, b, n, p, q⟩ := x
  unfold Chg.val
  have HB := hide ((Below.refl w.heap.size w).alloc (Nat.le_refl _) (.cells #[.int .i64 r, .int .i64 s, .int .i64 t, .int .i64 k, .int .i64 a, .int .i64 b, .int .i64 n, .int .i64 p, .int .i64 q] 25))
  have HA := hide (at_new w ⟨r, s, t, k, a, b, n, p, q⟩ 25)
  have NO := hide (fun (h : mayC ⟨r, s, t, k, a, b, n, p, q⟩ = false) => show (Ending.returned (.int .i64 4)) = .returned (.int .i64 (putK ⟨r, s, t, k, a, b, n, p, q⟩)) from by rw [putK_no h])
  have YES := hide (fun (h : mayC ⟨r, s, t, k, a, b, n, p, q⟩ = true) => show (Ending.returned (.int .i64 0)) = .returned (.int .i64 (putK ⟨r, s, t, k, a, b, n, p, q⟩)) from by rw [putK_yes h])
  rw [mayC_parts] at NO YES
  have i0 : ∀ W, (Instr.index 52 (.agg #[.int .i64 k, .int .i64 a, .int .i64 b, .int .i64 p]) (.int .i64 0)).run Try.prog W = .ok (.int .i64 k) W := fun _ => by kernel_rfl
  have i1 : ∀ W, (Instr.index 52 (.agg #[.int .i64 k, .int .i64 a, .int .i64 b, .int .i64 p]) (.int .i64 1)).run Try.prog W = .ok (.int .i64 a) W := fun _ => by kernel_rfl
  have i2 : ∀ W, (Instr.index 52 (.agg #[.int .i64 k, .int .i64 a, .int .i64 b, .int .i64 p]) (.int .i64 2)).run Try.prog W = .ok (.int .i64 b) W := fun _ => by kernel_rfl
  have i3 : ∀ W, (Instr.index 52 (.agg #[.int .i64 k, .int .i64 a, .int .i64 b, .int .i64 p]) (.int .i64 3)).run Try.prog W = .ok (.int .i64 p) W := fun _ => by kernel_rfl
  cases hm : mayId r s with
  | false =>
    have FIN := hide (NO.out (by simp [hm]))
    go_enter Try.func9, Try.ntmps9
    go_wp2_with fail
    refine (pmay_any r s _).mono ?_
    rintro e w2 ⟨rfl, hbl⟩
    rw [hm]
    have HB2 := hide (HB.out.trans (hbl.mono HB.out.size))
    obtain ⟨c0, c1, c2, c3, c4, c5, c6, c7, c8⟩ := HA.out.below hbl (by simp)
    simp only [Nat.zero_add] at c0 c1 c2 c3 c4 c5 c6 c7 c8
    clear hbl
    go_wp2
    go_ret
    exact ⟨FIN.out, HB2.out⟩
  | true =>
    cases ht : decide (1 ≤ t ∧ t ≤ 1073741824) with
    | false =>
      have FIN := hide (NO.out (by simp [hm, ht]))
      go_enter Try.func9, Try.ntmps9
      go_wp2_with fail
      refine (pmay_any r s _).mono ?_
      rintro e w2 ⟨rfl, hbl⟩
      rw [hm]
      have HB2 := hide (HB.out.trans (hbl.mono HB.out.size))
      obtain ⟨c0, c1, c2, c3, c4, c5, c6, c7, c8⟩ := HA.out.below hbl (by simp)
      simp only [Nat.zero_add] at c0 c1 c2 c3 c4 c5 c6 c7 c8
      clear hbl
      go_wp2_with fail
      refine (cwithin_any t 1 1073741824 _).mono ?_
      rintro e w3 ⟨rfl, rfl⟩
      rw [ht]
      go_wp2
      go_ret
      exact ⟨FIN.out, HB2.out⟩
    | true =>
      cases hq : decide (0 ≤ q ∧ q ≤ 65535) with
      | false =>
        have FIN := hide (NO.out (by simp [hm, ht, hq]))
        go_enter Try.func9, Try.ntmps9
        go_wp2_with fail
        refine (pmay_any r s _).mono ?_
        rintro e w2 ⟨rfl, hbl⟩
        rw [hm]
        have HB2 := hide (HB.out.trans (hbl.mono HB.out.size))
        obtain ⟨c0, c1, c2, c3, c4, c5, c6, c7, c8⟩ := HA.out.below hbl (by simp)
        simp only [Nat.zero_add] at c0 c1 c2 c3 c4 c5 c6 c7 c8
        clear hbl
        go_wp2_with fail
        refine (cwithin_any t 1 1073741824 _).mono ?_
        rintro e w3 ⟨rfl, rfl⟩
        rw [ht]
        go_wp2_with fail
        refine (cwithin_any q 0 65535 _).mono ?_
        rintro e w3 ⟨rfl, rfl⟩
        rw [hq]
        go_wp2
        go_ret
        exact ⟨FIN.out, HB2.out⟩
      | true =>
        cases hk : decide (0 ≤ k ∧ k ≤ 255) with
        | false =>
          have FIN := hide (NO.out (by simp [hm, ht, hq, hk]))
          go_enter Try.func9, Try.ntmps9
          go_wp2_with fail
          refine (pmay_any r s _).mono ?_
          rintro e w2 ⟨rfl, hbl⟩
          rw [hm]
          have HB2 := hide (HB.out.trans (hbl.mono HB.out.size))
          obtain ⟨c0, c1, c2, c3, c4, c5, c6, c7, c8⟩ := HA.out.below hbl (by simp)
          simp only [Nat.zero_add] at c0 c1 c2 c3 c4 c5 c6 c7 c8
          clear hbl
          go_wp2_with fail
          refine (cwithin_any t 1 1073741824 _).mono ?_
          rintro e w3 ⟨rfl, rfl⟩
          rw [ht]
          go_wp2_with fail
          refine (cwithin_any q 0 65535 _).mono ?_
          rintro e w3 ⟨rfl, rfl⟩
          rw [hq]
          go_wp2
          refine wp_loop_rounds 5 ?_
          rw [rounds_succ]
          go_wp2_with fail
          refine (cwithin_any k 0 255 _).mono ?_
          rintro e w3 ⟨rfl, rfl⟩
          rw [hk]
          go_wp2
          go_ret
          exact ⟨FIN.out, HB2.out⟩
        | true =>
          cases ha : decide (0 ≤ a ∧ a ≤ 255) with
          | false =>
            have FIN := hide (NO.out (by simp [hm, ht, hq, hk, ha]))
            go_enter Try.func9, Try.ntmps9
            go_wp2_with fail
            refine (pmay_any r s _).mono ?_
            rintro e w2 ⟨rfl, hbl⟩
            rw [hm]
            have HB2 := hide (HB.out.trans (hbl.mono HB.out.size))
            obtain ⟨c0, c1, c2, c3, c4, c5, c6, c7, c8⟩ := HA.out.below hbl (by simp)
            simp only [Nat.zero_add] at c0 c1 c2 c3 c4 c5 c6 c7 c8
            clear hbl
            go_wp2_with fail
            refine (cwithin_any t 1 1073741824 _).mono ?_
            rintro e w3 ⟨rfl, rfl⟩
            rw [ht]
            go_wp2_with fail
            refine (cwithin_any q 0 65535 _).mono ?_
            rintro e w3 ⟨rfl, rfl⟩
            rw [hq]
            go_wp2
            refine wp_loop_rounds 5 ?_
            rw [rounds_succ]
            go_wp2_with fail
            refine (cwithin_any k 0 255 _).mono ?_
            rintro e w3 ⟨rfl, rfl⟩
            rw [hk]
            go_wp2
            rw [rounds_succ]
            go_wp2_with fail
            refine (cwithin_any a 0 255 _).mono ?_
            rintro e w3 ⟨rfl, rfl⟩
            rw [ha]
            go_wp2
            go_ret
            exact ⟨FIN.out, HB2.out⟩
          | true =>
            cases hb : decide (0 ≤ b ∧ b ≤ 255) with
            | false =>
              have FIN := hide (NO.out (by simp [hm, ht, hq, hk, ha, hb]))
              go_enter Try.func9, Try.ntmps9
              go_wp2_with fail
              refine (pmay_any r s _).mono ?_
              rintro e w2 ⟨rfl, hbl⟩
              rw [hm]
              have HB2 := hide (HB.out.trans (hbl.mono HB.out.size))
              obtain ⟨c0, c1, c2, c3, c4, c5, c6, c7, c8⟩ := HA.out.below hbl (by simp)
              simp only [Nat.zero_add] at c0 c1 c2 c3 c4 c5 c6 c7 c8
              clear hbl
              go_wp2_with fail
              refine (cwithin_any t 1 1073741824 _).mono ?_
              rintro e w3 ⟨rfl, rfl⟩
              rw [ht]
              go_wp2_with fail
              refine (cwithin_any q 0 65535 _).mono ?_
              rintro e w3 ⟨rfl, rfl⟩
              rw [hq]
              go_wp2
              refine wp_loop_rounds 5 ?_
              rw [rounds_succ]
              go_wp2_with fail
              refine (cwithin_any k 0 255 _).mono ?_
              rintro e w3 ⟨rfl, rfl⟩
              rw [hk]
              go_wp2
              rw [rounds_succ]
              go_wp2_with fail
              refine (cwithin_any a 0 255 _).mono ?_
              rintro e w3 ⟨rfl, rfl⟩
              rw [ha]
              go_wp2
              rw [rounds_succ]
              go_wp2_with fail
              refine (cwithin_any b 0 255 _).mono ?_
              rintro e w3 ⟨rfl, rfl⟩
              rw [hb]
              go_wp2
              go_ret
              exact ⟨FIN.out, HB2.out⟩
            | true =>
              cases hp : decide (0 ≤ p ∧ p ≤ 255) with
              | false =>
                have FIN := hide (NO.out (by simp [hm, ht, hq, hk, ha, hb, hp]))
                go_enter Try.func9, Try.ntmps9
                go_wp2_with fail
                refine (pmay_any r s _).mono ?_
                rintro e w2 ⟨rfl, hbl⟩
                rw [hm]
                have HB2 := hide (HB.out.trans (hbl.mono HB.out.size))
                obtain ⟨c0, c1, c2, c3, c4, c5, c6, c7, c8⟩ := HA.out.below hbl (by simp)
                simp only [Nat.zero_add] at c0 c1 c2 c3 c4 c5 c6 c7 c8
                clear hbl
                go_wp2_with fail
                refine (cwithin_any t 1 1073741824 _).mono ?_
                rintro e w3 ⟨rfl, rfl⟩
                rw [ht]
                go_wp2_with fail
                refine (cwithin_any q 0 65535 _).mono ?_
                rintro e w3 ⟨rfl, rfl⟩
                rw [hq]
                go_wp2
                refine wp_loop_rounds 5 ?_
                rw [rounds_succ]
                go_wp2_with fail
                refine (cwithin_any k 0 255 _).mono ?_
                rintro e w3 ⟨rfl, rfl⟩
                rw [hk]
                go_wp2
                rw [rounds_succ]
                go_wp2_with fail
                refine (cwithin_any a 0 255 _).mono ?_
                rintro e w3 ⟨rfl, rfl⟩
                rw [ha]
                go_wp2
                rw [rounds_succ]
                go_wp2_with fail
                refine (cwithin_any b 0 255 _).mono ?_
                rintro e w3 ⟨rfl, rfl⟩
                rw [hb]
                go_wp2
                rw [rounds_succ]
                go_wp2_with fail
                refine (cwithin_any p 0 255 _).mono ?_
                rintro e w3 ⟨rfl, rfl⟩
                rw [hp]
                go_wp2
                go_ret
                exact ⟨FIN.out, HB2.out⟩
              | true =>
                have FIN := hide (YES.out (by simp [hm, ht, hq, hk, ha, hb, hp]))
                go_enter Try.func9, Try.ntmps9
                go_wp2_with fail
                refine (pmay_any r s _).mono ?_
                rintro e w2 ⟨rfl, hbl⟩
                rw [hm]
                have HB2 := hide (HB.out.trans (hbl.mono HB.out.size))
                obtain ⟨c0, c1, c2, c3, c4, c5, c6, c7, c8⟩ := HA.out.below hbl (by simp)
                simp only [Nat.zero_add] at c0 c1 c2 c3 c4 c5 c6 c7 c8
                clear hbl
                go_wp2_with fail
                refine (cwithin_any t 1 1073741824 _).mono ?_
                rintro e w3 ⟨rfl, rfl⟩
                rw [ht]
                go_wp2_with fail
                refine (cwithin_any q 0 65535 _).mono ?_
                rintro e w3 ⟨rfl, rfl⟩
                rw [hq]
                go_wp2
                refine wp_loop_rounds 5 ?_
                rw [rounds_succ]
                go_wp2_with fail
                refine (cwithin_any k 0 255 _).mono ?_
                rintro e w3 ⟨rfl, rfl⟩
                rw [hk]
                go_wp2
                rw [rounds_succ]
                go_wp2_with fail
                refine (cwithin_any a 0 255 _).mono ?_
                rintro e w3 ⟨rfl, rfl⟩
                rw [ha]
                go_wp2
                rw [rounds_succ]
                go_wp2_with fail
                refine (cwithin_any b 0 255 _).mono ?_
                rintro e w3 ⟨rfl, rfl⟩
                rw [hb]
                go_wp2
                rw [rounds_succ]
                go_wp2_with fail
                refine (cwithin_any p 0 255 _).mono ?_
                rintro e w3 ⟨rfl, rfl⟩
                rw [hp]
                go_wp2
                rw [rounds_succ]
                go_wp2
                go_ret
                exact ⟨FIN.out, HB2.out⟩
theorem ccheck_any (x : Chg) (hx : x.ok) (w : World) : Calls Try.prog 9 #[x.val] w fun e w' => e = .returned (.int .i64 (putK x)) ∧ Below w.heap.size w w' := ccheck_all x w
end Go.Proofs.Ytfmddljljdoapaa
