/-
  The reference's contracts of layer 9: which changes may be.
-/
import Derived.Test.YtfmddljljdoapaaChangeM
import Derived.Handy
namespace Go.Proofs.Ytfmddljljdoapaa
open Go.RowKit
set_option linter.unusedVariables false

def smallC (n : Int) : Bool := decide (0 ≤ n ∧ n ≤ 255)
theorem refsmall_any (n : Int) (w : World) : Calls Try.prog 20 #[.int .i64 n] w fun e w' => e = .returned (.bool (smallC n)) ∧ w = w' := by
  rcases Int.lt_or_le n 0 with h1 | h1
  · have E := hide (show smallC n = false from decide_eq_false (by omega))
    have hd : decide (0 ≤ n) = false := decide_eq_false (by omega)
    go_enter Try.func20, Try.ntmps20
    go_wp2
    go_ret
    exact ⟨by rw [E.out]; rfl, rfl⟩
  · have E := hide (show smallC n = decide (n ≤ 255) by unfold smallC; simp [h1])
    go_enter Try.func20, Try.ntmps20
    go_wp2
    go_ret
    exact ⟨by rw [E.out]; rfl, rfl⟩

theorem mayC_split (r s t k a b n p q : Int) : mayC ⟨r, s, t, k, a, b, n, p, q⟩ = (mayId r s && decide (1 ≤ t) && decide (t ≤ 1073741824) && smallC k && smallC a && smallC b && smallC p && decide (0 ≤ q) && decide (q ≤ 65535)) := by
  unfold mayC smallC
  simp only [Bool.decide_and, Bool.and_assoc]

set_option maxHeartbeats 4000000 in
theorem refmayc_any (x : Chg) (w : World) : Calls Try.prog 8 #[x.val] w fun e w' => e = .returned (.bool (mayC x)) ∧ Below w.heap.size w w' := by
  obtain ⟨r, s, t, k, a, b, n, p, q⟩ := x
  unfold Chg.val
  have HB := hide ((Below.refl w.heap.size w).alloc (Nat.le_refl _) (.cells #[.int .i64 r, .int .i64 s, .int .i64 t, .int .i64 k, .int .i64 a, .int .i64 b, .int .i64 n, .int .i64 p, .int .i64 q] 25))
  have fin : ∀ z, mayC ⟨r, s, t, k, a, b, n, p, q⟩ = z → Ending.returned (.bool z) = Ending.returned (.bool (mayC ⟨r, s, t, k, a, b, n, p, q⟩)) := fun z h => by rw [h]
  have FIN := hide fin
  have hat := at_new w ⟨r, s, t, k, a, b, n, p, q⟩ 25
  have HA := hide hat
  have SP := hide (mayC_split r s t k a b n p q)
  clear fin hat

  cases him : mayId r s with
  | false =>
    have E := hide (show mayC ⟨r, s, t, k, a, b, n, p, q⟩ = false by rw [SP.out]; simp [him])
    go_enter Try.func8, Try.ntmps8
    go_wp2_with fail
    refine (refmay_any r s _).mono ?_
    rintro e w2 ⟨rfl, hb⟩
    rw [him]
    have HB2 := hide (HB.out.trans (hb.mono HB.out.size))
    obtain ⟨-, -, c2, c3, c4, c5, -, c7, c8⟩ := HA.out.below hb (by simp)
    simp only [Nat.zero_add] at c2 c3 c4 c5 c7 c8
    clear hb
    go_wp2
    go_ret
    exact ⟨FIN.out _ E.out, HB2.out⟩
  | true =>
    cases ht1 : decide (1 ≤ t) with
    | false =>
      have E := hide (show mayC ⟨r, s, t, k, a, b, n, p, q⟩ = false by rw [SP.out]; simp [him, ht1])
      go_enter Try.func8, Try.ntmps8
      go_wp2_with fail
      refine (refmay_any r s _).mono ?_
      rintro e w2 ⟨rfl, hb⟩
      rw [him]
      have HB2 := hide (HB.out.trans (hb.mono HB.out.size))
      obtain ⟨-, -, c2, c3, c4, c5, -, c7, c8⟩ := HA.out.below hb (by simp)
      simp only [Nat.zero_add] at c2 c3 c4 c5 c7 c8
      clear hb
      go_wp2
      go_ret
      exact ⟨FIN.out _ E.out, HB2.out⟩
    | true =>
      cases ht2 : decide (t ≤ 1073741824) with
      | false =>
        have E := hide (show mayC ⟨r, s, t, k, a, b, n, p, q⟩ = false by rw [SP.out]; simp [him, ht1, ht2])
        go_enter Try.func8, Try.ntmps8
        go_wp2_with fail
        refine (refmay_any r s _).mono ?_
        rintro e w2 ⟨rfl, hb⟩
        rw [him]
        have HB2 := hide (HB.out.trans (hb.mono HB.out.size))
        obtain ⟨-, -, c2, c3, c4, c5, -, c7, c8⟩ := HA.out.below hb (by simp)
        simp only [Nat.zero_add] at c2 c3 c4 c5 c7 c8
        clear hb
        go_wp2
        go_ret
        exact ⟨FIN.out _ E.out, HB2.out⟩
      | true =>
        cases hsk : smallC k with
        | false =>
          have E := hide (show mayC ⟨r, s, t, k, a, b, n, p, q⟩ = false by rw [SP.out]; simp [him, ht1, ht2, hsk])
          go_enter Try.func8, Try.ntmps8
          go_wp2_with fail
          refine (refmay_any r s _).mono ?_
          rintro e w2 ⟨rfl, hb⟩
          rw [him]
          have HB2 := hide (HB.out.trans (hb.mono HB.out.size))
          obtain ⟨-, -, c2, c3, c4, c5, -, c7, c8⟩ := HA.out.below hb (by simp)
          simp only [Nat.zero_add] at c2 c3 c4 c5 c7 c8
          clear hb
          go_wp2_with fail
          refine (refsmall_any k _).mono ?_
          rintro e w3 ⟨rfl, rfl⟩
          rw [hsk]
          go_wp2
          go_ret
          exact ⟨FIN.out _ E.out, HB2.out⟩
        | true =>
          cases hsa : smallC a with
          | false =>
            have E := hide (show mayC ⟨r, s, t, k, a, b, n, p, q⟩ = false by rw [SP.out]; simp [him, ht1, ht2, hsk, hsa])
            go_enter Try.func8, Try.ntmps8
            go_wp2_with fail
            refine (refmay_any r s _).mono ?_
            rintro e w2 ⟨rfl, hb⟩
            rw [him]
            have HB2 := hide (HB.out.trans (hb.mono HB.out.size))
            obtain ⟨-, -, c2, c3, c4, c5, -, c7, c8⟩ := HA.out.below hb (by simp)
            simp only [Nat.zero_add] at c2 c3 c4 c5 c7 c8
            clear hb
            go_wp2_with fail
            refine (refsmall_any k _).mono ?_
            rintro e w3 ⟨rfl, rfl⟩
            rw [hsk]
            go_wp2_with fail
            refine (refsmall_any a _).mono ?_
            rintro e w3 ⟨rfl, rfl⟩
            rw [hsa]
            go_wp2
            go_ret
            exact ⟨FIN.out _ E.out, HB2.out⟩
          | true =>
            cases hsb : smallC b with
            | false =>
              have E := hide (show mayC ⟨r, s, t, k, a, b, n, p, q⟩ = false by rw [SP.out]; simp [him, ht1, ht2, hsk, hsa, hsb])
              go_enter Try.func8, Try.ntmps8
              go_wp2_with fail
              refine (refmay_any r s _).mono ?_
              rintro e w2 ⟨rfl, hb⟩
              rw [him]
              have HB2 := hide (HB.out.trans (hb.mono HB.out.size))
              obtain ⟨-, -, c2, c3, c4, c5, -, c7, c8⟩ := HA.out.below hb (by simp)
              simp only [Nat.zero_add] at c2 c3 c4 c5 c7 c8
              clear hb
              go_wp2_with fail
              refine (refsmall_any k _).mono ?_
              rintro e w3 ⟨rfl, rfl⟩
              rw [hsk]
              go_wp2_with fail
              refine (refsmall_any a _).mono ?_
              rintro e w3 ⟨rfl, rfl⟩
              rw [hsa]
              go_wp2_with fail
              refine (refsmall_any b _).mono ?_
              rintro e w3 ⟨rfl, rfl⟩
              rw [hsb]
              go_wp2
              go_ret
              exact ⟨FIN.out _ E.out, HB2.out⟩
            | true =>
              cases hsp : smallC p with
              | false =>
                have E := hide (show mayC ⟨r, s, t, k, a, b, n, p, q⟩ = false by rw [SP.out]; simp [him, ht1, ht2, hsk, hsa, hsb, hsp])
                go_enter Try.func8, Try.ntmps8
                go_wp2_with fail
                refine (refmay_any r s _).mono ?_
                rintro e w2 ⟨rfl, hb⟩
                rw [him]
                have HB2 := hide (HB.out.trans (hb.mono HB.out.size))
                obtain ⟨-, -, c2, c3, c4, c5, -, c7, c8⟩ := HA.out.below hb (by simp)
                simp only [Nat.zero_add] at c2 c3 c4 c5 c7 c8
                clear hb
                go_wp2_with fail
                refine (refsmall_any k _).mono ?_
                rintro e w3 ⟨rfl, rfl⟩
                rw [hsk]
                go_wp2_with fail
                refine (refsmall_any a _).mono ?_
                rintro e w3 ⟨rfl, rfl⟩
                rw [hsa]
                go_wp2_with fail
                refine (refsmall_any b _).mono ?_
                rintro e w3 ⟨rfl, rfl⟩
                rw [hsb]
                go_wp2_with fail
                refine (refsmall_any p _).mono ?_
                rintro e w3 ⟨rfl, rfl⟩
                rw [hsp]
                go_wp2
                go_ret
                exact ⟨FIN.out _ E.out, HB2.out⟩
              | true =>
                cases hq1 : decide (0 ≤ q) with
                | false =>
                  have E := hide (show mayC ⟨r, s, t, k, a, b, n, p, q⟩ = false by rw [SP.out]; simp [him, ht1, ht2, hsk, hsa, hsb, hsp, hq1])
                  go_enter Try.func8, Try.ntmps8
                  go_wp2_with fail
                  refine (refmay_any r s _).mono ?_
                  rintro e w2 ⟨rfl, hb⟩
                  rw [him]
                  have HB2 := hide (HB.out.trans (hb.mono HB.out.size))
                  obtain ⟨-, -, c2, c3, c4, c5, -, c7, c8⟩ := HA.out.below hb (by simp)
                  simp only [Nat.zero_add] at c2 c3 c4 c5 c7 c8
                  clear hb
                  go_wp2_with fail
                  refine (refsmall_any k _).mono ?_
                  rintro e w3 ⟨rfl, rfl⟩
                  rw [hsk]
                  go_wp2_with fail
                  refine (refsmall_any a _).mono ?_
                  rintro e w3 ⟨rfl, rfl⟩
                  rw [hsa]
                  go_wp2_with fail
                  refine (refsmall_any b _).mono ?_
                  rintro e w3 ⟨rfl, rfl⟩
                  rw [hsb]
                  go_wp2_with fail
                  refine (refsmall_any p _).mono ?_
                  rintro e w3 ⟨rfl, rfl⟩
                  rw [hsp]
                  go_wp2
                  go_ret
                  exact ⟨FIN.out _ E.out, HB2.out⟩
                | true =>
                  cases hq2 : decide (q ≤ 65535) with
                  | false =>
                    have E := hide (show mayC ⟨r, s, t, k, a, b, n, p, q⟩ = false by rw [SP.out]; simp [him, ht1, ht2, hsk, hsa, hsb, hsp, hq1, hq2])
                    go_enter Try.func8, Try.ntmps8
                    go_wp2_with fail
                    refine (refmay_any r s _).mono ?_
                    rintro e w2 ⟨rfl, hb⟩
                    rw [him]
                    have HB2 := hide (HB.out.trans (hb.mono HB.out.size))
                    obtain ⟨-, -, c2, c3, c4, c5, -, c7, c8⟩ := HA.out.below hb (by simp)
                    simp only [Nat.zero_add] at c2 c3 c4 c5 c7 c8
                    clear hb
                    go_wp2_with fail
                    refine (refsmall_any k _).mono ?_
                    rintro e w3 ⟨rfl, rfl⟩
                    rw [hsk]
                    go_wp2_with fail
                    refine (refsmall_any a _).mono ?_
                    rintro e w3 ⟨rfl, rfl⟩
                    rw [hsa]
                    go_wp2_with fail
                    refine (refsmall_any b _).mono ?_
                    rintro e w3 ⟨rfl, rfl⟩
                    rw [hsb]
                    go_wp2_with fail
                    refine (refsmall_any p _).mono ?_
                    rintro e w3 ⟨rfl, rfl⟩
                    rw [hsp]
                    go_wp2
                    go_ret
                    exact ⟨FIN.out _ E.out, HB2.out⟩
                  | true =>
                    have E := hide (show mayC ⟨r, s, t, k, a, b, n, p, q⟩ = true by rw [SP.out]; simp [him, ht1, ht2, hsk, hsa, hsb, hsp, hq1, hq2])
                    go_enter Try.func8, Try.ntmps8
                    go_wp2_with fail
                    refine (refmay_any r s _).mono ?_
                    rintro e w2 ⟨rfl, hb⟩
                    rw [him]
                    have HB2 := hide (HB.out.trans (hb.mono HB.out.size))
                    obtain ⟨-, -, c2, c3, c4, c5, -, c7, c8⟩ := HA.out.below hb (by simp)
                    simp only [Nat.zero_add] at c2 c3 c4 c5 c7 c8
                    clear hb
                    go_wp2_with fail
                    refine (refsmall_any k _).mono ?_
                    rintro e w3 ⟨rfl, rfl⟩
                    rw [hsk]
                    go_wp2_with fail
                    refine (refsmall_any a _).mono ?_
                    rintro e w3 ⟨rfl, rfl⟩
                    rw [hsa]
                    go_wp2_with fail
                    refine (refsmall_any b _).mono ?_
                    rintro e w3 ⟨rfl, rfl⟩
                    rw [hsb]
                    go_wp2_with fail
                    refine (refsmall_any p _).mono ?_
                    rintro e w3 ⟨rfl, rfl⟩
                    rw [hsp]
                    go_wp2
                    go_ret
                    exact ⟨FIN.out _ E.out, HB2.out⟩
end Go.Proofs.Ytfmddljljdoapaa
