/-
  The walk of ChangePuts.
-/
import Derived.Test.YtfmddljljdoapaaChangeAlive
import Derived.Test.YtfmddljljdoapaaSince
import Derived.Test.YtfmddljljdoapaaChangeRef
import Derived.Deep.RegionHeld
namespace Go.Proofs.Ytfmddljljdoapaa
open Go.RowKit
set_option linter.unusedVariables false

set_option maxRecDepth 100000 in
set_option maxHeartbeats 4000000 in
theorem chgputs_walk (x : Chg) (hx : x.ok) (w : World) : Calls Try.prog 3 #[x.val] w fun e w' => e = .returned (.bool true) ∧ Below w.heap.size w w' := by
  obtain ⟨r, s, t, k, a, b, n, p, q⟩ := x
  obtain ⟨W, hW⟩ : ∃ W, W = w.alloc (.cells #[.int .i64 r, .int .i64 s, .int .i64 t, .int .i64 k, .int .i64 a, .int .i64 b, .int .i64 n, .int .i64 p, .int .i64 q] 25) := ⟨_, rfl⟩
  have hA : At W w.heap.size 0 ⟨r, s, t, k, a, b, n, p, q⟩ := by rw [hW]; exact at_new w ⟨r, s, t, k, a, b, n, p, q⟩ 25
  have hAl : w.heap.size < W.heap.size := by rw [hW]; simp
  have HA := hide hA
  have HBW := hide (show Below w.heap.size w W by rw [hW]; exact (Below.refl _ w).alloc (Nat.le_refl _) _)
  have HW := hide hW
  have HX := hide hx
  have hN : I64 n := hx.2.2.2.2.2.2.1
  have HN := hide hN
  have HP := hide (fun W => cput_any ⟨r, s, t, k, a, b, n, p, q⟩ hx W)
  have HC := hide (fun W => ccheck_any ⟨r, s, t, k, a, b, n, p, q⟩ hx W)
  have HM := hide (fun W => refmayc_any ⟨r, s, t, k, a, b, n, p, q⟩ W)
  have HBx := hide (fun w' (h : Since W w') => HBW.out.trans (Below.mono h HBW.out.size))
  clear hA hW hx hN
  unfold Chg.val
  cases hmc : mayC ⟨r, s, t, k, a, b, n, p, q⟩ with
  | false =>
    rw [putM_no hmc, putK_no hmc] at HP
    rw [putK_no hmc] at HC
    rw [hmc] at HM
    clear hmc
    go_enter Try.func3, Try.ntmps3
    go_wp2_with fail
    rw [← HW.out]
    refine (alive09 _).mono ?_
    rintro e w1 ⟨rfl, hb1⟩
    have HS1 := hide (show Since W w1 from hb1)
    clear hb1
    obtain ⟨x0, x1, x2, x3, x4, x5, x6, x7, x8⟩ := HA.out.later hAl HS1.out
    go_wp2_with fail
    refine (HP.out _).mono ?_
    rintro e w2 hf
    obtain ⟨A2, c2, rfl, -, hb⟩ := hf.row (n := 0) rfl
    have HS2 := hide (Since.trans HS1.out (show Since w1 w2 from hb))
    clear hf hb x0 x1 x2 x3 x4 x5 x6 x7 x8
    obtain ⟨x0, x1, x2, x3, x4, x5, x6, x7, x8⟩ := HA.out.later hAl HS2.out
    go_wp2_with fail
    refine (HM.out _).mono ?_
    rintro e w3 ⟨rfl, hb⟩
    have HS3 := hide (Since.trans HS2.out (show Since w2 w3 from hb))
    clear hb x0 x1 x2 x3 x4 x5 x6 x7 x8
    obtain ⟨x0, x1, x2, x3, x4, x5, x6, x7, x8⟩ := HA.out.later hAl HS3.out
    go_wp2_with fail
    refine (HC.out _).mono ?_
    rintro e w4 ⟨rfl, hb⟩
    have HS4 := hide (Since.trans HS3.out (show Since w3 w4 from hb))
    clear hb x0 x1 x2 x3 x4 x5 x6 x7 x8
    go_wp2
    go_ret
    exact ⟨rfl, HBx.out _ HS4.out⟩
  | true =>
    rw [putM_yes hmc, putK_yes hmc] at HP
    rw [putK_yes hmc] at HC
    have HL := hide (bytesC_len ⟨r, s, t, k, a, b, n, p, q⟩)
    have HOB := hide (bytesC_octs hmc)
    have HV := hide (valC_bytesC hmc HN.out)
    have HK := hide (getK_bytesC hmc HN.out)
    have HR := hide (fun W => refputc_any ⟨r, s, t, k, a, b, n, p, q⟩ hmc HN.out W)
    rw [hmc] at HM
    have hq : ∀ W, (Op.equalIn 10000 25 (.agg #[.int .i64 r, .int .i64 s, .int .i64 t, .int .i64 k, .int .i64 a, .int .i64 b, .int .i64 n, .int .i64 p, .int .i64 q]) (.agg #[.int .i64 r, .int .i64 s, .int .i64 t, .int .i64 k, .int .i64 a, .int .i64 b, .int .i64 n, .int .i64 p, .int .i64 q])).run Try.prog W = .ok true W := fun W => by
      have := chg_equal ⟨r, s, t, k, a, b, n, p, q⟩ ⟨r, s, t, k, a, b, n, p, q⟩ W
      rwa [decide_eq_true rfl] at this
    clear hmc
    go_enter Try.func3, Try.ntmps3
    go_wp2_with fail
    rw [← HW.out]
    refine (alive09 _).mono ?_
    rintro e w1 ⟨rfl, hb1⟩
    have HS1 := hide (show Since W w1 from hb1)
    clear hb1
    obtain ⟨x0, x1, x2, x3, x4, x5, x6, x7, x8⟩ := HA.out.later hAl HS1.out
    go_wp2_with fail
    refine (HP.out _).mono ?_
    rintro e w2 hf
    obtain ⟨A2, c2, rfl, hown, hb⟩ := hf.row HL.out
    have HO := hide (own_octs hown)
    have HS2 := hide (Since.trans HS1.out (show Since w1 w2 from hb))
    clear hf hb hown x0 x1 x2 x3 x4 x5 x6 x7 x8
    obtain ⟨x0, x1, x2, x3, x4, x5, x6, x7, x8⟩ := HA.out.later hAl HS2.out
    go_wp2_with fail
    refine (HM.out _).mono ?_
    rintro e w3 ⟨rfl, hb⟩
    have hs23 : Since w2 w3 := hb
    have HO3 := hide ((HO.out.within).below hs23 (fun _ h _ => h.2))
    have HS3 := hide (Since.trans HS2.out hs23)
    clear hb hs23 x0 x1 x2 x3 x4 x5 x6 x7 x8
    go_wp2_with fail
    refine (cget_any _ A2 22 c2 _ _ HO3.out HOB.out (by omega)).mono ?_
    rintro e w4 ⟨rfl, hb⟩
    rw [HV.out, HK.out]
    unfold Chg.val
    have hs34 : Since w3 w4 := hb
    obtain ⟨W5, hW5⟩ : ∃ W5, W5 = w4.alloc (.cells #[.int .i64 r, .int .i64 s, .int .i64 t, .int .i64 k, .int .i64 a, .int .i64 b, .int .i64 n, .int .i64 p, .int .i64 q] 25) := ⟨_, rfl⟩
    have hs35 : Since w3 W5 := by rw [hW5]; exact hs34.alloc _
    have HD := hide (show At W5 w4.heap.size 0 ⟨r, s, t, k, a, b, n, p, q⟩ by rw [hW5]; exact at_new w4 ⟨r, s, t, k, a, b, n, p, q⟩ 25)
    have hDl : w4.heap.size < W5.heap.size := by rw [hW5]; simp
    have HS5 := hide (Since.trans HS3.out hs35)
    have HO5 := hide (HO3.out.below hs35 (fun _ h hb => hb))
    have HW5 := hide hW5
    clear hb hs34 hW5 hs35
    have kA := fun w' (h : Since W5 w') => (HA.out.later hAl (Since.trans HS5.out h))
    have kD := fun w' (h : Since W5 w') => (HD.out.later hDl h)
    have x0 := fun w' h => (kA w' h).1
    have x1 := fun w' h => (kA w' h).2.1
    have x2 := fun w' h => (kA w' h).2.2.1
    have x3 := fun w' h => (kA w' h).2.2.2.1
    have x4 := fun w' h => (kA w' h).2.2.2.2.1
    have x5 := fun w' h => (kA w' h).2.2.2.2.2.1
    have x6 := fun w' h => (kA w' h).2.2.2.2.2.2.1
    have x7 := fun w' h => (kA w' h).2.2.2.2.2.2.2.1
    have x8 := fun w' h => (kA w' h).2.2.2.2.2.2.2.2
    have y0 := fun w' h => (kD w' h).1
    have y1 := fun w' h => (kD w' h).2.1
    have y2 := fun w' h => (kD w' h).2.2.1
    have y3 := fun w' h => (kD w' h).2.2.2.1
    have y4 := fun w' h => (kD w' h).2.2.2.2.1
    have y5 := fun w' h => (kD w' h).2.2.2.2.2.1
    have y6 := fun w' h => (kD w' h).2.2.2.2.2.2.1
    have y7 := fun w' h => (kD w' h).2.2.2.2.2.2.2.1
    have y8 := fun w' h => (kD w' h).2.2.2.2.2.2.2.2
    simp only [Nat.zero_add] at x0 x1 x2 x3 x4 x5 x6 x7 x8 y0 y1 y2 y3 y4 y5 y6 y7 y8
    have hs2 : ∀ w', Since W5 w' → (convert 27 9 (.slice A2 22 c2)).run Try.prog w' = .ok (.string (strOfNums (bytesC ⟨r, s, t, k, a, b, n, p, q⟩))) w' := fun w' h => conv_row ((HO5.out.within).below h (fun _ h _ => h.2))
    obtain ⟨U, HU⟩ : ∃ U, Hid (strOfNums (bytesC ⟨r, s, t, k, a, b, n, p, q⟩) = U) := ⟨_, rfl⟩
    rw [HU.out] at hs2
    have P1 := hide (fun w' (h : Since W5 w') => (HC.out w').mono fun e w2 hh => And.intro hh.1 (Since.next h hh.2))
    have P2 := hide (fun w' (h : Since W5 w') => (HR.out w').mono fun e w2 hf => fresh_text h hf HL.out HU.out)
    have hr0 := (Since.refl W5).drew
    have HBy := hide (fun w' (h : Since W5 w') => HBx.out _ (Since.trans HS5.out h))
    clear kA kD HU HL HOB HV HK HR HM HP HC HN HX HA HD HBW HBx HO HO3 HO5 HS1 HS2 HS3 HS5
    go_wp2_with fail
    rw [← HW5.out]
    go_region_held (fun w' => Since W5 w') (assumption) (first
      | (go_at_call 9; refine (P1.out _ (by assumption)).mono ?_; rintro e w5 ⟨rfl, hs5⟩)
      | (go_at_call 11; refine (P2.out _ (by assumption)).mono ?_; rintro e w6 ⟨A6, c6, rfl, hs6, hsi6, hsr6, hst6⟩))
    all_goals go_wp2
    all_goals go_ret
    all_goals exact ⟨rfl, HBy.out _ (by assumption)⟩
end Go.Proofs.Ytfmddljljdoapaa
