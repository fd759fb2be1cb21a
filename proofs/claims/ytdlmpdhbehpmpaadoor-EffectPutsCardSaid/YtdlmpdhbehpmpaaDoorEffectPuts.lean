/-
  The walk of EffectPuts.
-/
import Derived.Test.YtdlmpdhbehpmpaaDoorEffAlive
import Derived.Test.YtdlmpdhbehpmpaaDoorEffGet
import Derived.Test.YtdlmpdhbehpmpaaDoorSince
import Derived.Deep.RegionHeld
import Derived.Deep.RegionWith
import Derived.Deep.DeepCutAuto
import Derived.Deep.Cut
import Derived.Deep.CutRange
namespace Go.Proofs.YtdlmpdhbehpmpaaDoor
open Go.RowKit
set_option linter.unusedVariables false

set_option maxRecDepth 100000 in
set_option maxHeartbeats 4000000 in
theorem effputs_walk (x : Eff) (hx : x.ok) (A : Option Addr) (m c : Nat) (l : List Int) (w : World) (h : Row w (· < w.heap.size) A m c (octs l)) (ho : Octs l) (hm : m ≤ 140737488351232) (hg : Good w) :
    Calls Tryd.prog 3 #[x.val, .slice A m c] w fun e w' => e = .returned (.bool true) ∧ Below w.heap.size w w' := by
  obtain ⟨k, a, n, p, q⟩ := x
  obtain ⟨W, hW⟩ : ∃ W, W = w.alloc (.cells #[.int .i64 k, .int .i64 a, .int .i64 n, .int .i64 p, .int .i64 q] 25) := ⟨_, rfl⟩
  have hA : Eff.At W w.heap.size 0 ⟨k, a, n, p, q⟩ := by rw [hW]; exact eff_at_new w ⟨k, a, n, p, q⟩ 25
  have hAl : w.heap.size < W.heap.size := by rw [hW]; simp
  have HA := hide hA
  have HBW := hide (show Below w.heap.size w W by rw [hW]; exact (Below.refl _ w).alloc (Nat.le_refl _) _)
  have HGD := hide (show Good W from hg.later W HBW.out)
  have HW := hide hW
  have HN := hide (show I64 n from hx.2.2.1)
  have HP := hide (fun W => eput_any ⟨k, a, n, p, q⟩ hx W)
  have HC := hide (fun W => echeck_any ⟨k, a, n, p, q⟩ hx W)
  have HM := hide (fun W => refmaye_any ⟨k, a, n, p, q⟩ W)
  have HLT := hide (fun W => elater_any ⟨k, a, n, p, q⟩ W)
  have HR := hide (fun hz W => refpute_any ⟨k, a, n, p, q⟩ hz HN.out W)
  have HBx := hide (fun w' (h : Since W w') => HBW.out.trans (Below.mono h HBW.out.size))
  have HH := hide (h.below HBW.out (fun _ h _ => h))
  have HOL := hide ho
  have HLS := hide (show laterE ⟨k, a, n, p, q⟩ = (decide (7 ≤ k) && decide (k ≤ 11)) by unfold laterE; rw [Bool.decide_and])
  have HLB := hide (bytesE_len ⟨k, a, n, p, q⟩)
  have HOB := hide (fun hz => bytesE_octs (x := ⟨k, a, n, p, q⟩) hz)
  have HVB := hide (fun hz => valE_bytesE (x := ⟨k, a, n, p, q⟩) hz HN.out)
  have HKB := hide (fun hz => getEK_bytesE (x := ⟨k, a, n, p, q⟩) hz HN.out)
  obtain ⟨N2, HN2⟩ : ∃ N, Hid ((putEM ⟨k, a, n, p, q⟩).length = N) := ⟨_, rfl⟩
  have hpm : codeE ⟨k, a, n, p, q⟩ = 0 → putEM ⟨k, a, n, p, q⟩ = bytesE ⟨k, a, n, p, q⟩ := putEM_yes
  have HPM := hide hpm
  have hq : ∀ W, (Op.equalIn 10000 25 (.agg #[.int .i64 k, .int .i64 a, .int .i64 n, .int .i64 p, .int .i64 q]) (.agg #[.int .i64 k, .int .i64 a, .int .i64 n, .int .i64 p, .int .i64 q])).run Tryd.prog W = .ok true W := fun W => by
    have := eff_equal ⟨k, a, n, p, q⟩ ⟨k, a, n, p, q⟩ 9997 W
    rwa [decide_eq_true rfl] at this
  clear hA hW hx h ho hpm
  unfold Eff.val at HP HC HM HLT HR HVB
  unfold Eff.val
  generalize codeE ⟨k, a, n, p, q⟩ = K at *
  go_enter Tryd.func3, Tryd.ntmps3
  go_wp2_with fail
  rw [← HW.out]
  refine (alive10 _ HGD.out).mono ?_
  rintro e w1 ⟨rfl, hb1⟩
  have HS1 := hide (show Since W w1 from hb1)
  clear hb1
  obtain ⟨x0, x1, x2, x3, x4⟩ := HA.out.later hAl HS1.out
  go_wp2_with fail
  refine (HM.out _).mono ?_
  rintro e w2 ⟨rfl, hb⟩
  have HS2 := hide (Since.trans HS1.out (show Since w1 w2 from hb))
  clear hb x0 x1 x2 x3 x4
  obtain ⟨x0, x1, x2, x3, x4⟩ := HA.out.later hAl HS2.out
  go_wp2_with fail
  refine (HP.out _).mono ?_
  rintro e w3 hf
  obtain ⟨A3, c3, rfl, hown, hb⟩ := hf.row HN2.out
  have HS3 := hide (Since.trans HS2.out (show Since w2 w3 from hb))
  have HO3 := hide ((own_octs hown).within)
  clear hf hb hown x0 x1 x2 x3 x4
  go_upto_region 5 with fail
  have kA := fun w' (h : Since w3 w') => (HA.out.later hAl (Since.trans HS3.out h))
  have x0 := fun w' h => (kA w' h).1
  have x1 := fun w' h => (kA w' h).2.1
  have x2 := fun w' h => (kA w' h).2.2.1
  have x3 := fun w' h => (kA w' h).2.2.2.1
  have x4 := fun w' h => (kA w' h).2.2.2.2
  simp only [Nat.zero_add] at x0 x1 x2 x3 x4
  have P1 := hide (fun w' (h : Since w3 w') => (HC.out w').mono fun e w2 hh => And.intro hh.1 (Since.next h hh.2))
  have P2 := hide (fun w' (h : Since w3 w') => (HLT.out w').mono fun e w2 hh => And.intro hh.1 (Since.next h hh.2))
  have hr0 := (Since.refl w3).drew
  go_cut [44] (fun s44 wx => s44 = .bool false ∧ Hid (Since w3 wx))
  case first =>
    have hcase : (decide (7 ≤ k) = false ∧ laterE ⟨k, a, n, p, q⟩ = false) ∨ (decide (7 ≤ k) = true ∧ decide (k ≤ 11) = false ∧ laterE ⟨k, a, n, p, q⟩ = false) ∨ (decide (7 ≤ k) = true ∧ decide (k ≤ 11) = true ∧ laterE ⟨k, a, n, p, q⟩ = true) := by
      have := HLS.out
      cases h7 : decide (7 ≤ k) with
      | false => rw [h7] at this; exact .inl ⟨rfl, by rw [this]; rfl⟩
      | true =>
        rw [h7] at this
        cases h11 : decide (k ≤ 11) with
        | false => rw [h11] at this; exact .inr (.inl ⟨rfl, rfl, by rw [this]; rfl⟩)
        | true => rw [h11] at this; exact .inr (.inr ⟨rfl, rfl, by rw [this]; rfl⟩)
    clear kA HA HM HP HR HVB HKB HOB HPM
    rcases hcase with ⟨d7, hl⟩ | ⟨d7, d11, hl⟩ | ⟨d7, d11, hl⟩
    · rw [hl] at P2
      clear hl
      first
        | (go_region_with (first
          | (go_at_call 9; refine (P1.out _ (by assumption)).mono ?_; rintro e w5 ⟨rfl, hs5⟩)
          | (go_at_call 10; refine (P2.out _ (by assumption)).mono ?_; rintro e w6 ⟨rfl, hs6⟩)))
        | fail
      all_goals (go_wp2_with fail)
      all_goals go_meet
      all_goals exact ⟨rfl, hide (by assumption)⟩
    all_goals
      rw [hl] at P2
      clear hl
      go_region_held (fun w' => Since w3 w') (assumption) (first
          | (go_at_call 9; refine (P1.out _ (by assumption)).mono ?_; rintro e w5 ⟨rfl, hs5⟩)
          | (go_at_call 10; refine (P2.out _ (by assumption)).mono ?_; rintro e w6 ⟨rfl, hs6⟩))
      all_goals (go_wp2_with fail)
      all_goals go_meet
      all_goals exact ⟨rfl, hide (by assumption)⟩
  case rest =>
    obtain ⟨rfl, hs⟩ := hcut
    have HS4 := hide (Since.trans HS3.out hs.out)
    have HO4 := hide (HO3.out.below hs.out (fun _ h _ => h.2))
    clear kA x0 x1 x2 x3 x4 P1 P2 hr0 hs HO3 HC HLT HM HP HLS
    go_upto_if 46 with fail
    go_cut [8, 9] (fun s8 s9 wx => Hid (Since W wx))
    case first =>
      by_cases hK : K = 0
      · subst hK
        have hpm := HPM.out rfl
        have hn2 := HN2.out
        rw [hpm, HLB.out] at hn2
        subst hn2
        have ho4 := HO4.out
        rw [hpm] at ho4
        have HO4' := hide ho4
        have HG := hide (eget_any _ A3 13 c3 (bytesE ⟨k, a, n, p, q⟩) _ HO4'.out (HOB.out rfl) (by omega))
        rw [HVB.out rfl, HKB.out rfl] at HG
        unfold Eff.val at HG
        clear hpm ho4 HO4 HPM HN2
        go_wp2_with fail
        refine HG.out.mono ?_
        rintro e w5 ⟨rfl, hb⟩
        have hs45 := Since.next HS4.out hb
        obtain ⟨W5, hW5⟩ : ∃ W5, W5 = w5.alloc (.cells #[.int .i64 k, .int .i64 a, .int .i64 n, .int .i64 p, .int .i64 q] 25) := ⟨_, rfl⟩
        have HD := hide (show Eff.At W5 w5.heap.size 0 ⟨k, a, n, p, q⟩ by rw [hW5]; exact eff_at_new w5 ⟨k, a, n, p, q⟩ 25)
        have hDl : w5.heap.size < W5.heap.size := by rw [hW5]; simp
        have HS5 := hide (show Since W W5 by rw [hW5]; exact hs45.alloc _)
        have HO5 := hide (show Row W5 _ A3 13 c3 _ by rw [hW5]; exact (HO4'.out.within.below hb (fun _ h _ => h.2)).alloc _)
        have HW5 := hide hW5
        clear hb hs45 hW5
        go_upto_region 9 with fail
        rw [← HW5.out]
        have kA := fun w' (h : Since W5 w') => (HA.out.later hAl (Since.trans HS5.out h))
        have kD := fun w' (h : Since W5 w') => (HD.out.later hDl h)
        have x0 := fun w' h => (kA w' h).1
        have x1 := fun w' h => (kA w' h).2.1
        have x2 := fun w' h => (kA w' h).2.2.1
        have x3 := fun w' h => (kA w' h).2.2.2.1
        have x4 := fun w' h => (kA w' h).2.2.2.2
        have y0 := fun w' h => (kD w' h).1
        have y1 := fun w' h => (kD w' h).2.1
        have y2 := fun w' h => (kD w' h).2.2.1
        have y3 := fun w' h => (kD w' h).2.2.2.1
        have y4 := fun w' h => (kD w' h).2.2.2.2
        simp only [Nat.zero_add] at x0 x1 x2 x3 x4 y0 y1 y2 y3 y4
        have hs2 : ∀ w', Since W5 w' → (convert 26 9 (.slice A3 13 c3)).run Tryd.prog w' = .ok (.string (strOfNums (bytesE ⟨k, a, n, p, q⟩))) w' := fun w' h => conv_row (HO5.out.within.below h (fun _ h _ => h.2))
        obtain ⟨U, HU⟩ : ∃ U, Hid (strOfNums (bytesE ⟨k, a, n, p, q⟩) = U) := ⟨_, rfl⟩
        rw [HU.out] at hs2
        have P2 := hide (fun w' (h : Since W5 w') => (HR.out (by first | rfl | trivial) w').mono fun e w2 hf => fresh_text h hf HLB.out HU.out)
        have hr0 := (Since.refl W5).drew
        have HBy := hide (fun w' (h : Since W5 w') => Since.trans HS5.out h)
        clear kA kD HU HLB HOB HVB HKB HR HA HBW HBx HO4' HO5 HS1 HS2 HS3 HS4 HS5 HD HG HH HOL HGD HN
        go_region_held (fun w' => Since W5 w') (assumption) (first
          | (go_at_call 12; refine (P2.out _ (by assumption)).mono ?_; rintro e w6 ⟨A6, c6, rfl, hs6, hsi6, hsr6, hst6⟩))
        all_goals go_wp2
        all_goals go_meet
        all_goals exact hide (HBy.out _ (by assumption))
      · have hkn : (K == 0) = false := beq_eq_false_iff_ne.mpr hK
        go_wp2
        go_meet
        exact HS4
    case rest =>
      have HS7 := hide hcut.out
      have HG := hide (fun W' (hs : Since W W') => eget_any _ A m c l W' (HH.out.below hs (fun _ h _ => Nat.lt_of_lt_of_le h HBW.out.size)) HOL.out hm)
      have HR := hide (fun W' (hs : Since W W') => refgete_any _ A m c l W' (HH.out.below hs (fun _ h _ => Nat.lt_of_lt_of_le h HBW.out.size)) HOL.out (by omega))
      have hcase : ((getE l).isSome = true ∧ getEK l = 0) ∨ ((getE l).isSome = false ∧ getEK l = 16) := by
        unfold getEK
        cases (getE l).isSome <;> simp
      unfold GotE at HR
      obtain ⟨vk, va, vn, vp, vq, hv⟩ : ∃ vk va vn vp vq, (valE l).val = .agg #[.int .i64 vk, .int .i64 va, .int .i64 vn, .int .i64 vp, .int .i64 vq] := ⟨_, _, _, _, _, rfl⟩
      have hqv : ∀ W, (Op.equalIn 10000 25 (.agg #[.int .i64 vk, .int .i64 va, .int .i64 vn, .int .i64 vp, .int .i64 vq]) (.agg #[.int .i64 vk, .int .i64 va, .int .i64 vn, .int .i64 vp, .int .i64 vq])).run Tryd.prog W = .ok true W := fun W => by
        have := eff_equal (valE l) (valE l) 9997 W
        rwa [decide_eq_true rfl, hv] at this
      rw [hv] at HG HR
      clear hcut HS1 HS2 HS3 HS4 HO4 HPM HLB HOB HVB HKB HN2 HA hq hv HH HOL HGD HN
      generalize (getE l).isSome = B at *
      generalize getEK l = K5 at *
      rcases hcase with ⟨rfl, rfl⟩ | ⟨rfl, rfl⟩
      all_goals
        go_wp2_with fail
        refine (HG.out _ HS7.out).mono ?_
        rintro e w8 ⟨rfl, hb⟩
        obtain ⟨W8, hW8⟩ : ∃ W8, W8 = w8.alloc (.cells #[.int .i64 vk, .int .i64 va, .int .i64 vn, .int .i64 vp, .int .i64 vq] 25) := ⟨_, rfl⟩
        have HD := hide (show Eff.At W8 w8.heap.size 0 ⟨vk, va, vn, vp, vq⟩ by rw [hW8]; exact eff_at_new w8 ⟨vk, va, vn, vp, vq⟩ 25)
        have hDl : w8.heap.size < W8.heap.size := by rw [hW8]; simp
        have HS8 := hide (show Since W W8 by rw [hW8]; exact (Since.next HS7.out hb).alloc _)
        have HW8 := hide hW8
        clear hb hW8
        go_wp2_with fail
        rw [← HW8.out]
        refine (HR.out _ HS8.out).mono ?_
        rintro e w9 ⟨rfl, hb⟩
        have hs89 : Since W8 w9 := hb
        have HB := hide (HBx.out _ ((Since.trans HS8.out hs89).alloc (.cells #[.int .i64 vk, .int .i64 va, .int .i64 vn, .int .i64 vp, .int .i64 vq] 25)))
        obtain ⟨x0, x1, x2, x3, x4⟩ := HD.out.later hDl (hs89.alloc (.cells #[.int .i64 vk, .int .i64 va, .int .i64 vn, .int .i64 vp, .int .i64 vq] 25))
        clear hb hs89 HG HR HD
        simp only [Nat.zero_add] at x0 x1 x2 x3 x4
        go_wp2
        go_ret
        exact ⟨rfl, HB.out⟩
end Go.Proofs.YtdlmpdhbehpmpaaDoor
