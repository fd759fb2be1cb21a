/-
  The walk of EffectTexts.
-/
import Derived.Test.YtdlmpdhbehpmpaaDoorEffAlive
import Derived.Test.YtdlmpdhbehpmpaaDoorIdentText
import Derived.Test.YtdlmpdhbehpmpaaDoorSince
import Derived.Deep.RegionHeld
import Derived.Deep.DeepCutAuto
import Derived.Deep.Cut
import Derived.Deep.CutRange
namespace Go.Proofs.YtdlmpdhbehpmpaaDoor
open Go.RowKit
set_option linter.unusedVariables false

theorem wordE_len (k : Int) : (wordE k).length ≤ 9 := by
  unfold wordE
  repeat (first | (split; · decide) | decide)
theorem kind_one (k : Int) (h1 : 1 ≤ k) (h2 : k ≤ 11) : k = 1 ∨ k = 2 ∨ k = 3 ∨ k = 4 ∨ k = 5 ∨ k = 6 ∨ k = 7 ∨ k = 8 ∨ k = 9 ∨ k = 10 ∨ k = 11 := by omega
theorem wordE_none (k : Int) (h : k < 1 ∨ 11 < k) : wordE k = [63] := by
  unfold wordE
  repeat (first | rw [if_neg (by omega)] | rfl)

set_option maxRecDepth 100000 in
set_option maxHeartbeats 4000000 in
theorem efftexts_walk (x : Eff) (hx : x.ok) (w : World) (hg : Good w) :
    Calls Tryd.prog 5 #[x.val] w fun e w' => e = .returned (.bool true) ∧ Below w.heap.size w w' := by
  obtain ⟨k, a, n, p, q⟩ := x
  obtain ⟨W, hW⟩ : ∃ W, W = w.alloc (.cells #[.int .i64 k, .int .i64 a, .int .i64 n, .int .i64 p, .int .i64 q] 25) := ⟨_, rfl⟩
  have hA : Eff.At W w.heap.size 0 ⟨k, a, n, p, q⟩ := by rw [hW]; exact eff_at_new w ⟨k, a, n, p, q⟩ 25
  have hAl : w.heap.size < W.heap.size := by rw [hW]; simp
  have HA := hide hA
  have HBW := hide (show Below w.heap.size w W by rw [hW]; exact (Below.refl _ w).alloc (Nat.le_refl _) _)
  have HGD := hide (show ∀ W', Since W W' → Good W' from fun W' h => hg.later W' (HBW.out.trans (Below.mono h HBW.out.size)))
  have HW := hide hW
  have HT := hide (fun W' (hs : Since W W') => etext_any ⟨k, a, n, p, q⟩ hx W' (HGD.out W' hs))
  obtain ⟨-, a0, n0, p0, q0⟩ : I64 k ∧ I64 a ∧ I64 n ∧ I64 p ∧ I64 q := hx
  have HDA := hide (fun w' => refdec_any a w' a0.1 a0.2)
  have HDN := hide (fun w' => refdec_any n w' n0.1 n0.2)
  have HTX := hide (fun w' => reftext_any p q w' p0.1 p0.2 q0.1 q0.2)
  have la := itoa_len a0.1 a0.2
  have ln := itoa_len n0.1 n0.2
  have HBx := hide (fun w' (h : Since W w') => HBW.out.trans (Below.mono h HBW.out.size))
  have z0 : (txt (wordE k)).size ≤ 9 := by rw [txt_size]; exact wordE_len k
  have z1 : (txt (Lib.itoa a)).size ≤ 21 := by rw [txt_size]; exact la
  have z2 : (txt (Lib.itoa n)).size ≤ 21 := by rw [txt_size]; exact ln
  have z3 : (txt (textId p q)).size ≤ 43 := by
    have l1 := itoa_len p0.1 p0.2
    have l2 := itoa_len q0.1 q0.2
    rw [txt_size]; unfold textId; rw [List.length_append, List.length_cons]; omega
  have e : txt (textE ⟨k, a, n, p, q⟩) = (if p = 0 ∧ q = 0 then txt (wordE k) ++ txt [32] ++ txt (Lib.itoa a) ++ txt [32] ++ txt (Lib.itoa n) else txt (wordE k) ++ txt [32] ++ txt (Lib.itoa a) ++ txt [32] ++ txt (Lib.itoa n) ++ txt [32] ++ txt (textId p q)) := by
    unfold textE
    split
    · simp only [txt_app, List.append_nil]
    · simp only [txt_app, List.append_assoc]
  have E := hide e
  have HWK := hide (show ∀ S, wordE k = S → txt (wordE k) = txt S from fun S h => by rw [h])
  have HK0 := hide (show ∀ S, txt (wordE k) = S → Value.string S = Value.string (txt (wordE k)) from fun S h => by rw [h])
  have HWN := hide (wordE_none k)
  clear hA hW e la ln a0 n0 p0 q0
  unfold Eff.val at HT
  unfold Eff.val
  generalize txt (textE ⟨k, a, n, p, q⟩) = TX at *
  generalize txt (Lib.itoa a) = SA at *
  generalize txt (Lib.itoa n) = SN at *
  generalize txt (textId p q) = SR at *
  go_enter Tryd.func5, Tryd.ntmps5
  go_wp2_with fail
  rw [← HW.out]
  refine (alive10 _ (HGD.out _ (Since.refl _))).mono ?_
  rintro e w1 ⟨rfl, hb1⟩
  have HS1 := hide (show Since W w1 from hb1)
  clear hb1
  go_upto_region 5 with fail
  have hB2 := Blk.new w1 47 #[.string ⟨#[63]⟩, .string ⟨#[114, 101, 115, 101, 114, 118, 101]⟩, .string ⟨#[97, 100, 106, 117, 115, 116]⟩, .string ⟨#[114, 101, 108, 101, 97, 115, 101]⟩, .string ⟨#[97, 117, 116, 104, 111, 114, 105, 122, 101]⟩, .string ⟨#[108, 97, 98, 101, 108]⟩, .string ⟨#[112, 105, 99, 107]⟩, .string ⟨#[109, 97, 105, 108]⟩, .string ⟨#[114, 101, 99, 101, 105, 112, 116]⟩, .string ⟨#[99, 97, 112, 116, 117, 114, 101]⟩, .string ⟨#[114, 101, 112, 97, 121]⟩, .string ⟨#[100, 105, 115, 112, 97, 116, 99, 104]⟩]
  have hS2 := (Since.refl w1).alloc (.cells #[.string ⟨#[63]⟩, .string ⟨#[114, 101, 115, 101, 114, 118, 101]⟩, .string ⟨#[97, 100, 106, 117, 115, 116]⟩, .string ⟨#[114, 101, 108, 101, 97, 115, 101]⟩, .string ⟨#[97, 117, 116, 104, 111, 114, 105, 122, 101]⟩, .string ⟨#[108, 97, 98, 101, 108]⟩, .string ⟨#[112, 105, 99, 107]⟩, .string ⟨#[109, 97, 105, 108]⟩, .string ⟨#[114, 101, 99, 101, 105, 112, 116]⟩, .string ⟨#[99, 97, 112, 116, 117, 114, 101]⟩, .string ⟨#[114, 101, 112, 97, 121]⟩, .string ⟨#[100, 105, 115, 112, 97, 116, 99, 104]⟩] 47)
  generalize w1.alloc _ = w2 at *
  have HS2 := hide (Since.trans HS1.out hS2)
  have HB2 := hide hB2
  obtain ⟨x0, -, -, -, -⟩ := HA.out.later hAl HS2.out
  simp only at x0
  clear hB2 hS2 HS1
  go_cut [15] (fun s15 wx => s15 = .bool (decide (1 ≤ k ∧ k ≤ 11)) ∧ w2 = wx)
  case first =>
    by_cases h1 : 1 ≤ k
    · have d1 : decide (1 ≤ k) = true := decide_eq_true h1
      by_cases h2 : k ≤ 11
      · have d2 : decide (k ≤ 11) = true := decide_eq_true h2
        have e : decide (1 ≤ k ∧ k ≤ 11) = true := decide_eq_true ⟨h1, h2⟩
        have E1 := hide e
        clear e
        go_wp2
        go_meet
        exact ⟨by rw [E1.out], rfl⟩
      · have d2 : decide (k ≤ 11) = false := decide_eq_false h2
        have e : decide (1 ≤ k ∧ k ≤ 11) = false := decide_eq_false (by omega)
        have E1 := hide e
        clear e
        go_wp2
        go_meet
        exact ⟨by rw [E1.out], rfl⟩
    · have d1 : decide (1 ≤ k) = false := decide_eq_false h1
      have e : decide (1 ≤ k ∧ k ≤ 11) = false := decide_eq_false (by omega)
      have E1 := hide e
      clear e
      go_wp2
      go_meet
      exact ⟨by rw [E1.out], rfl⟩
  case rest =>
    obtain ⟨rfl, rfl⟩ := hcut
    go_upto_if 15 with fail
    go_cut [4] (fun s4 wx => s4 = .string (txt (wordE k)) ∧ w2 = wx)
    case first =>
      by_cases hk : 1 ≤ k ∧ k ≤ 11
      · have d : decide (1 ≤ k ∧ k ≤ 11) = true := decide_eq_true hk
        rw [d]
        have b := HB2.out.cell
        clear d HWK HK0 HWN
        rcases kind_one k hk.1 hk.2 with rfl | rfl | rfl | rfl | rfl | rfl | rfl | rfl | rfl | rfl | rfl
        · have b := (b 1).trans rfl
          go_wp2
          go_meet
          exact ⟨rfl, rfl⟩
        · have b := (b 2).trans rfl
          go_wp2
          go_meet
          exact ⟨rfl, rfl⟩
        · have b := (b 3).trans rfl
          go_wp2
          go_meet
          exact ⟨rfl, rfl⟩
        · have b := (b 4).trans rfl
          go_wp2
          go_meet
          exact ⟨rfl, rfl⟩
        · have b := (b 5).trans rfl
          go_wp2
          go_meet
          exact ⟨rfl, rfl⟩
        · have b := (b 6).trans rfl
          go_wp2
          go_meet
          exact ⟨rfl, rfl⟩
        · have b := (b 7).trans rfl
          go_wp2
          go_meet
          exact ⟨rfl, rfl⟩
        · have b := (b 8).trans rfl
          go_wp2
          go_meet
          exact ⟨rfl, rfl⟩
        · have b := (b 9).trans rfl
          go_wp2
          go_meet
          exact ⟨rfl, rfl⟩
        · have b := (b 10).trans rfl
          go_wp2
          go_meet
          exact ⟨rfl, rfl⟩
        · have b := (b 11).trans rfl
          go_wp2
          go_meet
          exact ⟨rfl, rfl⟩
      · have d : decide (1 ≤ k ∧ k ≤ 11) = false := decide_eq_false hk
        have HW0 := hide (HWN.out (by omega))
        rw [d]
        go_wp2
        go_meet
        exact ⟨by rw [HW0.out]; rfl, rfl⟩
    case rest =>
      obtain ⟨rfl, rfl⟩ := hcut
      clear HWK HK0 HWN HB2
      generalize txt (wordE k) = S0 at *
      have q1 : ¬ 9223372036854775807 < S0.size + 1 := by omega
      have q2 : ¬ 9223372036854775807 < S0.size + 1 + SA.size := by omega
      have q3 : ¬ 9223372036854775807 < S0.size + 1 + SA.size + 1 := by omega
      have q4 : ¬ 9223372036854775807 < S0.size + 1 + SA.size + 1 + SN.size := by omega
      have q5 : ¬ 9223372036854775807 < S0.size + 1 + SA.size + 1 + SN.size + 1 := by omega
      have q6 : ¬ 9223372036854775807 < S0.size + 1 + SA.size + 1 + SN.size + 1 + SR.size := by omega
      clear z0 z1 z2 z3 x0
      go_upto_region 7 with fail
      have kA := fun w' (h : Since w2 w') => (HA.out.later hAl (Since.trans HS2.out h))
      have x1 := fun w' h => (kA w' h).2.1
      have x2 := fun w' h => (kA w' h).2.2.1
      simp only [Nat.zero_add] at x1 x2
      have P1 := hide (fun w' (h : Since w2 w') => (HDA.out w').mono fun e w2 hh => And.intro hh.1 (Since.next h hh.2))
      have P2 := hide (fun w' (h : Since w2 w') => (HDN.out w').mono fun e w2 hh => And.intro hh.1 (Since.next h hh.2))
      have hr0 := (Since.refl w2).drew
      go_cut [4] (fun s4 wx => s4 = .string (S0 ++ txt [32] ++ SA ++ txt [32] ++ SN) ∧ Hid (Since w2 wx))
      case first =>
        clear HT HDA HDN HTX kA HGD HBx E
        go_region_held (fun w' => Since w2 w') (assumption) (first
          | (go_at_call_of 18 a; refine (P1.out _ (by assumption)).mono ?_; rintro e w5 ⟨rfl, hs5⟩)
          | (go_at_call_of 18 n; refine (P2.out _ (by assumption)).mono ?_; rintro e w5 ⟨rfl, hs5⟩))
        all_goals (go_wp2_with fail)
        all_goals go_meet
        all_goals exact ⟨rfl, hide (by assumption)⟩
      case rest =>
        obtain ⟨rfl, hs⟩ := hcut
        have HS3 := hide (Since.trans HS2.out hs.out)
        have HSx := hide hs.out
        clear x1 x2 P1 P2 hr0 kA hs
        by_cases hz : p = 0 ∧ q = 0
        · obtain ⟨rfl, rfl⟩ := hz
          have e := E.out
          rw [if_pos ⟨rfl, rfl⟩] at e
          obtain ⟨x0, x1, x2, x3, x4⟩ := HA.out.later hAl HS3.out
          simp only [Nat.zero_add] at x0 x1 x2 x3 x4
          have HTT := hide (HT.out _ HS3.out)
          rw [e] at HTT
          generalize S0 ++ txt [32] ++ SA ++ txt [32] ++ SN = V at *
          clear e E HT HTX HDA HDN
          go_wp2_with fail
          refine HTT.out.mono ?_
          rintro e w7 ⟨rfl, hb⟩
          have HB := hide (HBx.out _ (Since.next HS3.out hb))
          clear hb x0 x1 x2 x3 x4
          go_wp2
          go_ret
          exact ⟨by simp, HB.out⟩
        · have e := E.out
          rw [if_neg hz] at e
          have hq : ∀ W, (Op.equalIn 10000 23 (.agg #[.int .i64 p, .int .i64 q]) (.agg #[.int .i64 0, .int .i64 0])).run Tryd.prog W = .ok false W := fun W => by
            have := id_equal p q 0 0 9998 W
            rwa [decide_eq_false hz] at this
          obtain ⟨x0, x1, x2, x3, x4⟩ := HA.out.later hAl HS3.out
          simp only [Nat.zero_add] at x0 x1 x2 x3 x4
          clear E HDA HDN hz
          have q7 : ¬ 9223372036854775807 < (S0 ++ txt [32] ++ SA ++ txt [32] ++ SN).size + 1 := by simp only [ByteArray.size_append, txt_size, List.length_cons, List.length_nil]; omega
          have q8 : ¬ 9223372036854775807 < (S0 ++ txt [32] ++ SA ++ txt [32] ++ SN).size + 1 + SR.size := by simp only [ByteArray.size_append, txt_size, List.length_cons, List.length_nil]; omega
          clear q1 q2 q3 q4 q5 q6
          generalize S0 ++ txt [32] ++ SA ++ txt [32] ++ SN = V at *
          have HE := hide e
          clear e
          unfold idOf at HTX
          go_wp2_with fail
          refine (HTX.out _).mono ?_
          rintro e w6 ⟨rfl, hb⟩
          have HS4 := hide (Since.next HS3.out hb)
          clear hb x0 x1 x2 x3 x4
          obtain ⟨x0, x1, x2, x3, x4⟩ := HA.out.later hAl HS4.out
          simp only [Nat.zero_add] at x0 x1 x2 x3 x4
          have HTT := hide (HT.out _ HS4.out)
          rw [HE.out] at HTT
          go_wp2_with fail
          refine HTT.out.mono ?_
          rintro e w7 ⟨rfl, hb⟩
          have HB := hide (HBx.out _ (Since.next HS4.out hb))
          clear hb x0 x1 x2 x3 x4
          go_wp2
          go_ret
          exact ⟨by simp; try rfl, HB.out⟩
end Go.Proofs.YtdlmpdhbehpmpaaDoor
