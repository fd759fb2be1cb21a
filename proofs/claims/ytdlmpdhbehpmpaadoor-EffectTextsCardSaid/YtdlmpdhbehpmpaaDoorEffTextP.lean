/-
  The program's contracts of layer 10: Text, and the words, which stand in an array.
-/
import Derived.Test.YtdlmpdhbehpmpaaDoorEffCheckP
import Derived.Test.YtdlmpdhbehpmpaaDoorIdentTextP
import Derived.Deep.DeepCutAuto
import Derived.Deep.Cut
import Derived.Deep.CutRange
namespace Go.Proofs.YtdlmpdhbehpmpaaDoor
open Go.RowKit
set_option linter.unusedVariables false

theorem fmt_any (n : Int) (w : World) (hg : Good w) (h0 : -9223372036854775808 ≤ n) (h1 : n ≤ 9223372036854775807) :
    Calls Tryd.prog 32 #[.int .i64 n, .int .i64 10] w fun e w' => e = .returned (.string (txt (Lib.itoa n))) ∧ Below w.heap.size w w' :=
  (Tryd.strconv_FormatInt_10 n h0 h1 w (good_tab hg)).mono fun e w' ⟨he, k, os, hw⟩ => ⟨he, by rw [hw]; exact below_laid w k os⟩
theorem wordE_no {k : Int} (h : ¬ (1 ≤ k ∧ k ≤ 11)) : wordE k = [63] := by
  unfold wordE
  repeat (first | rw [if_neg (by omega)] | rfl)
theorem wordE_short (k : Int) : (wordE k).length ≤ 9 := by
  unfold wordE
  repeat (first | (split; · simp) | simp)
set_option maxRecDepth 100000 in
set_option maxHeartbeats 4000000 in
theorem eword_any (k : Int) (w : World) : Calls Tryd.prog 30 #[.int .i64 k] w fun e w' => e = .returned (.string (txt (wordE k))) ∧ Below w.heap.size w w' := by
  have HB := hide (fun cs => (Below.refl w.heap.size w).alloc (Nat.le_refl _) (.cells cs 71))
  by_cases h : 1 ≤ k ∧ k ≤ 11
  · have hd : decide (1 ≤ k ∧ k ≤ 11) = true := decide_eq_true h
    have hk : k = 1 ∨ k = 2 ∨ k = 3 ∨ k = 4 ∨ k = 5 ∨ k = 6 ∨ k = 7 ∨ k = 8 ∨ k = 9 ∨ k = 10 ∨ k = 11 := by omega
    clear h
    rcases hk with rfl | rfl | rfl | rfl | rfl | rfl | rfl | rfl | rfl | rfl | rfl
    all_goals
      go_enter Tryd.func30, Tryd.ntmps30
      go_wp2_with fail
      refine (ewithin_any _ 1 11 _).mono ?_
      rintro e w' ⟨rfl, hw⟩
      subst hw
      rw [hd]
      go_wp2
      go_ret
      exact ⟨rfl, HB.out _⟩
  · have hd : decide (1 ≤ k ∧ k ≤ 11) = false := decide_eq_false h
    have E := hide (wordE_no h)
    clear h
    go_enter Tryd.func30, Tryd.ntmps30
    go_wp2_with fail
    refine (ewithin_any _ 1 11 _).mono ?_
    rintro e w' ⟨rfl, hw⟩
    subst hw
    rw [hd]
    go_wp2
    go_ret
    exact ⟨by rw [E.out]; rfl, HB.out _⟩

set_option maxRecDepth 100000 in
set_option maxHeartbeats 4000000 in
theorem etext_any (x : Eff) (hx : x.ok) (w : World) (hg : Good w) : Calls Tryd.prog 20 #[x.val] w fun e w' => e = .returned (.string (txt (textE x))) ∧ Below w.heap.size w w' := by
  obtain ⟨k, a, n, p, q⟩ := x
  obtain ⟨-, a0, n0, p0, q0⟩ : I64 k ∧ I64 a ∧ I64 n ∧ I64 p ∧ I64 q := hx
  unfold I64 at a0 n0 p0 q0
  have z0 : (txt (wordE k)).size ≤ 9 := by rw [txt_size]; exact wordE_short k
  have z1 : (txt (Lib.itoa a)).size ≤ 21 := by rw [txt_size]; exact itoa_len a0.1 a0.2
  have z2 : (txt (Lib.itoa n)).size ≤ 21 := by rw [txt_size]; exact itoa_len n0.1 n0.2
  have z3 : (txt (textId p q)).size ≤ 43 := by
    have l1 := itoa_len p0.1 p0.2
    have l2 := itoa_len q0.1 q0.2
    rw [txt_size]; unfold textId; rw [List.length_append, List.length_cons]; omega
  have e : txt (textE ⟨k, a, n, p, q⟩) = (if p = 0 ∧ q = 0 then txt (wordE k) ++ txt [32] ++ txt (Lib.itoa a) ++ txt [32] ++ txt (Lib.itoa n) else txt (wordE k) ++ txt [32] ++ txt (Lib.itoa a) ++ txt [32] ++ txt (Lib.itoa n) ++ (txt [32] ++ txt (textId p q))) := by
    unfold textE
    split
    · simp only [txt_app, List.append_nil]
    · simp only [txt_app, List.append_assoc]
  have HA := hide (Blk.new w 25 #[.int .i64 k, .int .i64 a, .int .i64 n, .int .i64 p, .int .i64 q])
  have HB := hide ((Below.refl w.heap.size w).alloc (Nat.le_refl _) (.cells #[.int .i64 k, .int .i64 a, .int .i64 n, .int .i64 p, .int .i64 q] 25))
  have HG := hide (fun w' h => hg.later w' h)
  have PW := hide (fun w' => eword_any k w')
  have PA := hide (fun w' hg => itoa_any a w' hg a0.1 a0.2)
  have PN := hide (fun w' hg => fmt_any n w' hg n0.1 n0.2)
  have PT := hide (fun w' hg => ptext_any p q w' hg p0.1 p0.2 q0.1 q0.2)
  have E := hide e
  clear e a0 n0 p0 q0 hg
  generalize txt (wordE k) = S0 at *
  generalize txt (Lib.itoa a) = SA at *
  generalize txt (Lib.itoa n) = SN at *
  generalize txt (textId p q) = SR at *
  have q1 : ¬ 9223372036854775807 < S0.size + 1 := by omega
  have q2 : ¬ 9223372036854775807 < S0.size + 1 + SA.size := by omega
  have q3 : ¬ 9223372036854775807 < S0.size + 1 + SA.size + 1 := by omega
  have q4 : ¬ 9223372036854775807 < S0.size + 1 + SA.size + 1 + SN.size := by omega
  have q5 : ¬ 9223372036854775807 < 1 + SR.size := by omega
  have q6 : ¬ 9223372036854775807 < S0.size + 1 + SA.size + 1 + SN.size + (1 + SR.size) := by omega
  clear z0 z1 z2 z3
  unfold Eff.val
  simp only
  go_enter Tryd.func20, Tryd.ntmps20
  go_wp2_with fail
  obtain ⟨w1, hw1⟩ : ∃ w1, w1 = w.alloc (.cells #[.int .i64 k, .int .i64 a, .int .i64 n, .int .i64 p, .int .i64 q] 25) := ⟨_, rfl⟩
  rw [← hw1] at HA HB ⊢
  have hb : ∀ w', Since w1 w' → w'.cell? ⟨w.heap.size, 0, none⟩ = some (.int .i64 k) ∧ w'.cell? ⟨w.heap.size, 1, none⟩ = some (.int .i64 a) ∧ w'.cell? ⟨w.heap.size, 2, none⟩ = some (.int .i64 n) ∧ w'.cell? ⟨w.heap.size, 3, none⟩ = some (.int .i64 p) ∧ w'.cell? ⟨w.heap.size, 4, none⟩ = some (.int .i64 q) := fun w' h => by
    have k := HA.out.below h HA.out.lt
    exact ⟨(k.cell 0).trans rfl, (k.cell 1).trans rfl, (k.cell 2).trans rfl, (k.cell 3).trans rfl, (k.cell 4).trans rfl⟩
  have a0 := fun w' h => (hb w' h).1
  have a1 := fun w' h => (hb w' h).2.1
  have a2 := fun w' h => (hb w' h).2.2.1
  have HC := hide hb
  have P0 := hide (fun w' (h : Since w1 w') => (PW.out w').mono fun e w2 hh => And.intro hh.1 (h.next hh.2))
  have P1 := hide (fun w' (h : Since w1 w') => (PA.out w' (HG.out w' (HB.out.trans (Below.mono h HB.out.size)))).mono fun e w2 hh => And.intro hh.1 (h.next hh.2))
  have P2 := hide (fun w' (h : Since w1 w') => (PN.out w' (HG.out w' (HB.out.trans (Below.mono h HB.out.size)))).mono fun e w2 hh => And.intro hh.1 (h.next hh.2))
  have P3 := hide (fun w' (h : Since w1 w') => (PT.out w' (HG.out w' (HB.out.trans (Below.mono h HB.out.size)))).mono fun e w2 hh => And.intro hh.1 (h.next hh.2))
  have hr0 := (Since.refl w1).drew
  clear hb hw1 PW PA PN PT HA
  go_cut [3] (fun s3 wx => s3 = .string (S0 ++ txt [32] ++ SA ++ txt [32] ++ SN) ∧ Since w1 wx)
  case first =>
    go_region_held (fun w' => Since w1 w') (assumption) (first
      | (go_at_call 30; refine (P0.out _ (by assumption)).mono ?_; rintro e w5 ⟨rfl, hs5⟩)
      | (go_at_call 31; refine (P1.out _ (by assumption)).mono ?_; rintro e w5 ⟨rfl, hs5⟩)
      | (go_at_call 32; refine (P2.out _ (by assumption)).mono ?_; rintro e w5 ⟨rfl, hs5⟩))
    all_goals go_wp2
    all_goals go_meet
    all_goals exact ⟨rfl, hs5⟩
  case rest =>
    obtain ⟨rfl, hs⟩ := hcut
    obtain ⟨x0, x1, x2, x3, x4⟩ := HC.out _ hs
    have HS := hide hs
    clear a0 a1 a2 hr0 hs
    have hsz : (S0 ++ txt [32] ++ SA ++ txt [32] ++ SN).size = S0.size + 1 + SA.size + 1 + SN.size := by simp [ByteArray.size_append, txt_size]
    by_cases hz : p = 0 ∧ q = 0
    · obtain ⟨rfl, rfl⟩ := hz
      have e := E.out
      rw [if_pos ⟨rfl, rfl⟩] at e
      have HE := hide e
      clear E e hsz q1 q2 q3 q4 q5 q6
      generalize S0 ++ txt [32] ++ SA ++ txt [32] ++ SN = V at *
      go_wp2
      go_ret
      exact ⟨by rw [HE.out]; rfl, HB.out.trans (Below.mono HS.out HB.out.size)⟩
    · have e := E.out
      rw [if_neg hz] at e
      have HE := hide e
      have hq : ∀ W, (Op.equalIn 10000 23 (.agg #[.int .i64 p, .int .i64 q]) (.agg #[.int .i64 0, .int .i64 0])).run Tryd.prog W = .ok false W := fun W => by
        have := id_equal p q 0 0 9998 W
        rwa [decide_eq_false hz] at this
      have q7 : ¬ 9223372036854775807 < (S0 ++ txt [32] ++ SA ++ txt [32] ++ SN).size + (1 + SR.size) := by rw [hsz]; exact q6
      clear E e hsz hz q1 q2 q3 q4 q6
      generalize S0 ++ txt [32] ++ SA ++ txt [32] ++ SN = V at *
      go_wp2_with fail
      refine (P3.out _ HS.out).mono ?_
      rintro e w6 ⟨rfl, hs6⟩
      have HS6 := hide hs6
      clear hs6 x0 x1 x2 x3 x4 hq
      go_wp2
      go_ret
      exact ⟨by rw [HE.out]; rfl, HB.out.trans (Below.mono HS6.out HB.out.size)⟩
end Go.Proofs.YtdlmpdhbehpmpaaDoor
