/-
  The walk of ChangeGets.
-/
import Derived.Test.YtfmddljljdoapaaChangeAlive
namespace Go.Proofs.Ytfmddljljdoapaa
open Go.RowKit
set_option linter.unusedVariables false

set_option maxRecDepth 100000 in
set_option maxHeartbeats 4000000 in
theorem chggets_walk (A : Option Addr) (m c : Nat) (l : List Int) (w : World) (h : Row w (· < w.heap.size) A m c (octs l)) (ho : Octs l) (hm : m ≤ 140737488351232) :
    Calls Try.prog 4 #[.slice A m c] w fun e w' => e = .returned (.bool true) ∧ Below w.heap.size w w' := by
  have H := hide h
  have HO := hide ho
  have HG := hide (fun W (hs : Since w W) => cget_any _ A m c l W (h.below hs (fun _ h _ => h)) ho hm)
  have HR := hide (fun W (hs : Since w W) => refgetc_any _ A m c l W (h.below hs (fun _ h _ => h)) ho (by omega))
  obtain ⟨U, HU⟩ : ∃ U, Hid (strOfNums l = U) := ⟨_, rfl⟩
  have hs1 : ∀ w', Since w w' → (convert 27 9 (.slice A m c)).run Try.prog w' = .ok (.string U) w' := fun w' hs => HU.out ▸ conv_row (h.below hs (fun _ h _ => h))
  have HC1 := hide hs1
  clear h ho hs1
  cases hgc : getC l with
  | none =>
    have hv : valC l = zeroC := by unfold valC; rw [hgc]; rfl
    have hk : getK l = 16 := by unfold getK; rw [hgc]; rfl
    have hq : ∀ W, (Op.equalIn 10000 25 (.agg #[.int .i64 0, .int .i64 0, .int .i64 0, .int .i64 0, .int .i64 0, .int .i64 0, .int .i64 0, .int .i64 0, .int .i64 0]) (.agg #[.int .i64 0, .int .i64 0, .int .i64 0, .int .i64 0, .int .i64 0, .int .i64 0, .int .i64 0, .int .i64 0, .int .i64 0])).run Try.prog W = .ok true W := fun W => by
      have := chg_equal zeroC zeroC W
      rwa [decide_eq_true rfl] at this
    have hz : zeroC.val = .agg #[.int .i64 0, .int .i64 0, .int .i64 0, .int .i64 0, .int .i64 0, .int .i64 0, .int .i64 0, .int .i64 0, .int .i64 0] := rfl
    unfold GotC at HR
    rw [hv, hk, hz] at HG
    rw [hv, hgc, hz, show (none : Option Chg).isSome = false from rfl] at HR
    clear hv hk hgc
    go_enter Try.func4, Try.ntmps4
    go_wp2_with fail
    refine (alive09 _).mono ?_
    rintro e w1 ⟨rfl, hb1⟩
    have HS1 := hide (show Since w w1 from hb1)
    clear hb1
    go_wp2_with fail
    refine (HG.out _ HS1.out).mono ?_
    rintro e w2 ⟨rfl, hb⟩
    obtain ⟨W2, hW2⟩ : ∃ W2, W2 = w2.alloc (.cells #[.int .i64 0, .int .i64 0, .int .i64 0, .int .i64 0, .int .i64 0, .int .i64 0, .int .i64 0, .int .i64 0, .int .i64 0] 25) := ⟨_, rfl⟩
    have HD := hide (show At W2 w2.heap.size 0 zeroC by rw [hW2]; exact at_new w2 zeroC 25)
    have hDl : w2.heap.size < W2.heap.size := by rw [hW2]; simp
    have HS2 := hide (show Since w W2 by rw [hW2]; exact (Since.next HS1.out hb).alloc _)
    have HW2 := hide hW2
    clear hb hW2
    go_wp2_with fail
    rw [← HW2.out]
    refine (HR.out _ HS2.out).mono ?_
    rintro e w3 ⟨rfl, hb⟩
    have hs23 : Since W2 w3 := hb
    have HB := hide (show Below w.heap.size w _ from (Since.next HS2.out hb).alloc (.cells #[.int .i64 0, .int .i64 0, .int .i64 0, .int .i64 0, .int .i64 0, .int .i64 0, .int .i64 0, .int .i64 0, .int .i64 0] 25))
    obtain ⟨x0, x1, x2, x3, x4, x5, x6, x7, x8⟩ := HD.out.later hDl (hs23.alloc (.cells #[.int .i64 0, .int .i64 0, .int .i64 0, .int .i64 0, .int .i64 0, .int .i64 0, .int .i64 0, .int .i64 0, .int .i64 0] 25))
    clear hb hs23
    simp only [zeroC] at x0 x1 x2 x3 x4 x5 x6 x7 x8
    go_wp2
    go_ret
    exact ⟨rfl, HB.out⟩
  | some x =>
    have hv : valC l = x := by unfold valC; rw [hgc]; rfl
    have hk : getK l = 0 := by unfold getK; rw [hgc]; rfl
    have hby := bytesC_getC HO.out hgc
    have hmc := (getC_some hgc).2.2.1
    have hok := getC_ok hgc
    have hl22 := (getC_some hgc).1
    have HP := hide (fun W => cput_any x hok W)
    rw [putM_yes hmc, putK_yes hmc, hby] at HP
    unfold GotC at HR
    rw [hv, hk] at HG
    rw [hv, hgc, show (some x).isSome = true from rfl] at HR
    have HL := hide hl22
    have HOK := hide hok
    clear hv hk hgc hby hmc hok hl22
    obtain ⟨r, s, t, k, a, b, n, p, q⟩ := x
    unfold Chg.val at HP HG HR
    have hq : ∀ W, (Op.equalIn 10000 25 (.agg #[.int .i64 r, .int .i64 s, .int .i64 t, .int .i64 k, .int .i64 a, .int .i64 b, .int .i64 n, .int .i64 p, .int .i64 q]) (.agg #[.int .i64 r, .int .i64 s, .int .i64 t, .int .i64 k, .int .i64 a, .int .i64 b, .int .i64 n, .int .i64 p, .int .i64 q])).run Try.prog W = .ok true W := fun W => by
      have := chg_equal ⟨r, s, t, k, a, b, n, p, q⟩ ⟨r, s, t, k, a, b, n, p, q⟩ W
      rwa [decide_eq_true rfl] at this
    go_enter Try.func4, Try.ntmps4
    go_wp2_with fail
    refine (alive09 _).mono ?_
    rintro e w1 ⟨rfl, hb1⟩
    have HS1 := hide (show Since w w1 from hb1)
    clear hb1
    go_wp2_with fail
    refine (HG.out _ HS1.out).mono ?_
    rintro e w2 ⟨rfl, hb⟩
    obtain ⟨W2, hW2⟩ : ∃ W2, W2 = w2.alloc (.cells #[.int .i64 r, .int .i64 s, .int .i64 t, .int .i64 k, .int .i64 a, .int .i64 b, .int .i64 n, .int .i64 p, .int .i64 q] 25) := ⟨_, rfl⟩
    have HD := hide (show At W2 w2.heap.size 0 ⟨r, s, t, k, a, b, n, p, q⟩ by rw [hW2]; exact at_new w2 ⟨r, s, t, k, a, b, n, p, q⟩ 25)
    have hDl : w2.heap.size < W2.heap.size := by rw [hW2]; simp
    have HS2 := hide (show Since w W2 by rw [hW2]; exact (Since.next HS1.out hb).alloc _)
    have HW2 := hide hW2
    clear hb hW2
    go_wp2_with fail
    rw [← HW2.out]
    refine (HR.out _ HS2.out).mono ?_
    rintro e w3 ⟨rfl, hb⟩
    obtain ⟨W3, hW3⟩ : ∃ W3, W3 = w3.alloc (.cells #[.int .i64 r, .int .i64 s, .int .i64 t, .int .i64 k, .int .i64 a, .int .i64 b, .int .i64 n, .int .i64 p, .int .i64 q] 25) := ⟨_, rfl⟩
    have HE := hide (show At W3 w3.heap.size 0 ⟨r, s, t, k, a, b, n, p, q⟩ by rw [hW3]; exact at_new w3 ⟨r, s, t, k, a, b, n, p, q⟩ 25)
    have hEl : w3.heap.size < W3.heap.size := by rw [hW3]; simp
    have hs23 : Since W2 W3 := by rw [hW3]; exact Since.alloc hb _
    have HS23 := hide hs23
    have HS3 := hide (Since.trans HS2.out hs23)
    have HW3 := hide hW3
    obtain ⟨x0, x1, x2, x3, x4, x5, x6, x7, x8⟩ := HD.out.later hDl hs23
    simp only [Nat.zero_add] at x0 x1 x2 x3 x4 x5 x6 x7 x8
    rw [hW3] at x0 x1 x2 x3 x4 x5 x6 x7 x8
    clear hb hW3 hs23
    go_wp2_with fail
    rw [← HW3.out]
    refine (HP.out _).mono ?_
    rintro e w4 hf
    obtain ⟨A4, c4, rfl, hown, hb⟩ := hf.row HL.out
    have hs34 : Since W3 w4 := hb
    have HB := hide (show Below w.heap.size w w4 from Since.trans HS3.out hs34)
    clear x0 x1 x2 x3 x4 x5 x6 x7 x8
    obtain ⟨x0, x1, x2, x3, x4, x5, x6, x7, x8⟩ := HD.out.later hDl (Since.trans HS23.out hs34)
    obtain ⟨y0, y1, y2, y3, y4, y5, y6, y7, y8⟩ := HE.out.later hEl hs34
    have hc1 := HC1.out _ (Since.trans HS3.out hs34)
    have hc4 : (convert 27 9 (.slice A4 22 c4)).run Try.prog w4 = .ok (.string U) w4 := HU.out ▸ conv_row (own_octs hown)
    clear hf hown hb hs34
    simp only [Nat.zero_add] at x0 x1 x2 x3 x4 x5 x6 x7 x8 y0 y1 y2 y3 y4 y5 y6 y7 y8
    go_wp2
    go_ret
    exact ⟨rfl, HB.out⟩
end Go.Proofs.Ytfmddljljdoapaa
