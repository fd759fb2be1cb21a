/-
  The statements' alive of layer 9: it is true.
-/
import Derived.Test.YtfmddljljdoapaaChangeP
namespace Go.Proofs.Ytfmddljljdoapaa
open Go.RowKit
set_option linter.unusedVariables false

def chN : Chg := ⟨1, 2, 3, 4, 0, 0, -5, 0, 0⟩
theorem chN_ok : chN.ok := by simp [Chg.ok, I64, chN]
theorem zeroC_ok : zeroC.ok := by simp [Chg.ok, I64, zeroC]
theorem valC_bytesC {x : Chg} (h : mayC x = true) (hn : I64 x.n) : valC (bytesC x) = x := by unfold valC; rw [getC_bytesC h hn]; rfl
theorem getK_bytesC {x : Chg} (h : mayC x = true) (hn : I64 x.n) : getK (bytesC x) = 0 := by unfold getK; rw [getC_bytesC h hn]; rfl

set_option maxHeartbeats 4000000 in
theorem alive09 (w : World) : Calls Try.prog 6 #[] w fun e w' => e = .returned (.bool true) ∧ Below w.heap.size w w' := by
  have hm : mayC chN = true := by decide
  have hz : mayC zeroC = false := by decide
  obtain ⟨W, hW⟩ : ∃ W, W = w.alloc (.cells #[.int .i64 1, .int .i64 2, .int .i64 3, .int .i64 4, .int .i64 0, .int .i64 0, .int .i64 (-5), .int .i64 0, .int .i64 0] 25) := ⟨_, rfl⟩
  have hWs : W.heap.size = w.heap.size + 1 := by rw [hW]; simp
  have hA : At W w.heap.size 0 chN := by rw [hW]; exact at_new w chN 25
  have HA := hide hA
  have HBW := hide (show Below w.heap.size w W by rw [hW]; exact (Below.refl _ w).alloc (Nat.le_refl _) _)
  have HW := hide hW
  have hAl : w.heap.size < W.heap.size := by omega
  have HP := hide (fun W => cput_any chN chN_ok W)
  rw [putM_yes hm, putK_yes hm] at HP
  have HL := hide (bytesC_len chN)
  have HOB := hide (bytesC_octs hm)
  have HV := hide (valC_bytesC hm chN_ok.2.2.2.2.2.2.1)
  have HK := hide (getK_bytesC hm chN_ok.2.2.2.2.2.2.1)
  have HZ := hide (putK_no hz)
  have HCV := hide (show chN.val = .agg #[.int .i64 1, .int .i64 2, .int .i64 3, .int .i64 4, .int .i64 0, .int .i64 0, .int .i64 (-5), .int .i64 0, .int .i64 0] from rfl)
  have hq : ∀ W, (Op.equalIn 10000 25 (.agg #[.int .i64 1, .int .i64 2, .int .i64 3, .int .i64 4, .int .i64 0, .int .i64 0, .int .i64 (-5), .int .i64 0, .int .i64 0]) (.agg #[.int .i64 1, .int .i64 2, .int .i64 3, .int .i64 4, .int .i64 0, .int .i64 0, .int .i64 (-5), .int .i64 0, .int .i64 0])).run Try.prog W = .ok true W := fun W => by
    have := chg_equal chN chN W
    rwa [decide_eq_true rfl] at this
  obtain ⟨x0, x1, x2, x3, x4, x5, x6, x7, x8⟩ := HA.out.later hAl (Since.refl W)
  clear hA hW hWs hm hz
  go_enter Try.func6, Try.ntmps6
  go_wp2_with fail
  rw [← HW.out]
  refine (HP.out _).mono ?_
  rintro e w1 hf
  obtain ⟨A1, c1, rfl, hown, hb⟩ := hf.row HL.out
  have HS1 := hide (show Since W w1 from hb)
  have HO := hide hown
  clear hf hown hb HP x0 x1 x2 x3 x4 x5 x6 x7 x8
  go_wp2_with fail
  refine (cget_any _ A1 22 c1 (bytesC chN) _ (own_octs HO.out) HOB.out (by omega)).mono ?_
  rintro e w2 ⟨rfl, hb⟩
  rw [HV.out, HK.out, HCV.out]
  have HS2 := hide (Since.trans HS1.out (show Since w1 w2 from hb))
  obtain ⟨W2, hW2⟩ : ∃ W2, W2 = w2.alloc (.cells #[.int .i64 1, .int .i64 2, .int .i64 3, .int .i64 4, .int .i64 0, .int .i64 0, .int .i64 (-5), .int .i64 0, .int .i64 0] 25) := ⟨_, rfl⟩
  have HD := hide (show At W2 w2.heap.size 0 chN by rw [hW2]; exact at_new w2 chN 25)
  have hDl : w2.heap.size < W2.heap.size := by rw [hW2]; simp
  have HS3 := hide (show Since W W2 by rw [hW2]; exact HS2.out.alloc _)
  have HW2 := hide hW2
  clear hb hW2 HO HOB HV HK HL
  go_wp2_with fail
  rw [← HW2.out]
  refine (call_any (fun _ => True) none 0 0 [] _ (RowK.nil _ _ _ _) (by simp) (by omega)).mono ?_
  rintro e w3 hf
  obtain ⟨A3, c3, rfl, hown, hb⟩ := hf.row (n := 1) rfl
  have HK3 := hide (show allK [] = 0 from rfl)
  rw [HK3.out]
  have HS4 := hide (Since.trans HS3.out (show Since W2 w3 from hb))
  obtain ⟨x0, x1, x2, x3, x4, x5, x6, x7, x8⟩ := HA.out.later hAl HS4.out
  obtain ⟨y0, y1, y2, y3, y4, y5, y6, y7, y8⟩ := HD.out.later hDl (show Since W2 w3 from hb)
  clear hf hown hb
  go_wp2_with fail
  refine (ccheck_any zeroC zeroC_ok _).mono ?_
  rintro e w4 ⟨rfl, hb⟩
  rw [HZ.out]
  have HB := hide (HBW.out.trans (Below.mono (Since.next HS4.out hb) HBW.out.size))
  go_wp2
  go_ret
  exact ⟨rfl, HB.out⟩
end Go.Proofs.Ytfmddljljdoapaa
