/-
  The statements' alive of layer 10: it is true.
-/
import Derived.Test.YtdlmpdhbehpmpaaDoorEffectP
import Derived.Test.YtdlmpdhbehpmpaaDoorEffPut
namespace Go.Proofs.YtdlmpdhbehpmpaaDoor
open Go.RowKit
set_option linter.unusedVariables false

def efA : Eff := ⟨7, 0, 0, 0, 0⟩
def efB : Eff := ⟨1, 0, 0, 0, 0⟩
def efC : Eff := ⟨3, 0, -1, 0, 0⟩
theorem efC_ok : efC.ok := by simp [Eff.ok, I64, efC]
theorem efC_text : textE efC = [114, 101, 108, 101, 97, 115, 101, 32, 48, 32, 45, 49] := by
  have h0 : Lib.itoa 0 = [48] := by rw [Lib.itoa, if_neg (by omega), show (0 : Int).toNat = 0 from rfl, Lib.decDigits_one (by omega)]; rfl
  have h1 : Lib.itoa (-1) = [45, 49] := by rw [Lib.itoa, if_pos (by omega), show (-1 : Int).natAbs = 1 from rfl, Lib.decDigits_one (by omega)]; rfl
  show wordE 3 ++ [32] ++ Lib.itoa 0 ++ [32] ++ Lib.itoa (-1) ++ (if (0 : Int) = 0 ∧ (0 : Int) = 0 then [] else [32] ++ textId 0 0) = _
  rw [h0, h1, if_pos ⟨rfl, rfl⟩]
  rfl

set_option maxHeartbeats 4000000 in
theorem alive10 (w : World) (hg : Good w) : Calls Tryd.prog 6 #[] w fun e w' => e = .returned (.bool true) ∧ Below w.heap.size w w' := by
  have hm : codeE efC = 0 := by decide
  obtain ⟨V, hV⟩ : ∃ V, V = w.alloc (.cells #[.int .i64 7, .int .i64 0, .int .i64 0, .int .i64 0, .int .i64 0, .int .i64 1, .int .i64 0, .int .i64 0, .int .i64 0, .int .i64 0] 25) := ⟨_, rfl⟩
  obtain ⟨W, hW⟩ : ∃ W, W = V.alloc (.cells #[.int .i64 0, .slice (some ⟨w.heap.size, 0, none⟩) 2 2] 42) := ⟨_, rfl⟩
  have hVs : V.heap.size = w.heap.size + 1 := by rw [hV]; simp
  have hWs : W.heap.size = w.heap.size + 1 + 1 := by rw [hW, ← hVs]; simp
  have hR0 : RowK V (fun _ => True) 5 (some ⟨w.heap.size, 0, none⟩) 2 2 (effs [efA, efB]) := by rw [hV]; exact effs_new w [efA, efB] _ 2 25 rfl rfl (by omega)
  have HV := hide (show Below w.heap.size w V by rw [hV]; exact (Below.refl _ w).alloc (Nat.le_refl _) _)
  have HR := hide (show RowK W (fun b => True ∧ b < V.heap.size) 5 (some ⟨w.heap.size, 0, none⟩) 2 2 (effs [efA, efB]) by rw [hW]; exact (hR0.inb (by omega)).alloc (by omega) _)
  have HO := hide (show Blk W (w.heap.size + 1) 42 #[.int .i64 0, .slice (some ⟨w.heap.size, 0, none⟩) 2 2] by rw [hW, ← hVs]; exact Blk.new V _ _)
  have HBW := hide (show Below w.heap.size w W by rw [hW]; exact HV.out.alloc HV.out.size _)
  have HWd := hide (show W = (w.alloc (.cells #[.int .i64 7, .int .i64 0, .int .i64 0, .int .i64 0, .int .i64 0, .int .i64 1, .int .i64 0, .int .i64 0, .int .i64 0, .int .i64 0] 25)).alloc (.cells #[.int .i64 0, .slice (some ⟨w.heap.size, 0, none⟩) 2 2] 42) by rw [hW, hV])
  have HVs := hide hVs
  have HWs := hide hWs
  clear hR0 hVs hWs hW hV
  have HP := hide (fun W => eput_any efC efC_ok W)
  rw [putEM_yes hm, hm] at HP
  have HL := hide (bytesE_len efC)
  have HOB := hide (bytesE_octs hm)
  have HVL := hide (valE_bytesE hm efC_ok.2.2.1)
  have HK := hide (getEK_bytesE hm efC_ok.2.2.1)
  have HCV := hide (show efC.val = .agg #[.int .i64 3, .int .i64 0, .int .i64 (-1), .int .i64 0, .int .i64 0] from rfl)
  have HT := hide (fun W (hs : Since w W) => etext_any efC efC_ok W (hg.later W hs))
  rw [efC_text] at HT
  have hq : ∀ W, (Op.equalIn 10000 25 (.agg #[.int .i64 3, .int .i64 0, .int .i64 (-1), .int .i64 0, .int .i64 0]) (.agg #[.int .i64 3, .int .i64 0, .int .i64 (-1), .int .i64 0, .int .i64 0])).run Tryd.prog W = .ok true W := fun W => by
    have := eff_equal efC efC 9997 W
    rwa [decide_eq_true rfl] at this
  have hstr : (txt [114, 101, 108, 101, 97, 115, 101, 32, 48, 32, 45, 49]).toList = [114, 101, 108, 101, 97, 115, 101, 32, 48, 32, 45, 49] := by rw [ByteArray.toList_eq]; rfl
  clear hm
  go_enter Tryd.func6, Tryd.ntmps6
  go_wp2_with fail
  rw [← HWd.out]
  refine (HP.out _).mono ?_
  rintro e w1 hf
  obtain ⟨A1, c1, rfl, hown, hb⟩ := hf.row HL.out
  have HS1 := hide (show Since W w1 from hb)
  have HO1 := hide hown
  clear hf hown hb HP
  go_wp2_with fail
  refine (eget_any _ A1 13 c1 (bytesE efC) _ (own_octs HO1.out) HOB.out (by omega)).mono ?_
  rintro e w2 ⟨rfl, hb⟩
  rw [HVL.out, HK.out, HCV.out]
  have HS2 := hide (Since.trans HS1.out (show Since w1 w2 from hb))
  obtain ⟨W2, hW2⟩ : ∃ W2, W2 = w2.alloc (.cells #[.int .i64 3, .int .i64 0, .int .i64 (-1), .int .i64 0, .int .i64 0] 25) := ⟨_, rfl⟩
  have HD := hide (show Eff.At W2 w2.heap.size 0 efC by rw [hW2]; exact eff_at_new w2 efC 25)
  have hDl : w2.heap.size < W2.heap.size := by rw [hW2]; simp
  have HS3 := hide (show Since W W2 by rw [hW2]; exact HS2.out.alloc _)
  have HW2 := hide hW2
  obtain ⟨o0, o1⟩ := (⟨((HO.out.below HS3.out HO.out.lt).cell 0).trans rfl, ((HO.out.below HS3.out HO.out.lt).cell 1).trans rfl⟩ : W2.cell? ⟨w.heap.size + 1, 0, none⟩ = some (.int .i64 0) ∧ W2.cell? ⟨w.heap.size + 1, 1, none⟩ = some (.slice (some ⟨w.heap.size, 0, none⟩) 2 2))
  rw [hW2] at o0 o1
  clear hb hW2 HO1 HOB HVL HK HL
  go_wp2_with fail
  rw [← HW2.out]
  refine (ewant_any _ 0 _ 2 2 [efA, efB] true _ (HR.out.below (by omega) HS3.out (fun _ h hb => hb)) (by omega)).mono ?_
  rintro e w3 hf
  obtain ⟨A3, c3, rfl, -, hb⟩ := hf.row (k := 2) (by decide)
  have hs23 : Since W2 w3 := hb
  have HS4 := hide (Since.trans HS3.out hs23)
  have HS24 := hide hs23
  clear hf hb o0 o1 hs23
  obtain ⟨o0, o1⟩ := (⟨((HO.out.below HS4.out HO.out.lt).cell 0).trans rfl, ((HO.out.below HS4.out HO.out.lt).cell 1).trans rfl⟩ : w3.cell? ⟨w.heap.size + 1, 0, none⟩ = some (.int .i64 0) ∧ w3.cell? ⟨w.heap.size + 1, 1, none⟩ = some (.slice (some ⟨w.heap.size, 0, none⟩) 2 2))
  go_wp2_with fail
  refine (ewant_any _ 0 _ 2 2 [efA, efB] false _ (HR.out.below (by omega) HS4.out (fun _ h hb => Nat.lt_of_lt_of_le h.2 (by rw [HVs.out, HWs.out]; omega))) (by omega)).mono ?_
  rintro e w4 hf
  obtain ⟨A4, c4, rfl, -, hb⟩ := hf.row (k := 1) (by decide)
  have hs34 : Since w3 w4 := hb
  have HS5 := hide (Since.trans HS4.out hs34)
  obtain ⟨y0, y1, y2, y3, y4⟩ := HD.out.later hDl (Since.trans HS24.out hs34)
  simp only [Nat.zero_add, efC] at y0 y1 y2 y3 y4
  clear hf hb o0 o1 hs34
  go_wp2_with fail
  refine (HT.out _ (show Since w _ from HBW.out.trans (Below.mono HS5.out HBW.out.size))).mono ?_
  rintro e w5 ⟨rfl, hb⟩
  have HB := hide (HBW.out.trans (Below.mono (Since.next HS5.out hb) HBW.out.size))
  clear hb
  go_wp2
  go_ret
  exact ⟨rfl, HB.out⟩
end Go.Proofs.YtdlmpdhbehpmpaaDoor
