/-
  The walk of CrcSums: where the parts are together of at most 1,048,576 octets.
-/
import Derived.Test.YtimohlnghcbanaaCrcAlive
namespace Go.Proofs.Ytimohlnghcbanaa
open Go.RowKit
set_option linter.unusedVariables false

theorem sums_walk (A : Option Addr) (n c : Nat) (ls : List (List Int)) (w : World) (h : Parts w A n ls) (ht : ls.flatten.length ≤ 1048576) :
    Calls Try.prog 3 #[.slice A n c] w fun e w' => e = .returned (.bool true) ∧ Below w.heap.size w w' := by
  obtain rfl : n = ls.length := h.1.symm
  obtain ⟨i5, hi, hz0, hz1, hz2⟩ := info_parts info5
  have HP := hide h
  have hb : ls.length ≤ 9223372036854775807 := h.2.1
  clear h
  go_enter Try.func3, Try.ntmps3
  go_wp2_with fail
  refine (alive03 _).mono ?_
  rintro e w1 ⟨rfl, hb1⟩
  have HB1 := hide hb1
  clear hb1
  go_wp2
  go_loopw [3, 4, 5] (fun v s i wr => ∃ (m j : Nat), j ≤ ls.length ∧ m < 4294967296 ∧ s = .int .u32 (m : Int) ∧ i = .int .i64 j ∧ Hid (m = crc (ls.take j).flatten) ∧ Hid (∃ A' c', v = .slice A' (ls.take j).flatten.length c') ∧ Hid (wr.ownsRow w.heap.size 5 1 v (ls.take j).flatten.length (octs (ls.take j).flatten)) ∧ Hid (Below w.heap.size w wr)) (fun _ _ i _ => ls.length - (intOf i).toNat)
  case atStart => exact ⟨0, 0, Nat.zero_le _, by omega, rfl, rfl, hide (show 0 = crc (ls.take 0).flatten by rw [List.take_zero, List.flatten_nil, crc_nil]), hide ⟨none, 0, rfl⟩, hide ⟨rfl, .inl ⟨rfl, rfl⟩⟩, HB1⟩
  case round =>
    obtain ⟨m, j, hj, hm', rfl, rfl, hmr, hv, how, hbl⟩ := hrel
    clear HB1
    obtain ⟨A', c', rfl⟩ := hv.out
    by_cases hlt : j < ls.length
    · obtain ⟨b, o, a, c2, rfl, hcell0, hrow0, hoc⟩ := HP.out.at_ hlt
      have hblt : b < w.heap.size := World.block_lt_of_cell? w _ hcell0
      have hcell := (hbl.out.cell (p := ⟨b, o + j, none⟩) hblt).trans hcell0
      have hrow := hrow0.below hbl.out (fun _ _ h => h)
      have HR0 := hide hrow0
      have HC0 := hide hcell0
      clear hrow0 hcell0
      have hk : more m (ls.getD j []) = crc (ls.take (j + 1)).flatten := by
        rw [flat_take ls j hlt, ← more_crc (HP.out.octs_take j), ← hmr.out]
      have HK := hide hk
      have hft := flat_take ls j hlt
      have hln : (ls.take j).flatten.length + (ls.getD j []).length ≤ 1048576 := by
        refine Nat.le_trans ?_ ht
        rw [← List.length_append, ← hft]
        have e : ls.flatten = (ls.take (j + 1)).flatten ++ (ls.drop (j + 1)).flatten := by rw [← List.flatten_append, List.take_append_drop]
        rw [e, List.length_append]
        omega
      have HR := hide hrow
      have HO := hide hoc
      have HF := hide hft
      have HLN := hide (show (ls.take (j + 1)).flatten.length = (ls.take j).flatten.length + (ls.getD j []).length by rw [hft, List.length_append])
      clear hrow hoc hk hft hmr hv
      generalize ls.getD j [] = l at *
      generalize (ls.take j).flatten = f at *
      generalize hf2 : (ls.take (j + 1)).flatten = f' at *
      have HF2 := hide hf2
      clear hf2
      go_wp2_with (at_builtin; refine wpList_append_row _ rfl _ _ 24 rfl w.heap.size 5 i5 (.int .u8 0) 1 Try.underlying24 hi hz0 hz1 hz2 rfl _ f.length _ rfl how.out (fun _ => True) a l.length c2 (octs l) rfl HR.out (octs_one l) ?h1 ?h2 hbl.out.size ?_)
      case h1 => unfold maxLen; omega
      case h2 => omega
      intro v1 w1 hown1 hgr1 _
      have hf' := HF.out
      have HOW := hide (show w1.ownsRow w.heap.size 5 1 v1 f'.length (octs f') by rw [hf', List.length_append, ← octs_append]; exact hown1)
      have HV := hide (own_form HOW.out)
      have HB := hide (hbl.out.grown hgr1 hbl.out.size (fun g hg => (how.out.lt g hg).1))
      clear hown1 hgr1 how
      have hcell1 := (HB.out.cell (p := ⟨b, o + j, none⟩) hblt).trans HC0.out
      have HR1 := hide (HR0.out.below HB.out (fun _ _ h => h))
      obtain ⟨A1, c1, rfl⟩ := HV.out
      go_wp2_with fail
      refine (more_any _ m _ _ _ l _ hm' HR1.out HO.out).mono ?_
      rintro e w' ⟨rfl, rfl⟩
      go_wp2
      go_roundw
      case rel => exact ⟨more m l, j + 1, by omega, more_lt, rfl, by go_num, by rw [HF2.out]; exact HK, by rw [HF2.out, ← HLN.out]; exact HV, by rw [HF2.out, ← HLN.out]; exact HOW, HB⟩
      case measure => simp [intOf]; omega
    · obtain rfl : j = ls.length := by omega
      have hmr' := hmr.out
      have how' := how.out
      have hbl' := hbl.out
      clear hmr how hbl hv
      rw [List.take_length] at hmr' how' ⊢
      have HM := hide hmr'
      have HR := hide (Row.of_own how')
      have HB := hide hbl'
      have hoc := HP.out.octs_take ls.length
      rw [List.take_length] at hoc
      have HO := hide hoc
      have HPP := hide (HP.out.below hbl')
      clear hmr' how' hbl' HP hoc
      subst HM
      have HC := crc_lt (l := ls.flatten)
      generalize hM : crc ls.flatten = M at *
      have HM := hide hM.symm
      have HS := hide (sum_eq A ls.length c ls M wr hM.symm HPP.out)
      clear hM HPP
      have hfl : ls.flatten.length ≤ 9223372036854775807 := by omega
      generalize ls.flatten = f at *
      go_wp2_with fail
      refine (ref_eq _ _ _ _ f M _ HM.out HR.out HO.out).mono ?_
      rintro e w' ⟨rfl, rfl⟩
      go_wp2_with fail
      refine HS.out.mono ?_
      clear HS
      rintro e w' ⟨rfl, rfl⟩
      have HB2 := hide (HB.out.alloc HB.out.size (.cells #[.slice A' f.length c'] 24))
      go_wp2_with fail
      refine (sum_one _ _ _ _ f M _ _ HM.out HR.out HO.out).mono ?_
      rintro e w' ⟨rfl, rfl⟩
      go_wp2
      go_ret
      exact ⟨rfl, HB2.out⟩
end Go.Proofs.Ytimohlnghcbanaa
