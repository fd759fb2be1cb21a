/-
  The statements' own alive of stage 4.
-/
import Derived.Test.YtjakjnnhflfpkaaFrameP
namespace Go.Proofs.Ytjakjnnhflfpkaa
open Go.RowKit
set_option linter.unusedVariables false

theorem one_row (w : World) (x : Int) : Row (w.alloc (.cells #[.int .u8 x] 5)) (· < (w.alloc (.cells #[.int .u8 x] 5)).heap.size) (some ⟨w.heap.size, 0, none⟩) 1 1 (octs [x]) :=
  ⟨rfl, by omega, by omega, .inr ⟨w.heap.size, 0, rfl, by simp, fun j hj => by
    obtain rfl : j = 0 := by omega
    simp [octs]⟩⟩
theorem own_within {w : World} {base : Nat} {e : TypeId} {A : Option Addr} {n c : Nat} {xs : List Value} (h : w.ownsRow base e 1 (.slice A n c) n xs) : Row w (· < w.heap.size) A n c xs := (Row.of_own h).within.mono fun _ h => h.2

theorem alive04 (w : World) :
    Calls Try.prog 6 #[] w fun e w' => e = .returned (.bool true) ∧ Below w.heap.size w w' := by
  obtain ⟨i5, hi, hz0, hz1, hz2⟩ := info_parts info5
  have HR := hide (one_row w 9)
  have ho9 : Octs [9] := by intro n hn; simp at hn; omega
  have HO9 := hide ho9
  have hof : Octs (frameOf [9]) := frameOf_octs ho9
  have HOF := hide hof
  have HLF := hide (show (frameOf [9]).length = 8 from frameOf_len _)
  have HB0 := hide ((Below.refl w.heap.size w).alloc (Nat.le_refl _) (.cells #[.int .u8 9] 5))
  have hf1 : front (frameOf [9] ++ [1]) = 1 := front_frame [1] (by simp) (by simp)
  have hb1 : ((frameOf [9] ++ [1]).drop 2).take 1 = [9] := frameOf_body [9] [1]
  have ho1 : Octs (frameOf [9] ++ [1]) := hof.append (by intro n hn; simp at hn; omega)
  have ho2 : Octs (frameOf [9] ++ frameOf [9]) := hof.append hof
  have hfr : frames (frameOf [9] ++ frameOf [9]) = ([[9], [9]], 16) := frames_two (by simp) (by simp)
  have hl1 : (frameOf [9] ++ [1]).length = 9 := by rw [List.length_append, frameOf_len]; rfl
  have HF1 := hide hf1
  have HB1 := hide hb1
  have HO1 := hide ho1
  have HO2 := hide ho2
  have HFR := hide hfr
  have hfs : fsize 1 = 8 := rfl
  clear hf1 hb1 ho1 ho2 hfr ho9 hof hl1
  go_enter Try.func6, Try.ntmps6
  go_wp2_with fail
  refine (fput_any _ _ _ _ [9] _ HR.out HO9.out).mono ?_
  rintro e w1 ⟨-, -, hp, hbl⟩
  obtain ⟨A1, c1, rfl, hown⟩ := hp (by simp) (by simp)
  have hown : w1.ownsRow w.heap.size 5 1 (.slice A1 8 c1) 8 (octs (frameOf [9])) := own_mono hown (by simp)
  have HB := hide (HB0.out.trans (hbl.mono (by simp)))
  clear hbl hp HR HB0
  generalize frameOf [9] = f at *
  have HOW := hide hown
  clear hown
  show _
  have e8 : ([9] : List Int).length + 7 = 8 := rfl
  rw [e8]
  clear e8
  go_wp2_with (at_builtin; refine wpList_append_keep _ rfl _ _ 22 rfl w.heap.size 5 i5 (.int .u8 0) 1 Try.underlying22 hi hz0 hz1 hz2 rfl _ 8 _ rfl (HOW.out.alloc _) ⟨w1.heap.size, 0, none⟩ 1 1 [.int .u8 1] rfl rfl (cell_one_new _ _ _) (by simp [Value.oneCell']) ?h1 ?h2 ?h3 ?_)
  case h1 => unfold maxLen; omega
  case h2 => omega
  case h3 => have := HB.out.size; simp; omega
  intro v2 w2 hown2 hgr hold
  obtain ⟨A2, c2, rfl⟩ := own_form hown2
  rw [← octs_append'] at hown2
  have HB2 := hide ((HB.out.alloc HB.out.size (.cells #[.int .u8 1] 5)).grown hgr (by have := HB.out.size; simp; omega) (own_block HOW.out))
  have HW2 := hide hown2
  have HK := hide hold
  clear hown2 hgr hold HOW
  obtain ⟨g, cap, hv, hbg, hlt⟩ := HK.out.form (by omega)
  injection hv with hA _ hC
  subst hA hC
  have HGL := hide hlt
  clear hlt hbg
  go_wp2_with fail
  refine (fget_any A2 9 c2 (f ++ [1]) _ (own_within HW2.out) HO1.out (by omega)).mono ?_
  rintro e w3 ⟨-, hg, hbl⟩
  obtain ⟨A3, c3, rfl, hown3⟩ := hg (by rw [HF1.out]; omega)
  rw [HF1.out, HB1.out] at hown3
  rw [HF1.out]
  have hx3 := Row.of_own hown3
  have HB3 := hide (HB2.out.trans (hbl.mono HB2.out.size))
  have HK3 := hide (own_below HK.out hbl)
  have HX3 := hide hx3
  clear hbl hg hown3 hx3 HK
  have hcells := hide (HK3.out.cells (g := g) rfl)
  go_wp2_with (at_builtin; refine wpList_append_own_at _ rfl _ _ 22 rfl w.heap.size 5 i5 (.int .u8 0) 1 1 Try.underlying22 hi hz0 hz1 hz2 rfl (by decide) _ 8 _ rfl HK3.out ⟨g, 0, none⟩ 8 _ (octs f) rfl ?h0 hcells.out (octs_one _) ?h1 ?h2 HB3.out.size ?_)
  case h0 => rw [octs_len, HLF.out]
  case h1 => unfold maxLen; omega
  case h2 => omega
  intro v4 w4 hown4 hgr _ _
  obtain ⟨A4, c4, rfl⟩ := own_form hown4
  rw [octs_append] at hown4
  have hx4 := HX3.out.keep (w' := w4) (fun b hb hl => hgr.block b hl (fun e => by
    have e2 : b = g := by simpa [Value.ownBlock] using e
    have := HGL.out
    omega))
  have HX4 := hide hx4
  have HB4 := hide (HB3.out.grown hgr HB3.out.size (own_block HK3.out))
  have HW4 := hide (own_within hown4)
  clear hown4 hgr hx4 hcells HK3 HX3
  go_wp2_with fail
  refine (fall_any A4 16 c4 (f ++ f) _ HW4.out HO2.out (by omega)).mono ?_
  rintro e w5 ⟨A5, k5, c5, rfl, hp5, hbl⟩
  rw [HFR.out] at hp5 ⊢
  have hk5 : 2 = k5 := hp5.1
  subst hk5
  have HB5 := hide (HB4.out.trans (hbl.mono HB4.out.size))
  have hx5 := HX4.out.below hbl (fun _ _ h => h)
  obtain ⟨b, o, rfl, -, -, hc⟩ := hx5.some_ (by omega)
  have hcell : w5.cell? ⟨b, o, none⟩ = some (.int .u8 9) := hc 0 (by omega)
  clear hp5 hbl hx5 hc HX4
  go_wp2_with fail
  refine (fsize_any 1 _).mono ?_
  rintro e w' ⟨rfl, rfl⟩
  rw [hfs]
  go_wp2
  go_ret
  exact ⟨rfl, HB5.out⟩
end Go.Proofs.Ytjakjnnhflfpkaa
