/-
  The walk of FramePuts.
-/
import Derived.Test.YtjakjnnhflfpkaaFrameAlive
import Derived.Test.YtjakjnnhflfpkaaSince
import Derived.Deep.DeepCutAuto
import Derived.Deep.Cut
import Derived.Deep.CutRange
import Derived.Deep.RegionHeld
namespace Go.Proofs.Ytjakjnnhflfpkaa
open Go.RowKit
set_option linter.unusedVariables false

set_option maxRecDepth 100000 in
set_option maxHeartbeats 4000000 in
theorem puts_walk (A : Option Addr) (n c : Nat) (l : List Int) (a1 : Int) (w : World) (h : Row w (· < w.heap.size) A n c (octs l)) (ho : Octs l) (hn : n ≤ 140737488351232) (ha0 : -9223372036854775808 ≤ a1) (ha1 : a1 ≤ 9223372036854775807) :
    Calls Try.prog 3 #[.slice A n c, .int .i64 a1] w fun e w' => e = .returned (.bool true) ∧ Below w.heap.size w w' := by
  obtain rfl : n = l.length := by rw [← h.1, octs_len]
  have H := hide h
  have HO := hide ho
  clear h ho
  go_enter Try.func3, Try.ntmps3
  go_wp2_with fail
  refine (alive04 _).mono ?_
  rintro e w1 ⟨rfl, hbl⟩
  have HB1 := hide hbl
  have H1 := hide (H.out.below hbl (fun _ h _ => h))
  clear hbl
  go_upto_region 4 with fail
  go_cut [18] (fun s18 wx => s18 = .bool (decide (1 ≤ a1 ∧ a1 ≤ 4096)) ∧ w1 = wx)
  case first =>
    rcases Int.lt_or_le a1 1 with hr1 | hr1
    · have e : decide (1 ≤ a1 ∧ a1 ≤ 4096) = false := decide_eq_false (by omega)
      go_wp2
      go_meet
      exact ⟨by rw [e], rfl⟩
    · rcases Int.lt_or_le 4096 a1 with hr2 | hr2
      · have e : decide (1 ≤ a1 ∧ a1 ≤ 4096) = false := decide_eq_false (by omega)
        have hd2 : decide (a1 ≤ 4096) = false := decide_eq_false (by omega)
        go_wp2
        go_meet
        exact ⟨by rw [e], rfl⟩
      · have e : decide (1 ≤ a1 ∧ a1 ≤ 4096) = true := decide_eq_true ⟨hr1, hr2⟩
        go_wp2
        go_meet
        exact ⟨by rw [e], rfl⟩
  case rest =>
    obtain ⟨rfl, rfl⟩ := hcut
    go_upto_if 18 with fail
    go_cut [5] (fun s5 wx => s5 = .int .i64 (fsize a1) ∧ w1 = wx)
    case first =>
      by_cases hr : 1 ≤ a1 ∧ a1 ≤ 4096
      · have e : fsize a1 = a1 + 7 := by unfold fsize; rw [if_pos hr]
        have hd : decide (1 ≤ a1 ∧ a1 ≤ 4096) = true := decide_eq_true hr
        obtain ⟨hr1, hr2⟩ := hr
        go_wp2
        go_meet
        exact ⟨by rw [e], rfl⟩
      · have e : fsize a1 = 0 := by unfold fsize; rw [if_neg hr]
        have hd : decide (1 ≤ a1 ∧ a1 ≤ 4096) = false := decide_eq_false hr
        go_wp2
        go_meet
        exact ⟨by rw [e], rfl⟩
    case rest =>
      obtain ⟨rfl, rfl⟩ := hcut
      go_wp2_with fail
      refine (fput_any _ _ _ _ l _ H1.out HO.out).mono ?_
      rintro e w2 ⟨hp0, hp1, hp2, hbl⟩
      have HB2 := hide (HB1.out.trans (hbl.mono HB1.out.size))
      have H2 := hide (H1.out.below hbl (fun _ _ h => h))
      rcases Nat.eq_zero_or_pos l.length with h0 | h0
      · have he := hp0 h0
        subst he
        clear hp0 hp1 hp2 hbl
        go_wp2_with fail
        refine (fsize_any a1 _).mono ?_
        rintro e w' ⟨rfl, rfl⟩
        go_wp2
        go_ret
        exact ⟨rfl, HB2.out⟩
      rcases Nat.lt_or_ge 4096 l.length with h1 | h1
      · have he := hp1 h1
        subst he
        have hne : ((l.length : Int) == 0) = false := beq_eq_false_iff_ne.mpr (by omega)
        have hd : decide ((4096 : Int) < (l.length : Int)) = true := decide_eq_true (by omega)
        clear hp0 hp1 hp2 hbl
        go_wp2_with fail
        refine (fsize_any a1 _).mono ?_
        rintro e w' ⟨rfl, rfl⟩
        go_wp2
        go_ret
        exact ⟨rfl, HB2.out⟩
      obtain ⟨A2, c2, he, hown⟩ := hp2 h0 h1
      subst he
      have hne : ((l.length : Int) == 0) = false := beq_eq_false_iff_ne.mpr (by omega)
      have hd : decide ((4096 : Int) < (l.length : Int)) = false := decide_eq_false (by omega)
      have HF := hide (own_within hown)
      have hfr := front_frame [] h0 h1
      have hbd := frameOf_body l []
      rw [List.append_nil] at hfr hbd
      have HFR := hide hfr
      have HBD := hide hbd
      have HOF := hide (frameOf_octs HO.out)
      have HLF := hide (frameOf_len l)
      clear hp0 hp1 hp2 hbl hown hfr hbd
      go_wp2_with fail
      refine (fget_any A2 _ c2 (frameOf l) _ HF.out HOF.out (by omega)).mono ?_
      rintro e w3 ⟨-, hg, hbl⟩
      obtain ⟨A3, c3, rfl, hown3⟩ := hg (by rw [HFR.out]; omega)
      rw [HFR.out] at hown3 ⊢
      rw [HBD.out] at hown3
      have HB3 := hide (HB2.out.trans (hbl.mono HB2.out.size))
      have H3 := hide (H2.out.below hbl (fun _ _ h => h))
      have HF3 := hide (HF.out.below hbl (fun _ h _ => h))
      have HX3 := hide (own_within hown3)
      clear hg hbl hown3
      have hs1 : ∀ w', Since w3 w' → (convert 22 9 (.slice A3 l.length c3)).run Try.prog w' = .ok (.string (strOfNums l)) w' := fun w' h => conv_row (h.row HX3.out)
      have hs2 : ∀ w', Since w3 w' → (convert 22 9 (.slice A l.length c)).run Try.prog w' = .ok (.string (strOfNums l)) w' := fun w' h => conv_row (h.row H3.out)
      have hs3 : ∀ w', Since w3 w' → (convert 22 9 (.slice A2 (l.length + 7) c2)).run Try.prog w' = .ok (.string (strOfNums (frameOf l))) w' := fun w' h => conv_row (h.row HF3.out)
      generalize strOfNums l = T at *
      obtain ⟨U, HU⟩ : ∃ U, Hid (strOfNums (frameOf l) = U) := ⟨_, rfl⟩
      rw [HU.out] at hs3
      have P1 := hide (fun w' (h : Since w3 w') => fsize_any a1 w')
      have P2 := hide (fun w' (h : Since w3 w') => (refframe_put _ A l.length c l w' (h.row H3.out) HO.out (by omega)).mono fun e w2 hf => fresh_text h hf HLF.out HU.out)
      have hr0 := (Since.refl w3).drew
      clear HU HLF HOF HX3 HF3 H3 H2 H1 HB1 HB2 HF HFR HBD H HO
      go_wp2_with fail
      go_region_held (fun w' => Since w3 w') (assumption) (first
        | (go_at_call 8; refine (P1.out _ (by assumption)).mono ?_; rintro e w5 ⟨rfl, rfl⟩)
        | (go_at_call 10; refine (P2.out _ (by assumption)).mono ?_; rintro e w6 ⟨A6, c6, rfl, hs6, hsi6, hsr6, hst6⟩))
      all_goals go_wp2
      all_goals go_ret
      all_goals exact ⟨rfl, HB3.out.trans (Below.mono hst6 HB3.out.size)⟩
end Go.Proofs.Ytjakjnnhflfpkaa
