/-
  The walk of FrameCuts.
-/
import Derived.Test.YtjakjnnhflfpkaaFrameAlive
import Derived.Test.YtjakjnnhflfpkaaSince
import Derived.Deep.DeepCutAuto
import Derived.Deep.Cut
import Derived.Deep.CutRange
namespace Go.Proofs.Ytjakjnnhflfpkaa
open Go.RowKit
set_option linter.unusedVariables false

theorem Parts.cut {w : World} {A : Option Addr} {n k : Nat} {ls : List (List Int)} (h : Parts w A n ls) (hk : k ≤ n) : Parts w A k (ls.take k) := by
  refine ⟨by rw [List.length_take, h.1]; omega, by have := h.2.1; omega, ?_⟩
  rcases h.2.2 with h0 | ⟨b, o, e, hc⟩
  · exact .inl (by omega)
  · refine .inr ⟨b, o, e, fun i hi => ?_⟩
    have eg : (ls.take k).getD i [] = ls.getD i [] := by rw [List.getD_eq_getElem?_getD, List.getD_eq_getElem?_getD, List.getElem?_take, if_pos hi]
    rw [eg]
    exact hc i (by omega)
theorem Parts.octs_all {w : World} {A : Option Addr} {n : Nat} {ls : List (List Int)} (h : Parts w A n ls) : ∀ x ∈ ls, Octs x := by
  intro x hx
  obtain ⟨i, hi, rfl⟩ := List.getElem_of_mem hx
  obtain ⟨_, _, _, _, _, _, _, ho⟩ := h.at_ (i := i) (by rw [← h.1]; exact hi)
  rw [List.getD_eq_getElem?_getD, List.getElem?_eq_getElem hi] at ho
  exact ho
/-- l[:k] of a slice of slices. -/
theorem front_run2 (w : World) (A : Option Addr) (n c k : Nat) (hk : k ≤ c) :
    (Instr.slice 34 (.slice A n c) none (some (.int .i64 (k : Int))) none).run Try.prog w = .ok (.slice A k c) w := by
  have h := run_slice_h (P := Try.prog) (w := w) 34 A n c (by kernel_rfl) .i64 (k : Int) (by omega) (by omega)
  rw [h]
  have hs : (sizeOf (Try.prog.elem 34)).run Try.prog w = .ok 1 w := by kernel_rfl
  rw [hs]
  cases A <;> simp [Result.andThen, sliced, Addr.add_zero']

set_option maxRecDepth 100000 in
set_option maxHeartbeats 4000000 in
theorem cuts_walk (A : Option Addr) (n c : Nat) (ls : List (List Int)) (a1 a2 : Int) (w : World) (h : Parts w A n ls) (hnc : n ≤ c) (hcc : c ≤ 9223372036854775807) :
    Calls Try.prog 5 #[.slice A n c, .int .i64 a1, .int .i64 a2] w fun e w' => e = .returned (.bool true) ∧ Below w.heap.size w w' := by
  obtain ⟨i5, hi5, hz50, hz51, hz52⟩ := info_parts info5
  obtain ⟨i6, hi6, hz60, hz61, hz62⟩ := info_parts info24
  have HP := hide h
  clear h
  go_enter Try.func5, Try.ntmps5
  go_wp2_with fail
  refine (alive04 _).mono ?_
  rintro e w1 ⟨rfl, hbl⟩
  have HB1 := hide hbl
  clear hbl
  have hs12 : ∀ W, (Instr.slice 34 (.slice A n c) none (some (.int .i64 12)) none).run Try.prog W = (if 12 ≤ c then .ok (.slice A 12 c) W else (Instr.slice 34 (.slice A n c) none (some (.int .i64 12)) none).run Try.prog W) := fun W => by
    split
    · rename_i hc
      exact front_run2 W A n c 12 hc
    · rfl
  go_upto_if 20 with fail
  go_cut [0] (fun s0 wx => s0 = .slice A (min n 12) c ∧ w1 = wx)
  case first =>
    rcases Nat.lt_or_ge 12 n with h12 | h12
    · have e : min n 12 = 12 := by omega
      have hd : decide ((12 : Int) < (n : Int)) = true := decide_eq_true (by omega)
      have hs : ∀ W, (Instr.slice 34 (.slice A n c) none (some (.int .i64 12)) none).run Try.prog W = .ok (.slice A 12 c) W := fun W => front_run2 W A n c 12 (by omega)
      clear hs12
      go_wp2
      go_meet
      exact ⟨by rw [e], rfl⟩
    · have e : min n 12 = n := by omega
      have hd : decide ((12 : Int) < (n : Int)) = false := decide_eq_false (by omega)
      clear hs12
      go_wp2
      go_meet
      exact ⟨by rw [e], rfl⟩
  case rest =>
    obtain ⟨rfl, rfl⟩ := hcut
    clear hs12
    have hp := HP.out.cut (k := min n 12) (by omega)
    have hk12 : min n 12 ≤ 12 := by omega
    generalize ls.take (min n 12) = xs at *
    generalize min n 12 = k at *
    obtain rfl : k = xs.length := hp.1.symm
    have HX := hide hp
    have HOX := hide hp.octs_all
    clear hp
    go_wp2
    go_loopw [7, 9] (fun v i wr => ∃ j : Nat, j ≤ xs.length ∧ i = .int .i64 j ∧ Hid (∃ A' c', v = .slice A' (framed (xs.take j)).length c') ∧ Hid (wr.ownsRow w.heap.size 5 1 v (framed (xs.take j)).length (octs (framed (xs.take j)))) ∧ Hid (Below w.heap.size w wr)) (fun _ i _ => xs.length - (intOf i).toNat)
    case atStart => exact ⟨0, Nat.zero_le _, rfl, hide ⟨none, 0, by rw [List.take_zero]; rfl⟩, hide (by rw [List.take_zero]; exact own_none _ _ _), HB1⟩
    case round =>
      obtain ⟨j, hj, rfl, hv, how, hbl⟩ := hrel
      obtain ⟨A', c', rfl⟩ := hv.out
      by_cases hlt : j < xs.length
      · obtain ⟨b, o, a, c2, rfl, hcell0, hrow0, hoc⟩ := HX.out.at_ hlt
        have hblt : b < w.heap.size := World.block_lt_of_cell? w _ hcell0
        have hcell := (hbl.out.cell (p := ⟨b, o + j, none⟩) hblt).trans hcell0
        have hrow := hrow0.below hbl.out (fun _ _ h => h)
        have hsn : framed (xs.take (j + 1)) = framed (xs.take j) ++ (if fits (xs.getD j []) then frameOf (xs.getD j []) else []) := by rw [take_snoc _ _ hlt, framed_snoc]
        have hfl := framed_len (xs.take j)
        rw [List.length_take] at hfl
        have hjl : (j : Int) < (xs.length : Int) := by omega
        have hfl : (framed (xs.take j)).length ≤ 49236 := by omega
        have HR := hide hrow
        have HO := hide hoc
        clear hrow0 hcell0 hrow hoc hv
        generalize xs.getD j [] = x at *
        generalize hF : framed (xs.take j) = F at *
        clear hF
        by_cases hx : 1 ≤ x.length ∧ x.length ≤ 4096
        · rw [if_pos (show fits x = true from decide_eq_true hx)] at hsn
          obtain ⟨hx1, hx2⟩ := hx
          have HSN := hide hsn
          have HLF := hide (frameOf_len x)
          clear hsn
          go_wp2_with fail
          refine (refframe_put _ _ _ _ x _ HR.out HO.out (by omega)).mono ?_
          rintro e w2 ⟨A2, c2', rfl, hown, hb2⟩
          rw [HLF.out] at hown ⊢
          have HR2 := hide (own_within hown)
          have HOW := hide (own_below how.out hb2)
          have HB2 := hide (hbl.out.trans (hb2.mono hbl.out.size))
          clear hown hb2 how hbl HR
          go_wp2_with (at_builtin; refine wpList_append_row _ rfl _ _ 22 rfl w.heap.size 5 i5 (.int .u8 0) 1 Try.underlying22 hi5 hz50 hz51 hz52 rfl _ F.length _ rfl HOW.out _ A2 (x.length + 7) c2' (octs (frameOf x)) rfl HR2.out (octs_one _) ?h1 ?h2 HB2.out.size ?_)
          case h1 => unfold maxLen; omega
          case h2 => omega
          intro v3 w3 hown3 hgr _
          rw [octs_append, ← HSN.out] at hown3
          have hl3 : F.length + (x.length + 7) = (framed (xs.take (j + 1))).length := by rw [HSN.out, List.length_append, HLF.out]
          rw [hl3] at hown3
          have HO3 := hide hown3
          have HV3 := hide (own_form hown3)
          have HB3 := hide (HB2.out.grown hgr HB2.out.size (own_block HOW.out))
          clear hown3 hgr hl3
          go_wp2
          go_roundw
          case rel => exact ⟨j + 1, by omega, by go_num, HV3, HO3, HB3⟩
          case measure => simp [intOf]; omega
        · rw [if_neg (show ¬ fits x = true from fun hf => hx (of_decide_eq_true hf)), List.append_nil] at hsn
          have HSN := hide hsn
          clear hsn
          rcases Nat.lt_or_ge x.length 1 with hx1 | hx1
          · have hd : decide ((1 : Int) ≤ (x.length : Int)) = false := decide_eq_false (by omega)
            go_wp2
            go_roundw
            case rel => exact ⟨j + 1, by omega, by go_num, by rw [HSN.out]; exact hide ⟨_, _, rfl⟩, by rw [HSN.out]; exact how, hbl⟩
            case measure => simp [intOf]; omega
          · have hd : decide ((x.length : Int) ≤ 4096) = false := decide_eq_false (by omega)
            have hx1' : (1 : Int) ≤ (x.length : Int) := by omega
            go_wp2
            go_roundw
            case rel => exact ⟨j + 1, by omega, by go_num, by rw [HSN.out]; exact hide ⟨_, _, rfl⟩, by rw [HSN.out]; exact how, hbl⟩
            case measure => simp [intOf]; omega
      · obtain rfl : j = xs.length := by omega
        have how' := how.out
        rw [List.take_length] at how' ⊢
        have hFl := framed_len xs
        have hFO := framed_octs HOX.out
        have hW := fun c k => frames_wholes xs c k
        have HBA := hide hbl.out
        have HOWA := hide how'
        have HFO := hide hFO
        have HW := hide hW
        clear how' how hv hbl hFO hW HB1
        generalize hF : framed xs = F at *
        clear hF
        rename World => w2
        have hFl : F.length ≤ 49236 := by omega
        go_wp2_with fail
        refine (near_any a1 0 F.length _).mono ?_
        rintro e w' ⟨rfl, rfl⟩
        obtain ⟨hp0, hp1⟩ := near_in (n := a1) (show (0 : Int) ≤ (F.length : Int) by omega)
        obtain ⟨p, hp⟩ := Int.eq_ofNat_of_zero_le hp0
        rw [hp] at hp1 ⊢
        clear hp0 hp
        have hpF : p ≤ F.length := by omega
        have HX2 := hide (HX.out.below HBA.out)
        go_wp2
        go_loopw [8, 10, 11] (fun v t i wr => ∃ (j at_ : Nat) (acc : List (List Int)) (vs : List Value), j ≤ xs.length ∧ acc.length ≤ j ∧ at_ ≤ j * 4103 ∧ i = .int .i64 j ∧ t = .int .i64 at_ ∧ Hid (∃ A' c', v = .slice A' acc.length c') ∧ Hid (wr.ownsRow w2.heap.size 22 1 v acc.length vs) ∧ Hid (Vals wr (· < w2.heap.size) vs acc) ∧ Hid (acc ++ wholes at_ (xs.drop j) p = wholes 0 xs p) ∧ Hid (Below w2.heap.size w2 wr)) (fun _ _ i _ => xs.length - (intOf i).toNat)
        case atStart => exact ⟨0, 0, [], [], Nat.zero_le _, by simp, by omega, rfl, rfl, hide ⟨none, 0, rfl⟩, hide (own_none _ _ _), hide (Vals.nil _ _), hide (by rw [List.drop_zero]; rfl), hide (Below.refl _ _)⟩
        case round =>
          obtain ⟨j, at_, acc, vs, hj, hac, hat, rfl, rfl, hv, how, hvs, hwh, hbl⟩ := hrel
          obtain ⟨A3, c3, rfl⟩ := hv.out
          by_cases hlt : j < xs.length
          · obtain ⟨b, o, a, c4, rfl, hcell0, hrow0, hoc⟩ := HX2.out.at_ hlt
            have hblt : b < w2.heap.size := World.block_lt_of_cell? w2 _ hcell0
            have hcell := (hbl.out.cell (p := ⟨b, o + j, none⟩) hblt).trans hcell0
            have hrow := (hrow0.within.mono (Q := fun b => b < w2.heap.size) fun _ h => h.2).below hbl.out (fun _ h _ => h)
            have hdc := hwh.out
            rw [drop_cons _ _ hlt] at hdc
            have hjl : (j : Int) < (xs.length : Int) := by omega
            have HR := hide hrow
            have HO := hide hoc
            clear hrow0 hcell0 hrow hoc hv hwh
            generalize xs.getD j [] = x at *
            by_cases hx : 1 ≤ x.length ∧ x.length ≤ 4096
            · have hfx : fits x = true := decide_eq_true hx
              obtain ⟨hx1, hx2⟩ := hx
              by_cases hle : at_ + x.length + 7 ≤ p
              · have hdc2 : (acc ++ [x]) ++ wholes (at_ + x.length + 7) (xs.drop (j + 1)) p = wholes 0 xs p := by
                  rw [← hdc]
                  conv => rhs; rw [wholes]
                  rw [if_pos hfx, if_pos hle]
                  simp
                have HDC := hide hdc2
                have hc1 : acc.length + 1 ≤ maxLen := by unfold maxLen; omega
                have HC1 := hide hc1
                have hle' : (at_ : Int) + (x.length : Int) + 7 ≤ (p : Int) := by omega
                clear hdc hdc2 hc1 hfx
                go_wp2_with (at_builtin; refine wpList_append_own_at _ rfl _ _ 34 rfl w2.heap.size 22 i6 (.slice none 0 0) 1 24 Try.underlying34 hi6 hz60 hz61 hz62 rfl (by decide) _ acc.length _ rfl (how.out.alloc _) ⟨wr.heap.size, 0, none⟩ 1 1 [.slice a x.length c4] rfl rfl (cell_one_new _ _ _) (by simp [Value.oneCell']) HC1.out ?c2 ?c3 ?_)
                case c2 => omega
                case c3 => have := hbl.out.size; simp; omega
                intro v' w5 hown' hgrow _ _
                have hb2 : Below w2.heap.size w2 w5 := (hbl.out.alloc hbl.out.size (.cells #[.slice a x.length c4] 22)).grown hgrow (by have := hbl.out.size; simp; omega) (own_block how.out)
                have hb12 : Below w2.heap.size wr w5 := ((Below.refl _ wr).alloc hbl.out.size _).grown hgrow (by have := hbl.out.size; simp; omega) (own_block how.out)
                have HV := hide (show Vals w5 (· < w2.heap.size) (vs ++ [.slice a x.length c4]) (acc ++ [x]) from (hvs.out.below hb12 (fun _ h _ => h)).snoc (HR.out.below hb12 (fun _ h _ => h)) HO.out)
                have HO2 := hide hown'
                have HF2 := hide (own_form hown')
                have HB2 := hide hb2
                have HLA := hide (show (acc ++ [x]).length = acc.length + 1 by simp)
                clear hown' hgrow hb2 hb12
                go_wp2
                go_roundw
                case rel => exact ⟨j + 1, at_ + x.length + 7, acc ++ [x], _, by omega, by rw [HLA.out]; omega, by omega, by go_num, by go_num, by rw [HLA.out]; exact HF2, by rw [HLA.out]; exact HO2, HV, HDC, HB2⟩
                case measure => simp [intOf]; omega
              · have hdc2 : acc ++ wholes (at_ + x.length + 7) (xs.drop (j + 1)) p = wholes 0 xs p := by
                  rw [← hdc]
                  conv => rhs; rw [wholes]
                  rw [if_pos hfx, if_neg hle]
                have HDC := hide hdc2
                have hle' : decide ((at_ : Int) + (x.length : Int) + 7 ≤ (p : Int)) = false := decide_eq_false (by omega)
                clear hdc hdc2 hfx
                go_wp2
                go_roundw
                case rel => exact ⟨j + 1, at_ + x.length + 7, acc, _, by omega, by omega, by omega, by go_num, by go_num, hide ⟨_, _, rfl⟩, how, hvs, HDC, hbl⟩
                case measure => simp [intOf]; omega
            · have hfx : ¬ fits x = true := fun hf => hx (of_decide_eq_true hf)
              have hdc2 : acc ++ wholes at_ (xs.drop (j + 1)) p = wholes 0 xs p := by
                rw [← hdc]
                conv => rhs; rw [wholes]
                rw [if_neg hfx]
              have HDC := hide hdc2
              clear hdc hdc2 hfx
              rcases Nat.lt_or_ge x.length 1 with hx1 | hx1
              · have hd : decide ((1 : Int) ≤ (x.length : Int)) = false := decide_eq_false (by omega)
                go_wp2
                go_roundw
                case rel => exact ⟨j + 1, at_, acc, _, by omega, by omega, by omega, by go_num, rfl, hide ⟨_, _, rfl⟩, how, hvs, HDC, hbl⟩
                case measure => simp [intOf]; omega
              · have hd : decide ((x.length : Int) ≤ 4096) = false := decide_eq_false (by omega)
                have hx1' : (1 : Int) ≤ (x.length : Int) := by omega
                go_wp2
                go_roundw
                case rel => exact ⟨j + 1, at_, acc, _, by omega, by omega, by omega, by go_num, rfl, hide ⟨_, _, rfl⟩, how, hvs, HDC, hbl⟩
                case measure => simp [intOf]; omega
          · obtain rfl : j = xs.length := by omega
            have hwh' := hwh.out
            rw [List.drop_length] at hwh'
            have e0 : wholes at_ [] p = [] := rfl
            rw [e0, List.append_nil] at hwh'
            rename World => w3
            have HWH := hide hwh'
            have HP3 := hide (Parts.of_own how.out hvs.out)
            have HBW := hide hbl.out
            have HRA := hide ((own_within HOWA.out).below hbl.out (fun _ h _ => h))
            clear hwh' e0 hwh how hvs hbl hv HX2 HOWA
            have hfr : ∀ W, (Instr.slice 22 (.slice A' F.length c') none (some (.int .i64 (p : Int))) none).run Try.prog W = .ok (.slice A' p c') W := fun W => front_run W A' F.length c' p (by have := HRA.out.le; omega)
            have hown0 : (w3.alloc (.cells #[] 5)).ownsRow w3.heap.size 5 1 (.slice (some ⟨w3.heap.size, 0, none⟩) 0 0) 0 [] :=
              ⟨rfl, .inr ⟨w3.heap.size, 0, #[], rfl, Nat.le_refl _, heap_alloc_new w3 _, Nat.le_refl _, by unfold maxLen; omega, rfl, rfl⟩⟩
            have HO0 := hide hown0
            have HRF := hide (HRA.out.head (k := p) (by omega))
            clear hown0
            go_wp2_with (at_builtin; refine wpList_append_row _ rfl _ _ 22 rfl w3.heap.size 5 i5 (.int .u8 0) 1 Try.underlying22 hi5 hz50 hz51 hz52 rfl _ 0 [] rfl HO0.out _ A' p c' (octs (F.take p)) rfl (HRF.out.alloc _) (octs_one _) ?h1 ?h2 ?h3 ?_)
            case h1 => unfold maxLen; omega
            case h2 => omega
            case h3 => simp
            intro v5 w5 hown5 hgr _
            have hown5 : w5.ownsRow w3.heap.size 5 1 v5 p (octs (F.take p)) := by simpa using hown5
            obtain ⟨A5, c5, rfl⟩ := own_form hown5
            have hbb := (((Below.refl _ w3).alloc (Nat.le_refl _) (.cells #[] 5)).grown hgr (by simp) (fun g hg => by
              have e : w3.heap.size = g := by simpa [Value.ownBlock] using hg
              omega) : Below w3.heap.size w3 w5)
            have HO5 := hide hown5
            have HB5 := hide hbb
            have hsz3 := HBW.out.size
            have HBTOT := hide (HBA.out.trans (HBW.out.mono HBA.out.size))
            obtain ⟨hz0, hz1⟩ := near_in (n := a2) (show (0 : Int) ≤ 5000 by omega)
            obtain ⟨z, hz⟩ := Int.eq_ofNat_of_zero_le hz0
            rw [hz] at hz1
            have HZ := hide hz
            have HTK := hide (show (F.take p).length = p by rw [List.length_take]; omega)
            have HTO := hide (HFO.out.take p)
            have HWZ := hide (fun k => HW.out p k)
            clear hown5 hgr hbb hz hz0 HO0 HRF hfr HRA HW HFO HBA HBW
            generalize F.take p = T at *
            go_wp2_with fail
            go_loopw [12, 13] (fun v i wr => ∃ j : Nat, j ≤ z ∧ i = .int .i64 j ∧ Hid (∃ A' c', v = .slice A' (p + j) c') ∧ Hid (wr.ownsRow w3.heap.size 5 1 v (p + j) (octs (T ++ List.replicate j 0))) ∧ Hid (Below w3.heap.size w3 wr)) (fun _ i _ => z - (intOf i).toNat)
            case atStart => exact ⟨0, Nat.zero_le _, rfl, hide ⟨_, _, rfl⟩, hide (by simpa using HO5.out), HB5⟩
            case round =>
              obtain ⟨j, hj, rfl, hv, how, hbl⟩ := hrel
              obtain ⟨A6, c6, rfl⟩ := hv.out
              clear HO5 HB5
              go_wp2_with fail
              refine (near_any a2 0 5000 _).mono ?_
              rintro e w' ⟨rfl, rfl⟩
              rw [HZ.out]
              by_cases hlt : j < z
              · have hjl : (j : Int) < (z : Int) := by omega
                have hc1 : p + j + 1 ≤ maxLen := by unfold maxLen; omega
                have HC1 := hide hc1
                clear hc1
                go_wp2_with (at_builtin; refine wpList_append_own_at _ rfl _ _ 22 rfl w3.heap.size 5 i5 (.int .u8 0) 1 1 Try.underlying22 hi5 hz50 hz51 hz52 rfl (by decide) _ (p + j) _ rfl (how.out.alloc _) ⟨wr.heap.size, 0, none⟩ 1 1 [.int .u8 0] rfl rfl (cell_one_new _ _ _) (by simp [Value.oneCell']) HC1.out ?c2 ?c3 ?_)
                case c2 => omega
                case c3 => have := hbl.out.size; simp; omega
                intro v7 w7 hown7 hgr _ _
                rw [← octs_append', List.append_assoc, ← List.replicate_succ'] at hown7
                have HO7 := hide hown7
                have HV7 := hide (own_form hown7)
                have HB7 := hide ((hbl.out.alloc hbl.out.size (.cells #[.int .u8 0] 5)).grown hgr (by have := hbl.out.size; simp; omega) (own_block how.out))
                clear hown7 hgr
                go_wp2
                go_roundw
                case rel => exact ⟨j + 1, by omega, by go_num, HV7, HO7, HB7⟩
                case measure => simp [intOf]; omega
              · obtain rfl : j = z := by omega
                have HRB := hide (own_within how.out)
                have HOB := hide (HTO.out.append (show Octs (List.replicate j 0) from fun n hn => by rw [(List.mem_replicate.1 hn).2]; omega))
                have HBL := hide hbl.out
                have HPL := hide (HP3.out.below hbl.out)
                have hjf : ¬ ((j : Int) < (j : Int)) := by omega
                clear how hbl hv
                go_wp2_with fail
                refine (fall_any A6 _ c6 (T ++ List.replicate j 0) _ HRB.out HOB.out (by omega)).mono ?_
                rintro e w8 ⟨A8, k8, c8, rfl, hp8, hb8⟩
                rw [HWZ.out j, ← HWH.out] at hp8
                have hpl := HPL.out.below hb8
                have hk : k8 = acc.length := hp8.1.symm
                subst hk
                have HP8 := hide hp8
                have HPL8 := hide hpl
                have HB8 := hide (HBL.out.trans (hb8.mono HBL.out.size))
                clear hp8 hpl hb8
                go_wp2_with fail
                refine (octets_same _ _ _ _ _ _ _ HP8.out HPL8.out).mono ?_
                rintro e w9 ⟨rfl, q9, rfl⟩
                have HB9 := hide (HBTOT.out.trans ((below_drewN HB8.out q9).mono HBTOT.out.size))
                go_wp2
                go_ret
                exact ⟨rfl, HB9.out⟩
end Go.Proofs.Ytjakjnnhflfpkaa
