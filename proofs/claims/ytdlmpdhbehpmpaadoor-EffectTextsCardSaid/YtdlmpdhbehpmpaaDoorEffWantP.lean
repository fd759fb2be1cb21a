/-
  The program's contracts of layer 10: Want, which grows two lists side by side. (Made by gen-effwant.py.)
-/
import Derived.Test.YtdlmpdhbehpmpaaDoorEffCheckP
import Derived.Test.YtdlmpdhbehpmpaaDoorEffWant
import Derived.Test.YtdlmpdhbehpmpaaDoorAppK
import Derived.Test.YtdlmpdhbehpmpaaDoorLater
import Derived.Deep.DeepCutAuto
import Derived.Deep.Cut
import Derived.Deep.CutRange
namespace Go.Proofs.YtdlmpdhbehpmpaaDoor
open Go.RowKit
set_option linter.unusedVariables false

/-- Two slices of the call's own whose memory is apart. -/
def Apart (v u : Value) : Prop := ∀ g, v.ownBlock = some g → u.ownBlock ≠ some g
theorem Apart.symm {v u : Value} (h : Apart v u) : Apart u v := fun g hu hv => h g hv hu
theorem own_apart {w w' : World} {base : Nat} {e : TypeId} {size : Nat} {v u : Value} {n : Nat} {xs : List Value} (h : w.ownsRow base e size v n xs) (hg : w.grownBy w' u.ownBlock) (ha : Apart v u) : w'.ownsRow base e size v n xs :=
  ⟨h.1, h.2.imp id fun ⟨g, cap, cur, hv, hb, hh, r⟩ => ⟨g, cap, cur, hv, hb, (hg.block g (Array.getElem?_eq_some_iff.1 hh).1 (fun e => ha g (by rw [hv]; rfl) e.symm)).trans hh, r⟩⟩
theorem Apart.grow {w : World} {base : Nat} {e : TypeId} {size : Nat} {v u u' : Value} {n m : Nat} {xs : List Value} (ha : Apart v u) (h : w.ownsRow base e size v n xs) (hm : w.heap.size ≤ m) (hat : u'.ownBlock = u.ownBlock ∨ u'.ownBlock = some m) : Apart v u' := by
  intro g hv hu
  rcases hat with hat | hat
  · exact ha g hv (by rw [← hat]; exact hu)
  · have := (h.lt g hv).2
    rw [hat] at hu
    injection hu with hu
    omega
theorem own_under {w w' : World} {base : Nat} {e : TypeId} {size : Nat} {v : Value} {n : Nat} {xs : List Value} (h : w.ownsRow base e size v n xs) (hb : Below w.heap.size w w') : w'.ownsRow base e size v n xs :=
  ⟨h.1, h.2.imp id fun ⟨g, cap, cur, hv, hg, hh, r⟩ => ⟨g, cap, cur, hv, hg, (hb.block g (Array.getElem?_eq_some_iff.1 hh).1).trans hh, r⟩⟩
theorem form_same {l l' : List Eff} {v : Value} (e : l' = l) (h : ∃ A c, v = .slice A l.length c) : ∃ A c, v = .slice A l'.length c := by subst e; exact h
theorem own_same {l l' : List Eff} {w : World} {base : Nat} {v : Value} (e : l' = l) (h : w.ownsRow base 25 5 v l.length (effs l)) : w.ownsRow base 25 5 v l'.length (effs l') := by subst e; exact h
def nows (l : List Eff) (j : Nat) : List Eff := (l.take j).filter nowE
def lats (l : List Eff) (j : Nat) : List Eff := (l.take j).filter laterE
theorem sel_step {q : Eff → Bool} {l : List Eff} {j : Nat} {x : Eff} (h : l[j]? = some x) : (l.take (j + 1)).filter q = (l.take j).filter q ++ (if q x = true then [x] else []) := by
  rw [List.take_add_one, h, Option.toList_some, List.filter_append]
  congr 1
  by_cases hs : q x = true
  · simp [hs]
  · simp [hs]
theorem nows_lats (l : List Eff) (j n : Nat) (h : l.length = n) : (nows l j).length + (lats l j).length ≤ n := by
  unfold nows lats
  have h1 := two_filters nowE (l.take j)
  have h2 : ((l.take j).filter laterE).length ≤ ((l.take j).filter fun x => !nowE x).length := by
    rw [← List.countP_eq_length_filter, ← List.countP_eq_length_filter]
    refine List.countP_mono_left fun x _ hx => ?_
    have h1 := of_decide_eq_true hx
    have : nowE x = false := decide_eq_false (by omega)
    rw [this]; rfl
  have h3 : (l.take j).length ≤ l.length := by rw [List.length_take]; omega
  omega

set_option maxRecDepth 100000 in
set_option maxHeartbeats 8000000 in
theorem ewant_any (P : Nat → Prop) (code : Int) (A : Option Addr) (n c : Nat) (l : List Eff) (good : Bool) (w : World) (h : RowK w P 5 A n c (effs l)) (hn : n * 40 ≤ 140737488351232) : Calls Tryd.prog 14 #[.agg #[.int .i64 code, .slice A n c], .bool good] w fun e w' => FreshEff w (wantE code l good) w' e := by
  have hl : l.length = n := by have := h.1; rw [effs_len] at this; omega
  obtain ⟨i9, hi, hz0, hz1, hz2⟩ := info_parts infoEff
  obtain ⟨W, hW⟩ : ∃ W, W = w.alloc (.cells #[.int .i64 code, .slice A n c] 42) := ⟨_, rfl⟩
  have hB : Blk W w.heap.size 42 #[.int .i64 code, .slice A n c] := by rw [hW]; exact Blk.new w _ _
  have HB := hide hB
  have HBW := hide (show Below w.heap.size w W by rw [hW]; exact (Below.refl _ w).alloc (Nat.le_refl _) _)
  have HWs := hide (show W.heap.size = w.heap.size + 1 by rw [hW]; simp)
  have HW := hide hW
  have HL := hide hl
  have HR := hide ((h.inb (by omega)).below (by omega) HBW.out (fun _ h _ => h.2))
  have hcap := h.2.1
  have hcb := h.2.2.1
  clear hB hW h hl
  obtain ⟨o0, o1⟩ := out_cells HB.out (Since.refl W)
  rw [HW.out] at o0 o1
  by_cases hc0 : code = 0
  · subst hc0
    have HWE := hide (show wantE 0 l good = nows l n ++ (if good = true then lats l n else []) by unfold wantE nows lats; rw [if_pos rfl, List.take_of_length_le (by rw [HL.out]; omega)])
    go_enter Tryd.func14, Tryd.ntmps14
    go_wp2
    rw [← HW.out]
    go_loopw [5, 6, 15] (fun v u k wr => ∃ j : Nat, j ≤ n ∧ k = .int .i64 j ∧ Hid (∃ A' c', v = .slice A' (nows l j).length c') ∧ Hid (wr.ownsRow W.heap.size 25 5 v (nows l j).length (effs (nows l j))) ∧ Hid (∃ A' c', u = .slice A' (lats l j).length c') ∧ Hid (wr.ownsRow W.heap.size 25 5 u (lats l j).length (effs (lats l j))) ∧ Hid (Apart v u) ∧ Hid (Since W wr)) (fun _ _ k _ => n - (intOf k).toNat)
    case atStart => exact ⟨0, by omega, rfl, hide ⟨none, 0, rfl⟩, hide ⟨rfl, .inl ⟨rfl, rfl⟩⟩, hide ⟨none, 0, rfl⟩, hide ⟨rfl, .inl ⟨rfl, rfl⟩⟩, hide (fun g h => by cases h), hide (Since.refl W)⟩
    case round =>
      obtain ⟨j, hj, rfl, hv, how, hu, hou, hap, hbl⟩ := hrel
      obtain ⟨A1, c1, rfl⟩ := hv.out
      obtain ⟨A2, c2, rfl⟩ := hu.out
      clear o0 o1 hv hu
      obtain ⟨o0, o1⟩ := out_cells HB.out hbl.out
      have HNL := hide (nows_lats l j n HL.out)
      by_cases hlt : j < n
      · obtain ⟨b, o, x, rfl, -, hb, hx, hat⟩ := effs_at (HR.out.below (by omega) hbl.out (fun _ h _ => Nat.lt_of_lt_of_le h.2 HBW.out.size)) hlt
        have HST1 := hide (show nows l (j + 1) = nows l j ++ (if nowE x = true then [x] else []) from sel_step hx)
        have HST2 := hide (show lats l (j + 1) = lats l j ++ (if laterE x = true then [x] else []) from sel_step hx)
        have HNL2 := hide (nows_lats l (j + 1) n HL.out)
        obtain ⟨y0, y1, y2, y3, y4⟩ := hat
        go_upto_region 19 with fail
        have hE := eff_at_new wr x 25
        have hS2 : Since W (wr.alloc (.cells #[.int .i64 x.k, .int .i64 x.a, .int .i64 x.n, .int .i64 x.p, .int .i64 x.q] 25)) := hbl.out.alloc _
        have hO1 := how.out.alloc (.cells #[.int .i64 x.k, .int .i64 x.a, .int .i64 x.n, .int .i64 x.p, .int .i64 x.q] 25)
        have hO2 := hou.out.alloc (.cells #[.int .i64 x.k, .int .i64 x.a, .int .i64 x.n, .int .i64 x.p, .int .i64 x.q] 25)
        have hws : (wr.alloc (.cells #[.int .i64 x.k, .int .i64 x.a, .int .i64 x.n, .int .i64 x.p, .int .i64 x.q] 25)).heap.size = wr.heap.size + 1 := by simp
        generalize wr.alloc (.cells #[.int .i64 x.k, .int .i64 x.a, .int .i64 x.n, .int .i64 x.p, .int .i64 x.q] 25) = w2 at *
        have HO1 := hide hO1
        have HO2 := hide hO2
        have HS2 := hide hS2
        have HE := hide hE
        have HWS := hide hws
        obtain ⟨e0, e1, e2, e3, e4⟩ := hE
        simp only [Nat.zero_add] at e0 e1 e2 e3 e4
        clear hO1 hO2 hS2 hws y0 y1 y2 y3 y4 o0 o1 hx how hou
        go_wp2_with fail
        refine (elater_any x _).mono ?_
        rintro e w3 ⟨rfl, hb3⟩
        have HE := hide (HE.out.below hb3 (by rw [HWS.out]; omega))
        have HO1 := hide (own_under HO1.out hb3)
        have HO2 := hide (own_under HO2.out hb3)
        have HS2 := hide (show Since W w3 from Below.trans HS2.out (Below.mono hb3 HS2.out.size))
        clear hb3 e0 e1 e2 e3 e4
        obtain ⟨e0, e1, e2, e3, e4⟩ := HE.out
        simp only [Nat.zero_add] at e0 e1 e2 e3 e4
        have hnl : laterE x = true → nowE x = false := fun h => by have h1 := of_decide_eq_true h; exact decide_eq_false (by omega)
        have hnn : laterE x = false → decide (1 ≤ x.k ∧ x.k ≤ 11) = nowE x := fun h => by have h1 := of_decide_eq_false h; exact decide_eq_decide.2 (by omega)
        cases hlb : laterE x with
        | true =>
          have hme := HST2.out
          rw [hlb, if_pos rfl] at hme
          have hot := HST1.out
          rw [hnl hlb, if_neg (by simp), List.append_nil] at hot
          clear hnl hnn hlb HST1 HST2
          have HLM := hide (show (lats l (j + 1)).length = (lats l j).length + 1 by rw [hme]; simp)
          have HLO := hide hot
          have HME := hide (show effs (lats l j) ++ x.cells = effs (lats l (j + 1)) by rw [hme]; simp [effs])
          have hml := HLM.out
          have hnl2 := HNL2.out
          clear hme hot
          generalize hN : (lats l j).length = N at *
          go_wp2_with (at_builtin; refine wpList_append_own_at _ rfl _ _ 40 rfl W.heap.size 25 i9 _ 5 40 Tryd.underlying40 hi hz0 hz1 hz2 rfl (by decide) _ N _ rfl (HO2.out.alloc _) ⟨w3.heap.size, 0, none⟩ 1 1 x.cells rfl rfl (cells_new _ _ _) (fun u hu => effs_one [x] u (by simpa [effs] using hu)) ?h1 ?h2 ?h3 ?_)
          case h1 => unfold maxLen; omega
          case h2 => omega
          case h3 => have := HS2.out.size; simp; omega
          intro v' w4 hown hgr _ hat
          rw [HME.out] at hown
          have HS3 := hide (show Since W w4 from Below.grown (HS2.out.alloc _) hgr (by have := HS2.out.size; simp; omega) (fun g hg => (HO2.out.lt g hg).1))
          have HP := hide (Apart.grow hap.out HO1.out (by omega) hat)
          have HO4 := hide (own_apart (HO1.out.alloc (.cells #[.int .i64 x.k, .int .i64 x.a, .int .i64 x.n, .int .i64 x.p, .int .i64 x.q] 25)) hgr hap.out)
          have HVO := hide (own_formK HO4.out)
          have HVO := hide (form_same HLO.out HVO.out)
          have HO4 := hide (own_same HLO.out HO4.out)
          rw [← HLM.out] at hown
          have HV := hide (own_formK hown)
          have HO3 := hide hown
          clear hown hgr hat e0 e1 e2 e3 e4 hml hnl2
          go_wp2
          go_roundw
          case rel => exact ⟨j + 1, by omega, by go_num, HVO, HO4, HV, HO3, HP, HS3⟩
          case measure => simp [intOf]; omega
        | false =>
          have hme0 := HST2.out
          rw [hlb, if_neg (by simp), List.append_nil] at hme0
          have hin := hnn hlb
          clear hnl hnn hlb HST2
          have HIN := hide hin
          clear hin
          have HM0 := hide hme0
          clear hme0
          go_wp2_with fail
          refine (ewithin_any x.k 1 11 _).mono ?_
          rintro e w5 ⟨rfl, hw5⟩
          subst hw5
          rw [HIN.out]
          cases hnb : nowE x with
          | true =>
            have hme := HST1.out
            rw [hnb, if_pos rfl] at hme
            have hot := HM0.out
            clear hnb HST1 HM0 HIN
            have HLM := hide (show (nows l (j + 1)).length = (nows l j).length + 1 by rw [hme]; simp)
            have HLO := hide hot
            have HME := hide (show effs (nows l j) ++ x.cells = effs (nows l (j + 1)) by rw [hme]; simp [effs])
            have hml := HLM.out
            have hnl2 := HNL2.out
            clear hme hot
            generalize hN : (nows l j).length = N at *
            go_wp2_with (at_builtin; refine wpList_append_own_at _ rfl _ _ 40 rfl W.heap.size 25 i9 _ 5 40 Tryd.underlying40 hi hz0 hz1 hz2 rfl (by decide) _ N _ rfl (HO1.out.alloc _) ⟨w3.heap.size, 0, none⟩ 1 1 x.cells rfl rfl (cells_new _ _ _) (fun u hu => effs_one [x] u (by simpa [effs] using hu)) ?h1 ?h2 ?h3 ?_)
            case h1 => unfold maxLen; omega
            case h2 => omega
            case h3 => have := HS2.out.size; simp; omega
            intro v' w4 hown hgr _ hat
            rw [HME.out] at hown
            have HS3 := hide (show Since W w4 from Below.grown (HS2.out.alloc _) hgr (by have := HS2.out.size; simp; omega) (fun g hg => (HO1.out.lt g hg).1))
            have HP := hide (Apart.grow hap.out.symm HO2.out (by omega) hat)
            have HO4 := hide (own_apart (HO2.out.alloc (.cells #[.int .i64 x.k, .int .i64 x.a, .int .i64 x.n, .int .i64 x.p, .int .i64 x.q] 25)) hgr hap.out.symm)
            have HVO := hide (own_formK HO4.out)
            have HVO := hide (form_same HLO.out HVO.out)
            have HO4 := hide (own_same HLO.out HO4.out)
            rw [← HLM.out] at hown
            have HV := hide (own_formK hown)
            have HO3 := hide hown
            clear hown hgr hat e0 e1 e2 e3 e4 hml hnl2
            go_wp2
            go_roundw
            case rel => exact ⟨j + 1, by omega, by go_num, HV, HO3, HVO, HO4, hide HP.out.symm, HS3⟩
            case measure => simp [intOf]; omega
          | false =>
            have hme := HST1.out
            rw [hnb, if_neg (by simp), List.append_nil] at hme
            have H1 := hide hme
            clear hme hnb HST1 HIN
            have HV1 := hide (own_formK HO1.out)
            have HV2 := hide (own_formK HO2.out)
            have HV1 := hide (form_same H1.out HV1.out)
            have HO1 := hide (own_same H1.out HO1.out)
            have HV2 := hide (form_same HM0.out HV2.out)
            have HO2 := hide (own_same HM0.out HO2.out)
            clear e0 e1 e2 e3 e4
            go_wp2
            go_roundw
            case rel => exact ⟨j + 1, by omega, by go_num, HV1, HO1, HV2, HO2, hap, HS2⟩
            case measure => simp [intOf]; omega
      · obtain rfl : j = n := by omega
        have hlt' : ¬ (j : Int) < (j : Int) := by omega
        cases good with
        | false =>
          have HWE2 := hide (show wantE 0 l false = nows l j from HWE.out.trans (by simp))
          go_wp2
          go_ret
          rw [HWE2.out]
          exact ⟨A1, c1, rfl, own_baseK how.out (by rw [HWs.out]; omega), HBW.out.trans (Below.mono hbl.out HBW.out.size)⟩
        | true =>
          have HWE2 := hide (show wantE 0 l true = nows l j ++ lats l j from HWE.out.trans (by simp))
          have hnl := HNL.out
          have HRU := hide (RowK.of_own hou.out)
          have HLEN := hide (show (nows l j ++ lats l j).length = (nows l j).length + (lats l j).length from List.length_append)
          generalize hN1 : (nows l j).length = N1 at *
          generalize hN2 : (lats l j).length = N2 at *
          go_wp2_with (at_builtin; refine wpList_append_rowK _ rfl _ _ 40 rfl W.heap.size 25 i9 _ 5 40 Tryd.underlying40 hi hz0 hz1 hz2 rfl (by decide) _ N1 _ rfl how.out _ A2 N2 c2 _ rfl HRU.out (effs_one _) ?h1 ?h2 ?h3 ?_)
          case h1 => unfold maxLen; omega
          case h2 => omega
          case h3 => have := hbl.out.size; omega
          intro v' w4 hown hgr _
          rw [effs_append] at hown
          have HB4 := hide (show Since W w4 from Below.grown hbl.out hgr hbl.out.size (fun g hg => (how.out.lt g hg).1))
          rw [← HLEN.out] at hown
          obtain ⟨A4, c4, rfl⟩ := own_formK hown
          have HO4 := hide hown
          clear hown hgr
          go_wp2
          go_ret
          rw [HWE2.out]
          exact ⟨A4, c4, rfl, own_baseK HO4.out (by rw [HWs.out]; omega), HBW.out.trans (Below.mono HB4.out HBW.out.size)⟩
  · have hcn : (code == 0) = false := beq_eq_false_iff_ne.mpr hc0
    have HE := hide (show wantE code l good = [] by unfold wantE; rw [if_neg hc0])
    go_enter Tryd.func14, Tryd.ntmps14
    go_wp2
    go_ret
    rw [HE.out]
    rw [HW.out] at HBW
    exact ⟨none, 0, rfl, ⟨rfl, .inl ⟨rfl, rfl⟩⟩, HBW.out⟩
end Go.Proofs.YtdlmpdhbehpmpaaDoor
