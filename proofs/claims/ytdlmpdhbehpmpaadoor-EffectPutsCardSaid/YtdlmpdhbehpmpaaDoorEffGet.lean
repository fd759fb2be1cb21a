/-
  The reference's contracts of layer 10: the effect that may be whose octets they are.
-/
import Derived.Test.YtdlmpdhbehpmpaaDoorEffMay
import Derived.Test.YtdlmpdhbehpmpaaDoorEffVars
import Derived.Test.YtdlmpdhbehpmpaaDoorOctC
import Derived.Deep.RegionHeld3
import Derived.Handy
namespace Go.Proofs.YtdlmpdhbehpmpaaDoor
open Go.RowKit
set_option linter.unusedVariables false

def GotE (w : World) (l : List Int) (w' : World) (e : Ending) : Prop := e = .returned (.tuple #[(valE l).val, .bool (getE l).isSome]) ∧ Below w.heap.size w w'
theorem getE_no {l : List Int} (h : l.length ≠ 13 ∨ codeE (readE l) ≠ 0) : getE l = none := by
  unfold getE
  rw [if_neg]
  rintro ⟨h1, h2⟩
  rcases h with h | h
  · exact h h1
  · exact h h2
theorem GotE.none {w w' : World} {l : List Int} {e : Ending} (h : getE l = none) (he : e = .returned (.tuple #[.agg #[.int .i64 0, .int .i64 0, .int .i64 0, .int .i64 0, .int .i64 0], .bool false])) (hb : Below w.heap.size w w') : GotE w l w' e := by
  unfold GotE valE
  rw [h]
  exact ⟨he, hb⟩
theorem GotE.some {w w' : World} {l : List Int} {x : Eff} {e : Ending} (h : getE l = some x) (he : e = .returned (.tuple #[x.val, .bool true])) (hb : Below w.heap.size w w') : GotE w l w' e := by
  unfold GotE valE
  rw [h]
  exact ⟨he, hb⟩

set_option maxHeartbeats 8000000 in
theorem refgete_any (P : Nat → Prop) (A : Option Addr) (n c : Nat) (l : List Int) (w : World) (h : Row w P A n c (octs l)) (ho : Octs l) (hn : n ≤ 140737488355000) :
    Calls Tryd.prog 13 #[.slice A n c] w fun e w' => GotE w l w' e := by
  have HM := hide (show l.length = n by rw [← h.1, octs_len])
  by_cases h13 : n = 13
  · subst h13
    obtain ⟨b, o, rfl, -, hlt, hc⟩ := h.some_ (by omega)
    have HC := hide (fun j (hj : j < 13) => (hc j hj).trans (octs_at l j (by rw [HM.out]; exact hj)))
    have HBW := hide ((Below.refl w.heap.size w).alloc (Nat.le_refl _) (.cells #[.int .i64 0, .int .i64 0, .int .i64 0, .int .i64 0, .int .i64 0] 25))
    have H := hide h
    have HO := hide ho
    have hcap := h.2.1
    clear hc h ho
    obtain ⟨W, hW⟩ : ∃ W, W = w.alloc (.cells #[.int .i64 0, .int .i64 0, .int .i64 0, .int .i64 0, .int .i64 0] 25) := ⟨_, rfl⟩
    have hWs : W.heap.size = w.heap.size + 1 := by rw [hW]; simp
    have HS := hide (show Since w W by rw [hW]; exact (Since.refl w).alloc _)
    have HW := hide hW
    have hcell : ∀ w', Since W w' → w'.cell? ⟨b, o, none⟩ = some (.int .u8 (l.getD 0 0)) ∧ w'.cell? ⟨b, o + 1, none⟩ = some (.int .u8 (l.getD 1 0)) ∧ w'.cell? ⟨b, o + 10, none⟩ = some (.int .u8 (l.getD 10 0)) := by
      intro w' hs
      have hq : ∀ j, w'.cell? ⟨b, o + j, none⟩ = w.cell? ⟨b, o + j, none⟩ := fun j => (Below.cell hs (p := ⟨b, o + j, none⟩) (by show b < _; omega)).trans (Below.cell HS.out hlt)
      exact ⟨(hq 0).trans (HC.out 0 (by omega)), (hq 1).trans (HC.out 1 (by omega)), (hq 10).trans (HC.out 10 (by omega))⟩
    obtain ⟨f, hf⟩ : ∃ f : Nat → Nat → Int, f = fun j k => num ((l.drop j).take k) := ⟨_, rfl⟩
    have htake : ∀ (j k d : Nat) w', j + k ≤ 13 → k ≤ 8 → 1 ≤ k → d = c - j → Since W w' → Calls Tryd.prog 29 #[.slice (some ⟨b, o + j, none⟩) k d] w' fun e w2 => e = .returned (.int .u64 (f j k)) ∧ w' = w2 := by
      intro j k d w' hjk hk hk1 hd hs
      subst hd hf
      have hm := H.out.mid (i := j) (k := k) hjk
      rw [if_neg (by omega)] at hm
      rw [show (Option.map (fun x : Addr => x.add j) (some ⟨b, o, none⟩)) = some (⟨b, o + j, none⟩ : Addr) by first | rfl | simp [Addr.add] | (simp [Addr.add]; omega)] at hm
      exact get_any P _ k _ _ w' (hs.row (HS.out.row hm)) ((HO.out.drop j).take k) hk
    have HT := hide htake
    have hz0 := HO.out.getD 0
    have hz1 := HO.out.getD 1
    have hz10 := HO.out.getD 10
    have hrd := hide (show readE l = ⟨l.getD 0 0, l.getD 1 0, IntKind.i64.wrap (f 2 8), l.getD 10 0, f 11 2⟩ by rw [hf]; rfl)
    have hcap' : (13 : Int) ≤ c := by omega
    have b11 : 0 ≤ f 11 2 ∧ f 11 2 ≤ 72057594037927935 := by rw [hf]; exact num_small (l.drop 11) (HO.out.drop 11) 2 (by omega)
    obtain ⟨b110, b111⟩ := b11
    have HMC := hide (show codeE (readE l) = 0 → getE l = some (readE l) from fun hm => by unfold getE; rw [if_pos ⟨HM.out, hm⟩])
    have HNC := hide (show codeE (readE l) ≠ 0 → getE l = none from fun hm => getE_no (.inr hm))
    rw [hrd.out] at HMC HNC
    generalize l.getD 0 0 = z0 at *
    generalize l.getD 1 0 = z1 at *
    generalize l.getD 10 0 = z10 at *
    have hc0 : ∀ w', Since W w' → w'.cell? ⟨b, o, none⟩ = some (.int .u8 z0) := fun w' h => (hcell w' h).1
    have hc1 : ∀ w', Since W w' → w'.cell? ⟨b, o + 1, none⟩ = some (.int .u8 z1) := fun w' h => (hcell w' h).2.1
    have hc10 : ∀ w', Since W w' → w'.cell? ⟨b, o + 10, none⟩ = some (.int .u8 z10) := fun w' h => (hcell w' h).2.2
    have hw0 : IntKind.i64.wrap z0 = z0 := by rw [IntKind.wrap_i64]; omega
    have hw1 : IntKind.i64.wrap z1 = z1 := by rw [IntKind.wrap_i64]; omega
    have hw10 : IntKind.i64.wrap z10 = z10 := by rw [IntKind.wrap_i64]; omega
    have hw11 : IntKind.i64.wrap (f 11 2) = f 11 2 := by rw [IntKind.wrap_i64]; omega
    obtain ⟨m, hm2⟩ : ∃ m, IntKind.i64.wrap (f 2 8) = m := ⟨_, rfl⟩
    rw [hm2] at HMC HNC hrd
    clear htake hcell HC hW hf
    have hr0 := (Since.refl W).drew
    have hs2 : ∀ W, (Instr.slice 26 (.slice (some ⟨b, o, none⟩) 13 c) (some (.int .i64 2)) (some (.int .i64 10)) none).run Tryd.prog W = .ok (.slice (some ⟨b, o + 2, none⟩) 8 (c - 2)) W := fun W => by
      have := cut_run W (some ⟨b, o, none⟩) 13 c 2 8 (by omega)
      rw [if_neg (by omega)] at this
      exact this
    have hs11 : ∀ W, (Instr.slice 26 (.slice (some ⟨b, o, none⟩) 13 c) (some (.int .i64 11)) (some (.int .i64 13)) none).run Tryd.prog W = .ok (.slice (some ⟨b, o + 11, none⟩) 2 (c - 11)) W := fun W => by
      have := cut_run W (some ⟨b, o, none⟩) 13 c 11 2 (by omega)
      rw [if_neg (by omega)] at this
      exact this
    go_enter Tryd.func13, Tryd.ntmps13
    go_wp2_with fail
    rw [← HW.out]
    go_region_held3 (fun w' => Since W w') (first
      | assumption
      | exact Since.alloc (by assumption) _
      | exact Since.drew (Since.alloc (Since.refl _) _)
      | exact Since.drew (by assumption)) (first
      | (go_at_call 29; refine (HT.out _ _ _ _ (by omega) (by omega) (by omega) rfl (by assumption)).mono ?_; rintro e w5 ⟨rfl, rfl⟩))
    all_goals
      go_wp2_with fail
      refine (refmaye_any ⟨z0, z1, m, z10, f 11 2⟩ _).mono ?_
      rintro e w5 ⟨rfl, hb⟩
      obtain ⟨hz, ⟨d0, d1, d2, d3, d4⟩, hbw⟩ := two_effs w w5 _ ⟨z0, z1, m, z10, f 11 2⟩ _ (by rw [HW.out]; rfl) hb
      simp only [Nat.zero_add] at d0 d1 d2 d3 d4
      have e0 := hz.cell 0
      have e1 := hz.cell 1
      have e2 := hz.cell 2
      have e3 := hz.cell 3
      have e4 := hz.cell 4
      have f0 := hz.frozen 0
      have f1 := hz.frozen 1
      have f2 := hz.frozen 2
      have f3 := hz.frozen 3
      have f4 := hz.frozen 4
      have HBW5 := hide hbw
      have HZ5 := hide hz
      clear hb hbw hz
      unfold zerosEff at e0 e1 e2 e3 e4
      simp at e0 e1 e2 e3 e4
      by_cases hmc : codeE ⟨z0, z1, m, z10, f 11 2⟩ = 0
      · have HG := hide (HMC.out hmc)
        rw [hmc]
        clear hmc
        go_wp2
        have hch : ((((w5.setCell ⟨w.heap.size, 0, none⟩ (.int .i64 z0)).setCell ⟨w.heap.size, 1, none⟩ (.int .i64 z1)).setCell ⟨w.heap.size, 2, none⟩ (.int .i64 m)).setCell ⟨w.heap.size, 3, none⟩ (.int .i64 z10)).setCell ⟨w.heap.size, 4, none⟩ (.int .i64 (f 11 2)) = storeEff w5 w.heap.size (⟨z0, z1, m, z10, f 11 2⟩ : Eff) := rfl
        rw [hch]
        obtain ⟨g0, g1, g2, g3, g4⟩ := storeEff_at HZ5.out (⟨z0, z1, m, z10, f 11 2⟩ : Eff)
        have HB6 := hide (storeEff_below HBW5.out (Nat.le_refl _) (⟨z0, z1, m, z10, f 11 2⟩ : Eff))
        simp only [Nat.zero_add] at g0 g1 g2 g3 g4
        generalize storeEff w5 w.heap.size (⟨z0, z1, m, z10, f 11 2⟩ : Eff) = w6 at *
        clear hch d0 d1 d2 d3 d4 e0 e1 e2 e3 e4 f0 f1 f2 f3 f4
        refine bodyPost_ret (v := .tuple #[(⟨z0, z1, m, z10, f 11 2⟩ : Eff).val, .bool true]) (by simp [results, Tryd.results13, go_sem, g0, g1, g2, g3, g4, Eff.val]) rfl ?_
        exact GotE.some HG.out rfl HB6.out
      · have HG := hide (HNC.out hmc)
        obtain ⟨kk, hkk⟩ : ∃ kk, codeE ⟨z0, z1, m, z10, f 11 2⟩ = kk := ⟨_, rfl⟩
        rw [hkk]
        have hne : (kk == 0) = false := by rw [← hkk]; exact beq_eq_false_iff_ne.mpr hmc
        clear hmc hkk
        go_wp2
        have hch : ((((w5.setCell ⟨w.heap.size, 0, none⟩ (.int .i64 0)).setCell ⟨w.heap.size, 1, none⟩ (.int .i64 0)).setCell ⟨w.heap.size, 2, none⟩ (.int .i64 0)).setCell ⟨w.heap.size, 3, none⟩ (.int .i64 0)).setCell ⟨w.heap.size, 4, none⟩ (.int .i64 0) = storeEff w5 w.heap.size zeroEff := rfl
        rw [hch]
        obtain ⟨g0, g1, g2, g3, g4⟩ := storeEff_at HZ5.out zeroEff
        have HB6 := hide (storeEff_below HBW5.out (Nat.le_refl _) zeroEff)
        simp only [Nat.zero_add] at g0 g1 g2 g3 g4
        generalize storeEff w5 w.heap.size zeroEff = w6 at *
        clear hch d0 d1 d2 d3 d4 e0 e1 e2 e3 e4 f0 f1 f2 f3 f4
        refine bodyPost_ret (v := .tuple #[zeroEff.val, .bool false]) (by simp [results, Tryd.results13, go_sem, g0, g1, g2, g3, g4, Eff.val, zeroEff]) rfl ?_
        exact GotE.none HG.out rfl HB6.out
  · have HN := hide (getE_no (l := l) (.inl (by rw [HM.out]; exact h13)))
    have HBW := hide ((Below.refl w.heap.size w).alloc (Nat.le_refl _) (.cells #[.int .i64 0, .int .i64 0, .int .i64 0, .int .i64 0, .int .i64 0] 25))
    go_enter Tryd.func13, Tryd.ntmps13
    go_wp2
    go_returns
    exact GotE.none HN.out (by simp) (by first | exact HBW.out | go_grown)
end Go.Proofs.YtdlmpdhbehpmpaaDoor
