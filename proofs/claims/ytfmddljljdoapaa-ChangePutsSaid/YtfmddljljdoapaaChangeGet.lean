/-
  The reference's contracts of layer 9: the change that may be whose octets they are.
-/
import Derived.Test.YtfmddljljdoapaaChangeMay
import Derived.Test.YtfmddljljdoapaaChangeVars
import Derived.Test.YtfmddljljdoapaaOctC
import Derived.Deep.RegionHeld3
import Derived.Handy
namespace Go.Proofs.Ytfmddljljdoapaa
open Go.RowKit
set_option linter.unusedVariables false

def zeroC : Chg := ⟨0, 0, 0, 0, 0, 0, 0, 0, 0⟩
def valC (l : List Int) : Chg := (getC l).getD zeroC
def GotC (w : World) (l : List Int) (w' : World) (e : Ending) : Prop := e = .returned (.tuple #[(valC l).val, .bool (getC l).isSome]) ∧ Below w.heap.size w w'
theorem getC_no {l : List Int} (h : l.length ≠ 22 ∨ l.getD 21 0 ≠ 67 ∨ mayC (readC l) = false) : getC l = none := by
  unfold getC
  rw [if_neg]
  rintro ⟨h1, h2, h3⟩
  rcases h with h | h | h
  · exact h h1
  · exact h h2
  · rw [h] at h3; cases h3
theorem GotC.none {w w' : World} {l : List Int} {e : Ending} (h : getC l = none) (he : e = .returned (.tuple #[.agg #[.int .i64 0, .int .i64 0, .int .i64 0, .int .i64 0, .int .i64 0, .int .i64 0, .int .i64 0, .int .i64 0, .int .i64 0], .bool false])) (hb : Below w.heap.size w w') : GotC w l w' e := by
  unfold GotC valC
  rw [h]
  exact ⟨he, hb⟩
theorem GotC.some {w w' : World} {l : List Int} {x : Chg} {e : Ending} (h : getC l = some x) (he : e = .returned (.tuple #[x.val, .bool true])) (hb : Below w.heap.size w w') : GotC w l w' e := by
  unfold GotC valC
  rw [h]
  exact ⟨he, hb⟩

set_option maxHeartbeats 8000000 in
theorem refgetc_any (P : Nat → Prop) (A : Option Addr) (n c : Nat) (l : List Int) (w : World) (h : Row w P A n c (octs l)) (ho : Octs l) (hn : n ≤ 140737488355000) :
    Calls Try.prog 12 #[.slice A n c] w fun e w' => GotC w l w' e := by
  have HM := hide (show l.length = n by rw [← h.1, octs_len])
  by_cases h22 : n = 22
  · subst h22
    obtain ⟨b, o, rfl, -, hlt, hc⟩ := h.some_ (by omega)
    have HC := hide (fun j (hj : j < 22) => (hc j hj).trans (octs_at l j (by rw [HM.out]; exact hj)))
    have HBW := hide ((Below.refl w.heap.size w).alloc (Nat.le_refl _) (.cells #[.int .i64 0, .int .i64 0, .int .i64 0, .int .i64 0, .int .i64 0, .int .i64 0, .int .i64 0, .int .i64 0, .int .i64 0] 25))
    have c21 := HC.out 21 (by omega)
    have H := hide h
    have HO := hide ho
    have hz21 := ho.getD 21
    have hcap := h.2.1
    clear hc h ho
    by_cases h67 : l.getD 21 0 = 67
    · rw [h67] at c21
      have H67 := hide h67
      clear h67 hz21
      obtain ⟨W, hW⟩ : ∃ W, W = w.alloc (.cells #[.int .i64 0, .int .i64 0, .int .i64 0, .int .i64 0, .int .i64 0, .int .i64 0, .int .i64 0, .int .i64 0, .int .i64 0] 25) := ⟨_, rfl⟩
      have hWs : W.heap.size = w.heap.size + 1 := by rw [hW]; simp
      have HS := hide (show Since w W by rw [hW]; exact (Since.refl w).alloc _)
      have HW := hide hW
      have hcell : ∀ w', Since W w' → w'.cell? ⟨b, o, none⟩ = some (.int .u8 (l.getD 0 0)) ∧ w'.cell? ⟨b, o + 7, none⟩ = some (.int .u8 (l.getD 7 0)) ∧ w'.cell? ⟨b, o + 8, none⟩ = some (.int .u8 (l.getD 8 0)) ∧ w'.cell? ⟨b, o + 9, none⟩ = some (.int .u8 (l.getD 9 0)) ∧ w'.cell? ⟨b, o + 18, none⟩ = some (.int .u8 (l.getD 18 0)) := by
        intro w' hs
        have hq : ∀ j, w'.cell? ⟨b, o + j, none⟩ = w.cell? ⟨b, o + j, none⟩ := fun j => (Below.cell hs (p := ⟨b, o + j, none⟩) (by show b < _; omega)).trans (Below.cell HS.out hlt)
        exact ⟨(hq 0).trans (HC.out 0 (by omega)), (hq 7).trans (HC.out 7 (by omega)), (hq 8).trans (HC.out 8 (by omega)), (hq 9).trans (HC.out 9 (by omega)), (hq 18).trans (HC.out 18 (by omega))⟩
      obtain ⟨f, hf⟩ : ∃ f : Nat → Nat → Int, f = fun j k => num ((l.drop j).take k) := ⟨_, rfl⟩
      have htake : ∀ (j k d : Nat) w', j + k ≤ 22 → k ≤ 8 → 1 ≤ k → d = c - j → Since W w' → Calls Try.prog 25 #[.slice (some ⟨b, o + j, none⟩) k d] w' fun e w2 => e = .returned (.int .u64 (f j k)) ∧ w' = w2 := by
        intro j k d w' hjk hk hk1 hd hs
        subst hd hf
        have hm := H.out.mid (i := j) (k := k) hjk
        rw [if_neg (by omega)] at hm
        rw [show (Option.map (fun x : Addr => x.add j) (some ⟨b, o, none⟩)) = some (⟨b, o + j, none⟩ : Addr) by first | rfl | simp [Addr.add] | (simp [Addr.add]; omega)] at hm
        exact get_any P _ k _ _ w' (hs.row (HS.out.row hm)) ((HO.out.drop j).take k) hk
      have HT := hide htake
      have hz0 := HO.out.getD 0
      have hz7 := HO.out.getD 7
      have hz8 := HO.out.getD 8
      have hz9 := HO.out.getD 9
      have hz18 := HO.out.getD 18
      have hrd := hide (show readC l = ⟨l.getD 0 0, f 1 2, f 3 4, l.getD 7 0, l.getD 8 0, l.getD 9 0, IntKind.i64.wrap (f 10 8), l.getD 18 0, f 19 2⟩ by rw [hf]; rfl)
      have hcap' : (22 : Int) ≤ c := by omega
      have b1 : 0 ≤ f 1 2 ∧ f 1 2 ≤ 72057594037927935 := by rw [hf]; exact num_small (l.drop 1) (HO.out.drop 1) 2 (by omega)
      have b3 : 0 ≤ f 3 4 ∧ f 3 4 ≤ 72057594037927935 := by rw [hf]; exact num_small (l.drop 3) (HO.out.drop 3) 4 (by omega)
      have b19 : 0 ≤ f 19 2 ∧ f 19 2 ≤ 72057594037927935 := by rw [hf]; exact num_small (l.drop 19) (HO.out.drop 19) 2 (by omega)
      obtain ⟨b10, b11⟩ := b1
      obtain ⟨b30, b31⟩ := b3
      obtain ⟨b190, b191⟩ := b19
      have HMC := hide (show mayC (readC l) = true → getC l = some (readC l) from fun hm => by unfold getC; rw [if_pos ⟨HM.out, H67.out, hm⟩])
      have HNC := hide (show mayC (readC l) = false → getC l = none from fun hm => getC_no (.inr (.inr hm)))
      rw [hrd.out] at HMC HNC
      generalize l.getD 0 0 = z0 at *
      generalize l.getD 7 0 = z7 at *
      generalize l.getD 8 0 = z8 at *
      generalize l.getD 9 0 = z9 at *
      generalize l.getD 18 0 = z18 at *
      have hc0 : ∀ w', Since W w' → w'.cell? ⟨b, o, none⟩ = some (.int .u8 z0) := fun w' h => (hcell w' h).1
      have hc7 : ∀ w', Since W w' → w'.cell? ⟨b, o + 7, none⟩ = some (.int .u8 z7) := fun w' h => (hcell w' h).2.1
      have hc8 : ∀ w', Since W w' → w'.cell? ⟨b, o + 8, none⟩ = some (.int .u8 z8) := fun w' h => (hcell w' h).2.2.1
      have hc9 : ∀ w', Since W w' → w'.cell? ⟨b, o + 9, none⟩ = some (.int .u8 z9) := fun w' h => (hcell w' h).2.2.2.1
      have hc18 : ∀ w', Since W w' → w'.cell? ⟨b, o + 18, none⟩ = some (.int .u8 z18) := fun w' h => (hcell w' h).2.2.2.2
      have hw0 : IntKind.i64.wrap z0 = z0 := by rw [IntKind.wrap_i64]; omega
      have hw7 : IntKind.i64.wrap z7 = z7 := by rw [IntKind.wrap_i64]; omega
      have hw8 : IntKind.i64.wrap z8 = z8 := by rw [IntKind.wrap_i64]; omega
      have hw9 : IntKind.i64.wrap z9 = z9 := by rw [IntKind.wrap_i64]; omega
      have hw18 : IntKind.i64.wrap z18 = z18 := by rw [IntKind.wrap_i64]; omega
      have hw1 : IntKind.i64.wrap (f 1 2) = f 1 2 := by rw [IntKind.wrap_i64]; omega
      have hw3 : IntKind.i64.wrap (f 3 4) = f 3 4 := by rw [IntKind.wrap_i64]; omega
      have hw19 : IntKind.i64.wrap (f 19 2) = f 19 2 := by rw [IntKind.wrap_i64]; omega
      obtain ⟨m, hm10⟩ : ∃ m, IntKind.i64.wrap (f 10 8) = m := ⟨_, rfl⟩
      rw [hm10] at HMC HNC hrd
      clear htake hcell HC hW hf
      have hr0 := (Since.refl W).drew
      have hs1 : ∀ W, (Instr.slice 27 (.slice (some ⟨b, o, none⟩) 22 c) (some (.int .i64 1)) (some (.int .i64 3)) none).run Try.prog W = .ok (.slice (some ⟨b, o + 1, none⟩) 2 (c - 1)) W := fun W => by
        have := cut_run W (some ⟨b, o, none⟩) 22 c 1 2 (by omega)
        rw [if_neg (by omega)] at this
        exact this
      have hs3 : ∀ W, (Instr.slice 27 (.slice (some ⟨b, o, none⟩) 22 c) (some (.int .i64 3)) (some (.int .i64 7)) none).run Try.prog W = .ok (.slice (some ⟨b, o + 3, none⟩) 4 (c - 3)) W := fun W => by
        have := cut_run W (some ⟨b, o, none⟩) 22 c 3 4 (by omega)
        rw [if_neg (by omega)] at this
        exact this
      have hs10 : ∀ W, (Instr.slice 27 (.slice (some ⟨b, o, none⟩) 22 c) (some (.int .i64 10)) (some (.int .i64 18)) none).run Try.prog W = .ok (.slice (some ⟨b, o + 10, none⟩) 8 (c - 10)) W := fun W => by
        have := cut_run W (some ⟨b, o, none⟩) 22 c 10 8 (by omega)
        rw [if_neg (by omega)] at this
        exact this
      have hs19 : ∀ W, (Instr.slice 27 (.slice (some ⟨b, o, none⟩) 22 c) (some (.int .i64 19)) (some (.int .i64 21)) none).run Try.prog W = .ok (.slice (some ⟨b, o + 19, none⟩) 2 (c - 19)) W := fun W => by
        have := cut_run W (some ⟨b, o, none⟩) 22 c 19 2 (by omega)
        rw [if_neg (by omega)] at this
        exact this
      go_enter Try.func12, Try.ntmps12
      go_wp2_with fail
      rw [← HW.out]
      go_region_held3 (fun w' => Since W w') (first
        | assumption
        | exact Since.alloc (by assumption) _
        | exact Since.drew (Since.alloc (Since.refl _) _)
        | exact Since.drew (by assumption)) (first
        | (go_at_call 25; refine (HT.out _ _ _ _ (by omega) (by omega) (by omega) rfl (by assumption)).mono ?_; rintro e w5 ⟨rfl, rfl⟩))
      all_goals
        go_wp2_with fail
        refine (refmayc_any ⟨z0, f 1 2, f 3 4, z7, z8, z9, m, z18, f 19 2⟩ _).mono ?_
        rintro e w5 ⟨rfl, hb⟩
        obtain ⟨hz, ⟨d0, d1, d2, d3, d4, d5, d6, d7, d8⟩, hbw⟩ := two_vars w w5 _ ⟨z0, f 1 2, f 3 4, z7, z8, z9, m, z18, f 19 2⟩ _ (by rw [HW.out]; rfl) hb
        simp only [Nat.zero_add] at d0 d1 d2 d3 d4 d5 d6 d7 d8
        have e0 := hz.cell 0
        have e1 := hz.cell 1
        have e2 := hz.cell 2
        have e3 := hz.cell 3
        have e4 := hz.cell 4
        have e5 := hz.cell 5
        have e6 := hz.cell 6
        have e7 := hz.cell 7
        have e8 := hz.cell 8
        have f0 := hz.frozen 0
        have f1 := hz.frozen 1
        have f2 := hz.frozen 2
        have f3 := hz.frozen 3
        have f4 := hz.frozen 4
        have f5 := hz.frozen 5
        have f6 := hz.frozen 6
        have f7 := hz.frozen 7
        have f8 := hz.frozen 8
        have HBW5 := hide hbw
        have HZ5 := hide hz
        clear hb hbw hz
        unfold zeros9 at e0 e1 e2 e3 e4 e5 e6 e7 e8
        simp at e0 e1 e2 e3 e4 e5 e6 e7 e8
        cases hmc : mayC ⟨z0, f 1 2, f 3 4, z7, z8, z9, m, z18, f 19 2⟩ with
        | true =>
          have HG := hide (HMC.out hmc)
          clear hmc
          go_wp2
          have hch : ((((((((w5.setCell ⟨w.heap.size, 0, none⟩ (.int .i64 z0)).setCell ⟨w.heap.size, 1, none⟩ (.int .i64 (f 1 2))).setCell ⟨w.heap.size, 2, none⟩ (.int .i64 (f 3 4))).setCell ⟨w.heap.size, 3, none⟩ (.int .i64 z7)).setCell ⟨w.heap.size, 4, none⟩ (.int .i64 z8)).setCell ⟨w.heap.size, 5, none⟩ (.int .i64 z9)).setCell ⟨w.heap.size, 6, none⟩ (.int .i64 m)).setCell ⟨w.heap.size, 7, none⟩ (.int .i64 z18)).setCell ⟨w.heap.size, 8, none⟩ (.int .i64 (f 19 2)) = store9 w5 w.heap.size (⟨z0, f 1 2, f 3 4, z7, z8, z9, m, z18, f 19 2⟩ : Chg) := rfl
          rw [hch]
          obtain ⟨g0, g1, g2, g3, g4, g5, g6, g7, g8⟩ := store9_at HZ5.out (⟨z0, f 1 2, f 3 4, z7, z8, z9, m, z18, f 19 2⟩ : Chg)
          have HB6 := hide (store9_below HBW5.out (Nat.le_refl _) (⟨z0, f 1 2, f 3 4, z7, z8, z9, m, z18, f 19 2⟩ : Chg))
          simp only [Nat.zero_add] at g0 g1 g2 g3 g4 g5 g6 g7 g8
          generalize store9 w5 w.heap.size (⟨z0, f 1 2, f 3 4, z7, z8, z9, m, z18, f 19 2⟩ : Chg) = w6 at *
          clear hch d0 d1 d2 d3 d4 d5 d6 d7 d8 e0 e1 e2 e3 e4 e5 e6 e7 e8 f0 f1 f2 f3 f4 f5 f6 f7 f8
          refine bodyPost_ret (v := .tuple #[(⟨z0, f 1 2, f 3 4, z7, z8, z9, m, z18, f 19 2⟩ : Chg).val, .bool true]) (by simp [results, Try.results12, go_sem, g0, g1, g2, g3, g4, g5, g6, g7, g8, Chg.val]) rfl ?_
          exact GotC.some HG.out rfl HB6.out
        | false =>
          have HG := hide (HNC.out hmc)
          clear hmc
          go_wp2
          have hch : ((((((((w5.setCell ⟨w.heap.size, 0, none⟩ (.int .i64 0)).setCell ⟨w.heap.size, 1, none⟩ (.int .i64 0)).setCell ⟨w.heap.size, 2, none⟩ (.int .i64 0)).setCell ⟨w.heap.size, 3, none⟩ (.int .i64 0)).setCell ⟨w.heap.size, 4, none⟩ (.int .i64 0)).setCell ⟨w.heap.size, 5, none⟩ (.int .i64 0)).setCell ⟨w.heap.size, 6, none⟩ (.int .i64 0)).setCell ⟨w.heap.size, 7, none⟩ (.int .i64 0)).setCell ⟨w.heap.size, 8, none⟩ (.int .i64 0) = store9 w5 w.heap.size zeroC := rfl
          rw [hch]
          obtain ⟨g0, g1, g2, g3, g4, g5, g6, g7, g8⟩ := store9_at HZ5.out zeroC
          have HB6 := hide (store9_below HBW5.out (Nat.le_refl _) zeroC)
          simp only [Nat.zero_add] at g0 g1 g2 g3 g4 g5 g6 g7 g8
          generalize store9 w5 w.heap.size zeroC = w6 at *
          clear hch d0 d1 d2 d3 d4 d5 d6 d7 d8 e0 e1 e2 e3 e4 e5 e6 e7 e8 f0 f1 f2 f3 f4 f5 f6 f7 f8
          refine bodyPost_ret (v := .tuple #[zeroC.val, .bool false]) (by simp [results, Try.results12, go_sem, g0, g1, g2, g3, g4, g5, g6, g7, g8, Chg.val, zeroC]) rfl ?_
          exact GotC.none HG.out rfl HB6.out
    · have HN := hide (getC_no (.inr (.inl h67)))
      generalize l.getD 21 0 = z at *
      go_enter Try.func12, Try.ntmps12
      go_wp2
      go_returns
      exact GotC.none HN.out (by simp) (by first | exact HBW.out | go_grown)
  · have HN := hide (getC_no (l := l) (.inl (by rw [HM.out]; exact h22)))
    go_enter Try.func12, Try.ntmps12
    go_wp2
    go_returns
    exact GotC.none HN.out (by simp) (by first | exact HBW.out | go_grown)
end Go.Proofs.Ytfmddljljdoapaa
