/-
  The program's contracts of layer 9: Get, whose octets a closure takes. (Made by gen-changetake.py.)
-/
import Derived.Test.YtfmddljljdoapaaChangeCheck
import Derived.Test.YtfmddljljdoapaaOctB
namespace Go.Proofs.Ytfmddljljdoapaa
open Go.RowKit
set_option linter.unusedVariables false

def TookOne (P : Nat → Prop) (g k : Nat) (l : List Int) (w w' : World) (e : Ending) : Prop :=
  e = .returned (.int .i64 (IntKind.i64.wrap (num (l.take k)))) ∧ Rdr w' P g (l.drop k) ∧ Touch (· = g) w w'
set_option maxHeartbeats 2000000 in
theorem ctakeone_any (P : Nat → Prop) (R g : Nat) (l : List Int) (k : Nat) (w : World) (hv : Blk w R 57 #[.pointer (some ⟨g, 0, none⟩)]) (h : Rdr w P g l) (hk : k ≤ l.length) (h1 : 1 ≤ k) (h8 : k ≤ 8) :
    Calls Try.prog 31 #[.int .i64 k, .pointer (some ⟨R, 0, none⟩)] w fun e w' => TookOne P g k l w w' e := by
  have c0 := (hv.cell 0).trans (show _ = some (Value.pointer (some ⟨g, 0, none⟩)) from rfl)
  have HR := hide h
  clear hv h
  go_enter Try.func31, Try.ntmps31
  go_wp2_with fail
  refine (take_yes P g l k _ HR.out hk h1 h8).mono ?_
  rintro e w1 ⟨rfl, hr, ht⟩
  have HR1 := hide hr
  have HT := hide ht
  have HZ := hide (IntWalk.i64_left (num (l.take k)))
  clear hr ht
  go_wp2
  go_ret
  exact ⟨by rw [HZ.out]; rfl, HR1.out, HT.out⟩

/-- What the words of taken stand at: the result, the variable of the reader, the change's variable. -/
structure TkS (w : World) (S R C g : Nat) (P : Nat → Prop) (l : List Int) (cs : Array Value) (w' : World) : Prop where
  hs : Blk w' S 25 zeros9
  hr : Blk w' R 57 #[.pointer (some ⟨g, 0, none⟩)]
  hc : Blk w' C 25 cs
  rd : Rdr w' P g l
  hb : Below w.heap.size w w'
  ds : ¬ P S
  dr : ¬ P R
  dc : ¬ P C
  ne : S ≠ C ∧ R ≠ C ∧ w.heap.size ≤ C ∧ w.heap.size ≤ g
theorem TkS.step {w : World} {S R C g : Nat} {P : Nat → Prop} {l m : List Int} {cs : Array Value} {w1 w2 : World} (h : TkS w S R C g P l cs w1) (hr : Rdr w2 P g m) (ht : Touch (· = g) w1 w2) : TkS w S R C g P m cs w2 := by
  have hg : P g := by obtain ⟨_, _, _, _, _, hg, _⟩ := hr; exact hg
  exact ⟨h.hs.touch ht (fun e => h.ds (e ▸ hg)), h.hr.touch ht (fun e => h.dr (e ▸ hg)), h.hc.touch ht (fun e => h.dc (e ▸ hg)), hr, h.hb.trans (ht.below h.hb.size (fun k hk e => by have := h.ne.2.2.2; omega)), h.ds, h.dr, h.dc, h.ne⟩
theorem TkS.set {w : World} {S R C g : Nat} {P : Nat → Prop} {l : List Int} {cs : Array Value} {w1 : World} (h : TkS w S R C g P l cs w1) (i : Nat) (v : Value) : TkS w S R C g P l (cs.setIfInBounds i v) (w1.setCell ⟨C, i, none⟩ v) :=
  ⟨h.hs.far h.ne.1 v, h.hr.far h.ne.2.1 v, h.hc.store i v, h.rd.keep (fun b hb _ => Below.heap_setCell w1 ⟨C, i, none⟩ v b (fun e => h.dc (by have e' : b = C := e; exact e' ▸ hb))), h.hb.setCell h.ne.2.2.1 v, h.ds, h.dr, h.dc, h.ne⟩

/-- What is taken of twenty-two octets is what they read as. -/
theorem readC_taken {l : List Int} (ho : Octs l) (h : l.length = 22) : readC l = ⟨IntKind.i64.wrap (num (l.take 1)), IntKind.i64.wrap (num ((l.drop 1).take 2)), IntKind.i64.wrap (num ((l.drop 3).take 4)), IntKind.i64.wrap (num ((l.drop 7).take 1)), IntKind.i64.wrap (num ((l.drop 8).take 1)), IntKind.i64.wrap (num ((l.drop 9).take 1)), IntKind.i64.wrap (num ((l.drop 10).take 8)), IntKind.i64.wrap (num ((l.drop 18).take 1)), IntKind.i64.wrap (num ((l.drop 19).take 2))⟩ := by
  have w0 : ∀ z : Int, 0 ≤ z → z < 72057594037927936 → IntKind.i64.wrap z = z := fun z h1 h2 => by rw [IntKind.wrap_i64]; omega
  have hone : ∀ j, j < 22 → num ((l.drop j).take 1) = l.getD j 0 := by
    intro j hj
    have e : (l.drop j).take 1 = [l.getD j 0] := by
      rw [List.drop_eq_getElem_cons (by omega), List.take_succ_cons, List.take_zero, List.getD_eq_getElem?_getD, List.getElem?_eq_getElem (by omega)]
      rfl
    rw [e]
    simp [num]
  have hz := hone 0 (by omega)
  rw [List.drop_zero] at hz
  have hs : ∀ j k, k ≤ 7 → 0 ≤ num ((l.drop j).take k) ∧ num ((l.drop j).take k) ≤ 72057594037927935 := fun j k hk => num_small (l.drop j) (ho.drop j) k hk
  have hb : ∀ j, 0 ≤ l.getD j 0 ∧ l.getD j 0 < 256 := fun j => ho.getD j
  rw [hz, hone 7 (by omega), hone 8 (by omega), hone 9 (by omega), hone 18 (by omega)]
  rw [w0 _ (hb 0).1 (by have := (hb 0).2; omega), w0 _ (hb 7).1 (by have := (hb 7).2; omega), w0 _ (hb 8).1 (by have := (hb 8).2; omega), w0 _ (hb 9).1 (by have := (hb 9).2; omega), w0 _ (hb 18).1 (by have := (hb 18).2; omega)]
  rw [w0 _ (hs 1 2 (by omega)).1 (by have := (hs 1 2 (by omega)).2; omega), w0 _ (hs 3 4 (by omega)).1 (by have := (hs 3 4 (by omega)).2; omega), w0 _ (hs 19 2 (by omega)).1 (by have := (hs 19 2 (by omega)).2; omega)]
  rfl

set_option maxHeartbeats 8000000 in
theorem ctaken_any (P : Nat → Prop) (A : Option Addr) (c : Nat) (l : List Int) (w : World) (h : Row w P A 22 c (octs l)) (ho : Octs l) :
    Calls Try.prog 23 #[.slice A 22 c] w fun e w' => e = .returned (readC l).val ∧ Below w.heap.size w w' := by
  have hl : l.length = 22 := by rw [← h.1, octs_len]
  have HL := hide hl
  have HRD := hide (readC_taken ho hl)
  obtain ⟨W, hW⟩ : ∃ W, W = w.alloc (.cells #[.int .i64 0, .int .i64 0, .int .i64 0, .int .i64 0, .int .i64 0, .int .i64 0, .int .i64 0, .int .i64 0, .int .i64 0] 25) := ⟨_, rfl⟩
  have HS := hide (show Blk W w.heap.size 25 zeros9 by rw [hW]; exact Blk.new w _ _)
  have HB := hide (show Below w.heap.size w W by rw [hW]; exact (Below.refl _ w).alloc (Nat.le_refl _) _)
  have HWs := hide (show W.heap.size = w.heap.size + 1 by rw [hW]; simp)
  have HR := hide (show Row W P A 22 c (octs l) by rw [hW]; exact h.alloc _)
  have HO := hide ho
  have HW := hide hW
  clear hW h ho hl
  go_enter Try.func23, Try.ntmps23
  go_wp2_with fail
  rw [← HW.out]
  refine (new_any P A 22 c l _ HR.out HO.out (by omega)).mono ?_
  rintro e w1 ⟨g, rfl, hg, hr, hb⟩
  have HT0 := hide (show ∃ W2, W2 = (w1.alloc (.cells #[.pointer (some ⟨g, 0, none⟩)] 57)).alloc (.cells #[.int .i64 0, .int .i64 0, .int .i64 0, .int .i64 0, .int .i64 0, .int .i64 0, .int .i64 0, .int .i64 0, .int .i64 0] 25) from ⟨_, rfl⟩)
  obtain ⟨W2, hW2⟩ := HT0.out
  have hgl : g < w1.heap.size := by obtain ⟨_, _, _, hgb, _⟩ := hr; exact hgb.lt
  have HT := hide (show TkS w w.heap.size w1.heap.size (w1.heap.size + 1) g (fun b => W.heap.size ≤ b ∧ b < w1.heap.size) l zeros9 W2 by
    have hs1 := HWs.out
    have hs2 := hb.size
    have hbw : Below w.heap.size w w1 := HB.out.trans (hb.mono (by omega))
    rw [hW2]
    refine ⟨((HS.out.below hb (by omega)).alloc _).alloc _, (Blk.new w1 _ _).alloc _, ?_, ?_, (hbw.alloc (by omega) _).alloc (by simp; omega) _, by omega, by omega, by omega, by omega, by omega, by omega, by omega⟩
    · have := Blk.new (w1.alloc (.cells #[.pointer (some ⟨g, 0, none⟩)] 57)) 25 zeros9
      simpa [zeros9] using this
    · obtain ⟨A, n, c, h1, h2, h3, h4⟩ := hr
      refine Rdr.keep (w := w1) ?_ fun b hb' hlt => (Below.heap_alloc _ _ b (by simp; omega)).trans (Below.heap_alloc w1 _ b hlt)
      refine ⟨A, n, c, h1, ?_, ⟨h3, hgl⟩, h4⟩
      refine ⟨h2.1, h2.2.1, h2.2.2.1, ?_⟩
      rcases Nat.eq_zero_or_pos n with h0 | h0
      · exact .inl h0
      · obtain ⟨b, o, e, hp, hlt, hc⟩ := h2.some_ h0
        exact .inr ⟨b, o, e, ⟨⟨hp.1, hlt⟩, hp.2⟩, hc⟩)
  have HW2 := hide hW2
  clear hW2 HT0 hg hr hb hgl
  go_wp2_with fail
  rw [← HW2.out]
  refine (ctakeone_any _ w1.heap.size g l 1 _ HT.out.hr HT.out.rd (by simp [HL.out]) (by omega) (by omega)).mono ?_
  rintro e w2 ⟨rfl, hr, ht⟩
  have HT := hide (HT.out.step hr ht)
  have e0 := HT.out.hc.cell 0
  have f0 := HT.out.hc.frozen 0
  simp [zeros9] at e0
  clear hr ht
  have HT := hide (HT.out.set 0 (.int .i64 (IntKind.i64.wrap (num (l.take 1)))))
  generalize IntKind.i64.wrap (num (l.take 1)) = z0 at *
  go_wp2_with fail
  refine (ctakeone_any _ w1.heap.size g (l.drop 1) 2 _ HT.out.hr HT.out.rd (by simp [HL.out]) (by omega) (by omega)).mono ?_
  rintro e w3 ⟨rfl, hr, ht⟩
  rw [List.drop_drop] at hr
  have HT := hide (HT.out.step hr ht)
  clear e0 f0
  have e1 := HT.out.hc.cell 1
  have f1 := HT.out.hc.frozen 1
  simp [zeros9] at e1
  clear hr ht
  have HT := hide (HT.out.set 1 (.int .i64 (IntKind.i64.wrap (num ((l.drop 1).take 2)))))
  generalize IntKind.i64.wrap (num ((l.drop 1).take 2)) = z1 at *
  go_wp2_with fail
  refine (ctakeone_any _ w1.heap.size g (l.drop 3) 4 _ HT.out.hr HT.out.rd (by simp [HL.out]) (by omega) (by omega)).mono ?_
  rintro e w4 ⟨rfl, hr, ht⟩
  rw [List.drop_drop] at hr
  have HT := hide (HT.out.step hr ht)
  clear e1 f1
  have e2 := HT.out.hc.cell 2
  have f2 := HT.out.hc.frozen 2
  simp [zeros9] at e2
  clear hr ht
  have HT := hide (HT.out.set 2 (.int .i64 (IntKind.i64.wrap (num ((l.drop 3).take 4)))))
  generalize IntKind.i64.wrap (num ((l.drop 3).take 4)) = z2 at *
  go_wp2_with fail
  refine (ctakeone_any _ w1.heap.size g (l.drop 7) 1 _ HT.out.hr HT.out.rd (by simp [HL.out]) (by omega) (by omega)).mono ?_
  rintro e w5 ⟨rfl, hr, ht⟩
  rw [List.drop_drop] at hr
  have HT := hide (HT.out.step hr ht)
  clear e2 f2
  have e3 := HT.out.hc.cell 3
  have f3 := HT.out.hc.frozen 3
  simp [zeros9] at e3
  clear hr ht
  have HT := hide (HT.out.set 3 (.int .i64 (IntKind.i64.wrap (num ((l.drop 7).take 1)))))
  generalize IntKind.i64.wrap (num ((l.drop 7).take 1)) = z3 at *
  go_wp2_with fail
  refine (ctakeone_any _ w1.heap.size g (l.drop 8) 1 _ HT.out.hr HT.out.rd (by simp [HL.out]) (by omega) (by omega)).mono ?_
  rintro e w6 ⟨rfl, hr, ht⟩
  rw [List.drop_drop] at hr
  have HT := hide (HT.out.step hr ht)
  clear e3 f3
  have e4 := HT.out.hc.cell 4
  have f4 := HT.out.hc.frozen 4
  simp [zeros9] at e4
  clear hr ht
  have HT := hide (HT.out.set 4 (.int .i64 (IntKind.i64.wrap (num ((l.drop 8).take 1)))))
  generalize IntKind.i64.wrap (num ((l.drop 8).take 1)) = z4 at *
  go_wp2_with fail
  refine (ctakeone_any _ w1.heap.size g (l.drop 9) 1 _ HT.out.hr HT.out.rd (by simp [HL.out]) (by omega) (by omega)).mono ?_
  rintro e w7 ⟨rfl, hr, ht⟩
  rw [List.drop_drop] at hr
  have HT := hide (HT.out.step hr ht)
  clear e4 f4
  have e5 := HT.out.hc.cell 5
  have f5 := HT.out.hc.frozen 5
  simp [zeros9] at e5
  clear hr ht
  have HT := hide (HT.out.set 5 (.int .i64 (IntKind.i64.wrap (num ((l.drop 9).take 1)))))
  generalize IntKind.i64.wrap (num ((l.drop 9).take 1)) = z5 at *
  go_wp2_with fail
  refine (ctakeone_any _ w1.heap.size g (l.drop 10) 8 _ HT.out.hr HT.out.rd (by simp [HL.out]) (by omega) (by omega)).mono ?_
  rintro e w8 ⟨rfl, hr, ht⟩
  rw [List.drop_drop] at hr
  have HT := hide (HT.out.step hr ht)
  clear e5 f5
  have e6 := HT.out.hc.cell 6
  have f6 := HT.out.hc.frozen 6
  simp [zeros9] at e6
  clear hr ht
  have HT := hide (HT.out.set 6 (.int .i64 (IntKind.i64.wrap (num ((l.drop 10).take 8)))))
  generalize IntKind.i64.wrap (num ((l.drop 10).take 8)) = z6 at *
  go_wp2_with fail
  refine (ctakeone_any _ w1.heap.size g (l.drop 18) 1 _ HT.out.hr HT.out.rd (by simp [HL.out]) (by omega) (by omega)).mono ?_
  rintro e w9 ⟨rfl, hr, ht⟩
  rw [List.drop_drop] at hr
  have HT := hide (HT.out.step hr ht)
  clear e6 f6
  have e7 := HT.out.hc.cell 7
  have f7 := HT.out.hc.frozen 7
  simp [zeros9] at e7
  clear hr ht
  have HT := hide (HT.out.set 7 (.int .i64 (IntKind.i64.wrap (num ((l.drop 18).take 1)))))
  generalize IntKind.i64.wrap (num ((l.drop 18).take 1)) = z7 at *
  go_wp2_with fail
  refine (ctakeone_any _ w1.heap.size g (l.drop 19) 2 _ HT.out.hr HT.out.rd (by simp [HL.out]) (by omega) (by omega)).mono ?_
  rintro e w10 ⟨rfl, hr, ht⟩
  rw [List.drop_drop] at hr
  have HT := hide (HT.out.step hr ht)
  clear e7 f7
  have e8 := HT.out.hc.cell 8
  have f8 := HT.out.hc.frozen 8
  simp [zeros9] at e8
  clear hr ht
  have HT10 := hide HT.out
  have HT := hide (HT.out.set 8 (.int .i64 (IntKind.i64.wrap (num ((l.drop 19).take 2)))))
  generalize IntKind.i64.wrap (num ((l.drop 19).take 2)) = z8 at *
  have hc := HT.out.hc
  rw [nine_set] at hc
  have d0 := HT10.out.hc.cell 0
  have d1 := HT10.out.hc.cell 1
  have d2 := HT10.out.hc.cell 2
  have d3 := HT10.out.hc.cell 3
  have d4 := HT10.out.hc.cell 4
  have d5 := HT10.out.hc.cell 5
  have d6 := HT10.out.hc.cell 6
  have d7 := HT10.out.hc.cell 7
  simp [zeros9] at d0 d1 d2 d3 d4 d5 d6 d7
  have c0 := hc.cell 0
  have c1 := hc.cell 1
  have c2 := hc.cell 2
  have c3 := hc.cell 3
  have c4 := hc.cell 4
  have c5 := hc.cell 5
  have c6 := hc.cell 6
  have c7 := hc.cell 7
  have c8 := hc.cell 8
  have g0 := HT.out.hs.cell 0
  have g1 := HT.out.hs.cell 1
  have g2 := HT.out.hs.cell 2
  have g3 := HT.out.hs.cell 3
  have g4 := HT.out.hs.cell 4
  have g5 := HT.out.hs.cell 5
  have g6 := HT.out.hs.cell 6
  have g7 := HT.out.hs.cell 7
  have g8 := HT.out.hs.cell 8
  have i0 := HT.out.hs.frozen 0
  have i1 := HT.out.hs.frozen 1
  have i2 := HT.out.hs.frozen 2
  have i3 := HT.out.hs.frozen 3
  have i4 := HT.out.hs.frozen 4
  have i5 := HT.out.hs.frozen 5
  have i6 := HT.out.hs.frozen 6
  have i7 := HT.out.hs.frozen 7
  have i8 := HT.out.hs.frozen 8
  have k0 := HT10.out.hs.cell 0
  have k1 := HT10.out.hs.cell 1
  have k2 := HT10.out.hs.cell 2
  have k3 := HT10.out.hs.cell 3
  have k4 := HT10.out.hs.cell 4
  have k5 := HT10.out.hs.cell 5
  have k6 := HT10.out.hs.cell 6
  have k7 := HT10.out.hs.cell 7
  have k8 := HT10.out.hs.cell 8
  have l0 := HT10.out.hs.frozen 0
  have l1 := HT10.out.hs.frozen 1
  have l2 := HT10.out.hs.frozen 2
  have l3 := HT10.out.hs.frozen 3
  have l4 := HT10.out.hs.frozen 4
  have l5 := HT10.out.hs.frozen 5
  have l6 := HT10.out.hs.frozen 6
  have l7 := HT10.out.hs.frozen 7
  have l8 := HT10.out.hs.frozen 8
  simp [zeros9] at g0 g1 g2 g3 g4 g5 g6 g7 g8 k0 k1 k2 k3 k4 k5 k6 k7 k8
  simp at c0 c1 c2 c3 c4 c5 c6 c7 c8
  go_wp2
  have hch : (((((((((w10.setCell ⟨w1.heap.size + 1, 8, none⟩ (.int .i64 z8)).setCell ⟨w.heap.size, 0, none⟩ (.int .i64 z0)).setCell ⟨w.heap.size, 1, none⟩ (.int .i64 z1)).setCell ⟨w.heap.size, 2, none⟩ (.int .i64 z2)).setCell ⟨w.heap.size, 3, none⟩ (.int .i64 z3)).setCell ⟨w.heap.size, 4, none⟩ (.int .i64 z4)).setCell ⟨w.heap.size, 5, none⟩ (.int .i64 z5)).setCell ⟨w.heap.size, 6, none⟩ (.int .i64 z6)).setCell ⟨w.heap.size, 7, none⟩ (.int .i64 z7)).setCell ⟨w.heap.size, 8, none⟩ (.int .i64 z8) = store9 (w10.setCell ⟨w1.heap.size + 1, 8, none⟩ (.int .i64 z8)) w.heap.size (⟨z0, z1, z2, z3, z4, z5, z6, z7, z8⟩ : Chg) := rfl
  rw [hch]
  obtain ⟨y0, y1, y2, y3, y4, y5, y6, y7, y8⟩ := store9_at HT.out.hs (⟨z0, z1, z2, z3, z4, z5, z6, z7, z8⟩ : Chg)
  have HB6 := hide (store9_below HT.out.hb (Nat.le_refl _) (⟨z0, z1, z2, z3, z4, z5, z6, z7, z8⟩ : Chg))
  simp only [Nat.zero_add] at y0 y1 y2 y3 y4 y5 y6 y7 y8
  generalize store9 (w10.setCell ⟨w1.heap.size + 1, 8, none⟩ (.int .i64 z8)) w.heap.size (⟨z0, z1, z2, z3, z4, z5, z6, z7, z8⟩ : Chg) = w12 at *
  refine bodyPost_ret (v := (⟨z0, z1, z2, z3, z4, z5, z6, z7, z8⟩ : Chg).val) (by simp [results, Try.results23, go_sem, y0, y1, y2, y3, y4, y5, y6, y7, y8, Chg.val]) rfl ?_
  exact ⟨by rw [HRD.out], HB6.out⟩

theorem got_none {w w' : World} {l : List Int} {e : Ending} (h : getC l = none) (he : e = .returned (.tuple #[.agg #[.int .i64 0, .int .i64 0, .int .i64 0, .int .i64 0, .int .i64 0, .int .i64 0, .int .i64 0, .int .i64 0, .int .i64 0], .int .i64 16])) (hb : Below w.heap.size w w') : e = .returned (.tuple #[(valC l).val, .int .i64 (getK l)]) ∧ Below w.heap.size w w' := by
  unfold valC getK
  rw [h]
  exact ⟨he, hb⟩
theorem got_some {w w' : World} {l : List Int} {x : Chg} {e : Ending} (h : getC l = some x) (he : e = .returned (.tuple #[x.val, .int .i64 0])) (hb : Below w.heap.size w w') : e = .returned (.tuple #[(valC l).val, .int .i64 (getK l)]) ∧ Below w.heap.size w w' := by
  unfold valC getK
  rw [h]
  exact ⟨he, hb⟩

set_option maxHeartbeats 8000000 in
theorem cget_any (P : Nat → Prop) (A : Option Addr) (n c : Nat) (l : List Int) (w : World) (h : Row w P A n c (octs l)) (ho : Octs l) (hn : n ≤ 140737488351232) : Calls Try.prog 10 #[.slice A n c] w fun e w' => e = .returned (.tuple #[(valC l).val, .int .i64 (getK l)]) ∧ Below w.heap.size w w' := by
  have HM := hide (show l.length = n by rw [← h.1, octs_len])
  have HBW := hide ((Below.refl w.heap.size w).alloc (Nat.le_refl _) (.cells #[.int .i64 0, .int .i64 0, .int .i64 0, .int .i64 0, .int .i64 0, .int .i64 0, .int .i64 0, .int .i64 0, .int .i64 0] 25))
  by_cases h22 : n = 22
  · subst h22
    obtain ⟨b, o, rfl, -, hlt, hc⟩ := h.some_ (by omega)
    have c21 := (hc 21 (by omega)).trans (octs_at l 21 (by rw [HM.out]; omega))
    have HO := hide ho
    have hz21 := ho.getD 21
    by_cases h67 : l.getD 21 0 = 67
    · rw [h67] at c21
      have HMC := hide (show mayC (readC l) = true → getC l = some (readC l) from fun hm => by unfold getC; rw [if_pos ⟨HM.out, h67, hm⟩])
      have HNC := hide (show mayC (readC l) = false → getC l = none from fun hm => getC_no (.inr (.inr hm)))
      obtain ⟨W, hW⟩ : ∃ W, W = w.alloc (.cells #[.int .i64 0, .int .i64 0, .int .i64 0, .int .i64 0, .int .i64 0, .int .i64 0, .int .i64 0, .int .i64 0, .int .i64 0] 25) := ⟨_, rfl⟩
      have HS := hide (show Blk W w.heap.size 25 zeros9 by rw [hW]; exact Blk.new w _ _)
      have HB := hide (show Below w.heap.size w W by rw [hW]; exact (Below.refl _ w).alloc (Nat.le_refl _) _)
      have HWs := hide (show W.heap.size = w.heap.size + 1 by rw [hW]; simp)
      have HTK := hide (ctaken_any P (some ⟨b, o, none⟩) c l W (by rw [hW]; exact h.alloc _) ho)
      have HW := hide hW
      generalize readC l = X at *
      clear hW h67 hz21 hc h ho
      go_enter Try.func10, Try.ntmps10
      go_wp2_with fail
      rw [← HW.out]
      refine HTK.out.mono ?_
      rintro e w1 ⟨rfl, hb1⟩
      have HS1 := hide (HS.out.below hb1 (by rw [HWs.out]; omega))
      have HB1 := hide (HB.out.trans (hb1.mono HB.out.size))
      obtain ⟨z0, z1, z2, z3, z4, z5, z6, z7, z8⟩ := X
      unfold Chg.val
      simp only
      obtain ⟨W2, hW2⟩ : ∃ W2, W2 = w1.alloc (.cells #[.int .i64 z0, .int .i64 z1, .int .i64 z2, .int .i64 z3, .int .i64 z4, .int .i64 z5, .int .i64 z6, .int .i64 z7, .int .i64 z8] 25) := ⟨_, rfl⟩
      have HD := hide (show At W2 w1.heap.size 0 ⟨z0, z1, z2, z3, z4, z5, z6, z7, z8⟩ by rw [hW2]; exact at_new w1 ⟨z0, z1, z2, z3, z4, z5, z6, z7, z8⟩ _)
      have HWs2 := hide (show W2.heap.size = w1.heap.size + 1 by rw [hW2]; simp)
      have HS2 := hide (show Blk W2 w.heap.size 25 zeros9 by rw [hW2]; exact HS1.out.alloc _)
      have HB2 := hide (show Below w.heap.size w W2 by rw [hW2]; exact HB1.out.alloc HB1.out.size _)
      have HW2 := hide hW2
      have HL1 := hide (show w.heap.size < w1.heap.size from HS1.out.lt)
      clear hW2 hb1 c21
      go_wp2_with fail
      rw [← HW2.out]
      refine (ccheck_all ⟨z0, z1, z2, z3, z4, z5, z6, z7, z8⟩ _).mono ?_
      rintro e w5 ⟨rfl, hb⟩
      have HD5 := hide (HD.out.below hb (by rw [HWs2.out]; omega))
      have HS5 := hide (HS2.out.below hb (by rw [HWs2.out]; have := HL1.out; omega))
      have HB5 := hide (HB2.out.trans (hb.mono HB2.out.size))
      obtain ⟨d0, d1, d2, d3, d4, d5, d6, d7, d8⟩ := HD5.out
      simp only [Nat.zero_add] at d0 d1 d2 d3 d4 d5 d6 d7 d8
      have e0 := HS5.out.cell 0
      have e1 := HS5.out.cell 1
      have e2 := HS5.out.cell 2
      have e3 := HS5.out.cell 3
      have e4 := HS5.out.cell 4
      have e5 := HS5.out.cell 5
      have e6 := HS5.out.cell 6
      have e7 := HS5.out.cell 7
      have e8 := HS5.out.cell 8
      have f0 := HS5.out.frozen 0
      have f1 := HS5.out.frozen 1
      have f2 := HS5.out.frozen 2
      have f3 := HS5.out.frozen 3
      have f4 := HS5.out.frozen 4
      have f5 := HS5.out.frozen 5
      have f6 := HS5.out.frozen 6
      have f7 := HS5.out.frozen 7
      have f8 := HS5.out.frozen 8
      simp [zeros9] at e0 e1 e2 e3 e4 e5 e6 e7 e8
      clear hb
      cases hmc : mayC ⟨z0, z1, z2, z3, z4, z5, z6, z7, z8⟩ with
      | true =>
        have HG := hide (HMC.out hmc)
        rw [putK_yes hmc]
        clear hmc
        go_wp2
        have hch : ((((((((w5.setCell ⟨w.heap.size, 0, none⟩ (.int .i64 z0)).setCell ⟨w.heap.size, 1, none⟩ (.int .i64 z1)).setCell ⟨w.heap.size, 2, none⟩ (.int .i64 z2)).setCell ⟨w.heap.size, 3, none⟩ (.int .i64 z3)).setCell ⟨w.heap.size, 4, none⟩ (.int .i64 z4)).setCell ⟨w.heap.size, 5, none⟩ (.int .i64 z5)).setCell ⟨w.heap.size, 6, none⟩ (.int .i64 z6)).setCell ⟨w.heap.size, 7, none⟩ (.int .i64 z7)).setCell ⟨w.heap.size, 8, none⟩ (.int .i64 z8) = store9 w5 w.heap.size (⟨z0, z1, z2, z3, z4, z5, z6, z7, z8⟩ : Chg) := rfl
        rw [hch]
        obtain ⟨y0, y1, y2, y3, y4, y5, y6, y7, y8⟩ := store9_at HS5.out (⟨z0, z1, z2, z3, z4, z5, z6, z7, z8⟩ : Chg)
        have HB6 := hide (store9_below HB5.out (Nat.le_refl _) (⟨z0, z1, z2, z3, z4, z5, z6, z7, z8⟩ : Chg))
        simp only [Nat.zero_add] at y0 y1 y2 y3 y4 y5 y6 y7 y8
        generalize store9 w5 w.heap.size (⟨z0, z1, z2, z3, z4, z5, z6, z7, z8⟩ : Chg) = w6 at *
        refine bodyPost_ret (v := .tuple #[(⟨z0, z1, z2, z3, z4, z5, z6, z7, z8⟩ : Chg).val, .int .i64 0]) (by simp [results, Try.results10, go_sem, y0, y1, y2, y3, y4, y5, y6, y7, y8, Chg.val]) rfl ?_
        exact got_some HG.out rfl HB6.out
      | false =>
        have HG := hide (HNC.out hmc)
        rw [putK_no hmc]
        clear hmc
        go_wp2
        have hch : ((((((((w5.setCell ⟨w.heap.size, 0, none⟩ (.int .i64 0)).setCell ⟨w.heap.size, 1, none⟩ (.int .i64 0)).setCell ⟨w.heap.size, 2, none⟩ (.int .i64 0)).setCell ⟨w.heap.size, 3, none⟩ (.int .i64 0)).setCell ⟨w.heap.size, 4, none⟩ (.int .i64 0)).setCell ⟨w.heap.size, 5, none⟩ (.int .i64 0)).setCell ⟨w.heap.size, 6, none⟩ (.int .i64 0)).setCell ⟨w.heap.size, 7, none⟩ (.int .i64 0)).setCell ⟨w.heap.size, 8, none⟩ (.int .i64 0) = store9 w5 w.heap.size zeroC := rfl
        rw [hch]
        obtain ⟨y0, y1, y2, y3, y4, y5, y6, y7, y8⟩ := store9_at HS5.out zeroC
        have HB6 := hide (store9_below HB5.out (Nat.le_refl _) zeroC)
        simp only [Nat.zero_add] at y0 y1 y2 y3 y4 y5 y6 y7 y8
        generalize store9 w5 w.heap.size zeroC = w6 at *
        refine bodyPost_ret (v := .tuple #[zeroC.val, .int .i64 16]) (by simp [results, Try.results10, go_sem, y0, y1, y2, y3, y4, y5, y6, y7, y8, Chg.val, zeroC]) rfl ?_
        exact got_none HG.out rfl HB6.out
    · have HN := hide (getC_no (.inr (.inl h67)))
      generalize l.getD 21 0 = z at *
      clear hc h
      go_enter Try.func10, Try.ntmps10
      go_wp2
      go_returns
      exact got_none HN.out (by simp) (by first | exact HBW.out | go_grown)
  · have HN := hide (getC_no (l := l) (.inl (by rw [HM.out]; exact h22)))
    have h22' : ¬ ((n : Int) = 22) := by omega
    clear h ho
    go_enter Try.func10, Try.ntmps10
    go_wp2
    go_returns
    exact got_none HN.out (by simp) (by first | exact HBW.out | go_grown)
end Go.Proofs.Ytfmddljljdoapaa
