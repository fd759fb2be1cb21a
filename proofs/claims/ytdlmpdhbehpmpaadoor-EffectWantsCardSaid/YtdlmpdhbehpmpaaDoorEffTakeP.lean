/-
  The program's contracts of layer 10: Get, whose octets a closure takes. (Made by gen-efftake.py.)
-/
import Derived.Test.YtdlmpdhbehpmpaaDoorEffCheckP
import Derived.Test.YtdlmpdhbehpmpaaDoorEffVars
import Derived.Test.YtdlmpdhbehpmpaaDoorOctB
import Derived.Test.YtdlmpdhbehpmpaaDoorOctC
namespace Go.Proofs.YtdlmpdhbehpmpaaDoor
open Go.RowKit
set_option linter.unusedVariables false

/-- A reader: good, of these octets; or bad. -/
def RdO (w : World) (P : Nat → Prop) (g : Nat) : Option (List Int) → Prop
  | some l => Rdr w P g l
  | none => Bad w g
def takeV (s : Option (List Int)) (k : Nat) : Int := match s with
  | some l => if k ≤ l.length then num (l.take k) else 0
  | none => 0
def takeS (s : Option (List Int)) (k : Nat) : Option (List Int) := match s with
  | some l => if k ≤ l.length then some (l.drop k) else none
  | none => none
theorem takeS_len {s : Option (List Int)} {k : Nat} {m : List Int} (h : takeS s k = some m) : ∃ l, s = some l ∧ l.length = m.length + k := by
  cases s with
  | none => cases h
  | some l =>
    unfold takeS at h
    simp only at h
    split at h
    · injection h with h
      subst h
      exact ⟨l, rfl, by rw [List.length_drop]; omega⟩
    · cases h
theorem five_len {l : List Int} (h : takeS (takeS (takeS (takeS (takeS (some l) 1) 1) 8) 1) 2 = some []) : l.length = 13 := by
  obtain ⟨l4, e4, h4⟩ := takeS_len h
  obtain ⟨l3, e3, h3⟩ := takeS_len e4
  obtain ⟨l2, e2, h2⟩ := takeS_len e3
  obtain ⟨l1, e1, h1⟩ := takeS_len e2
  obtain ⟨l0, e0, h0⟩ := takeS_len e1
  injection e0 with e0
  subst e0
  simp only [List.length_nil] at h4
  omega
theorem takeS_yes {l : List Int} {k : Nat} (h : k ≤ l.length) : takeS (some l) k = some (l.drop k) := by unfold takeS; simp only; rw [if_pos h]
theorem takeV_yes {l : List Int} {k : Nat} (h : k ≤ l.length) : takeV (some l) k = num (l.take k) := by unfold takeV; simp only; rw [if_pos h]
/-- What is taken of thirteen octets is what they read as. -/
theorem five_read {l : List Int} (ho : Octs l) (h : l.length = 13) :
    (⟨IntKind.i64.wrap (takeV (some l) 1), IntKind.i64.wrap (takeV (takeS (some l) 1) 1), IntKind.i64.wrap (takeV (takeS (takeS (some l) 1) 1) 8), IntKind.i64.wrap (takeV (takeS (takeS (takeS (some l) 1) 1) 8) 1), IntKind.i64.wrap (takeV (takeS (takeS (takeS (takeS (some l) 1) 1) 8) 1) 2)⟩ : Eff) = readE l
    ∧ takeS (takeS (takeS (takeS (takeS (some l) 1) 1) 8) 1) 2 = some [] := by
  rw [takeS_yes (l := l) (by omega), takeS_yes (l := l.drop 1) (by simp; omega), takeS_yes (l := (l.drop 1).drop 1) (by simp; omega), takeS_yes (l := ((l.drop 1).drop 1).drop 8) (by simp; omega), takeS_yes (l := (((l.drop 1).drop 1).drop 8).drop 1) (by simp; omega)]
  rw [takeV_yes (l := l) (by omega), takeV_yes (l := l.drop 1) (by simp; omega), takeV_yes (l := (l.drop 1).drop 1) (by simp; omega), takeV_yes (l := ((l.drop 1).drop 1).drop 8) (by simp; omega), takeV_yes (l := (((l.drop 1).drop 1).drop 8).drop 1) (by simp; omega)]
  match l, h with
  | [l0, l1, l2, l3, l4, l5, l6, l7, l8, l9, l10, l11, l12], _ =>
    refine ⟨?_, rfl⟩
    have w0 : ∀ z : Int, 0 ≤ z → z < 72057594037927936 → IntKind.i64.wrap z = z := fun z h1 h2 => by rw [IntKind.wrap_i64]; omega
    have b0 := ho l0 (by simp)
    have b1 := ho l1 (by simp)
    have b10 := ho l10 (by simp)
    have hs := num_small [l11, l12] (ho.drop 11) 2 (by omega)
    have o1 : ∀ x : Int, num [x] = x := fun x => by simp [num]
    show (⟨IntKind.i64.wrap (num [l0]), IntKind.i64.wrap (num [l1]), IntKind.i64.wrap (num [l2, l3, l4, l5, l6, l7, l8, l9]), IntKind.i64.wrap (num [l10]), IntKind.i64.wrap (num [l11, l12])⟩ : Eff) = ⟨l0, l1, IntKind.i64.wrap (num [l2, l3, l4, l5, l6, l7, l8, l9]), l10, num [l11, l12]⟩
    rw [o1, o1, o1, w0 l0 b0.1 (by omega), w0 l1 b1.1 (by omega), w0 l10 b10.1 (by omega), w0 (num [l11, l12]) hs.1 (by have := hs.2; simp only [List.take_succ_cons, List.take_zero] at this; omega)]

def TookE (P : Nat → Prop) (g k : Nat) (s : Option (List Int)) (w w' : World) (e : Ending) : Prop :=
  e = .returned (.int .i64 (IntKind.i64.wrap (takeV s k))) ∧ RdO w' P g (takeS s k) ∧ Touch (· = g) w w'
theorem etake_no (P : Nat → Prop) (R g : Nat) (s : Option (List Int)) (k : Nat) (w : World) (hv : Blk w R 55 #[.pointer (some ⟨g, 0, none⟩)]) (hc : Calls Tryd.prog 26 #[.pointer (some ⟨g, 0, none⟩), .int .i64 k] w fun e w' => NoTake g w w' e) (h0 : takeV s k = 0) (h1 : takeS s k = none) :
    Calls Tryd.prog 25 #[.int .i64 k, .pointer (some ⟨R, 0, none⟩)] w fun e w' => TookE P g k s w w' e := by
  have c0 := (hv.cell 0).trans (show _ = some (Value.pointer (some ⟨g, 0, none⟩)) from rfl)
  unfold TookE
  rw [h0, h1]
  have HC := hide hc
  clear hv hc h0 h1
  go_enter Tryd.func25, Tryd.ntmps25
  go_wp2_with fail
  refine HC.out.mono ?_
  rintro e w1 ⟨rfl, hr, ht⟩
  have HR1 := hide hr
  have HT := hide ht
  clear hr ht
  go_wp2
  go_ret
  exact ⟨rfl, HR1.out, HT.out⟩
set_option maxHeartbeats 2000000 in
theorem etakeone_any (P : Nat → Prop) (R g : Nat) (s : Option (List Int)) (k : Nat) (w : World) (hv : Blk w R 55 #[.pointer (some ⟨g, 0, none⟩)]) (h : RdO w P g s) (h1 : 1 ≤ k) (h8 : k ≤ 8) :
    Calls Tryd.prog 25 #[.int .i64 k, .pointer (some ⟨R, 0, none⟩)] w fun e w' => TookE P g k s w w' e := by
  cases s with
  | none => exact etake_no P R g none k w hv (take_bad g k w h) rfl rfl
  | some l =>
    by_cases hk : k ≤ l.length
    · have c0 := (hv.cell 0).trans (show _ = some (Value.pointer (some ⟨g, 0, none⟩)) from rfl)
      have HR := hide (show Rdr w P g l from h)
      have HZ := hide (IntWalk.i64_left (num (l.take k)))
      unfold TookE
      rw [takeV_yes hk, takeS_yes hk]
      have HK := hide hk
      clear hv h hk
      go_enter Tryd.func25, Tryd.ntmps25
      go_wp2_with fail
      refine (take_yes P g l k _ HR.out HK.out h1 h8).mono ?_
      rintro e w1 ⟨rfl, hr, ht⟩
      have HR1 := hide hr
      have HT := hide ht
      clear hr ht
      go_wp2
      go_ret
      exact ⟨by rw [HZ.out]; rfl, HR1.out, HT.out⟩
    · exact etake_no P R g (some l) k w hv (take_no P g l k w h (.inr (.inr (by omega)))) (by unfold takeV; simp only; rw [if_neg hk]) (by unfold takeS; simp only; rw [if_neg hk])
theorem done_opt (w : World) (P : Nat → Prop) (g : Nat) (s : Option (List Int)) (h : RdO w P g s) :
    Calls Tryd.prog 27 #[.pointer (some ⟨g, 0, none⟩)] w fun e w' => e = .returned (.bool (decide (s = some []))) ∧ w = w' := by
  cases s with
  | none => exact done_bad w g h
  | some l =>
    cases l with
    | nil => exact done_rdr0 w P g [] h rfl
    | cons x l => exact done_rdr1 w P g (x :: l) h (by simp)

/-- What the words of Get stand at: the result, the variable of the reader, the effect's variable. -/
structure TkE (w : World) (S R C g : Nat) (P : Nat → Prop) (s : Option (List Int)) (cs : Array Value) (w' : World) : Prop where
  hs : Blk w' S 25 zerosEff
  hr : Blk w' R 55 #[.pointer (some ⟨g, 0, none⟩)]
  hc : Blk w' C 25 cs
  rd : RdO w' P g s
  hb : Below w.heap.size w w'
  dc : ¬ P C
  sg : S ≠ g
  rg : R ≠ g
  cg : C ≠ g
  ne : S ≠ C ∧ R ≠ C ∧ w.heap.size ≤ C ∧ w.heap.size ≤ g
theorem TkE.step {w : World} {S R C g : Nat} {P : Nat → Prop} {l m : Option (List Int)} {cs : Array Value} {w1 w2 : World} (h : TkE w S R C g P l cs w1) (hr : RdO w2 P g m) (ht : Touch (· = g) w1 w2) : TkE w S R C g P m cs w2 :=
  ⟨h.hs.touch ht h.sg, h.hr.touch ht h.rg, h.hc.touch ht h.cg, hr, h.hb.trans (ht.below h.hb.size (fun k hk e => by have := h.ne.2.2.2; omega)), h.dc, h.sg, h.rg, h.cg, h.ne⟩
theorem TkE.set {w : World} {S R C g : Nat} {P : Nat → Prop} {l : Option (List Int)} {cs : Array Value} {w1 : World} (h : TkE w S R C g P l cs w1) (i : Nat) (v : Value) : TkE w S R C g P l (cs.setIfInBounds i v) (w1.setCell ⟨C, i, none⟩ v) :=
  ⟨h.hs.far h.ne.1 v, h.hr.far h.ne.2.1 v, h.hc.store i v, by
    have hrd := h.rd
    cases l with
    | none => exact Bad.keep (show Bad w1 g from hrd) (Below.heap_setCell w1 ⟨C, i, none⟩ v g (fun e => h.cg e.symm))
    | some l => exact Rdr.keep (show Rdr w1 P g l from hrd) (fun b hb _ => Below.heap_setCell w1 ⟨C, i, none⟩ v b (fun e => h.dc (by have e' : b = C := e; exact e' ▸ hb))), h.hb.setCell h.ne.2.2.1 v, h.dc, h.sg, h.rg, h.cg, h.ne⟩

theorem gote_none {w w' : World} {l : List Int} {e : Ending} (h : getE l = none) (he : e = .returned (.tuple #[.agg #[.int .i64 0, .int .i64 0, .int .i64 0, .int .i64 0, .int .i64 0], .int .i64 16])) (hb : Below w.heap.size w w') : e = .returned (.tuple #[(valE l).val, .int .i64 (getEK l)]) ∧ Below w.heap.size w w' := by
  unfold valE getEK
  rw [h]
  exact ⟨he, hb⟩
theorem gote_some {w w' : World} {l : List Int} {x : Eff} {e : Ending} (h : getE l = some x) (he : e = .returned (.tuple #[x.val, .int .i64 0])) (hb : Below w.heap.size w w') : e = .returned (.tuple #[(valE l).val, .int .i64 (getEK l)]) ∧ Below w.heap.size w w' := by
  unfold valE getEK
  rw [h]
  exact ⟨he, hb⟩
theorem getE_short {l : List Int} (h : l.length ≠ 13) : getE l = none := by unfold getE; rw [if_neg fun hh => h hh.1]
theorem getE_code {l : List Int} (h : codeE (readE l) ≠ 0) : getE l = none := by unfold getE; rw [if_neg fun hh => h hh.2]

set_option maxHeartbeats 8000000 in
theorem eget_any (P : Nat → Prop) (A : Option Addr) (n c : Nat) (l : List Int) (w : World) (h : Row w P A n c (octs l)) (ho : Octs l) (hn : n ≤ 140737488351232) : Calls Tryd.prog 11 #[.slice A n c] w fun e w' => e = .returned (.tuple #[(valE l).val, .int .i64 (getEK l)]) ∧ Below w.heap.size w w' := by
  have HFL := hide (fun hh => five_len (l := l) hh)
  have HFR := hide (fun hh => five_read (l := l) ho hh)
  obtain ⟨W, hW⟩ : ∃ W, W = w.alloc (.cells #[.int .i64 0, .int .i64 0, .int .i64 0, .int .i64 0, .int .i64 0] 25) := ⟨_, rfl⟩
  have HS := hide (show Blk W w.heap.size 25 zerosEff by rw [hW]; exact Blk.new w _ _)
  have HB := hide (show Below w.heap.size w W by rw [hW]; exact (Below.refl _ w).alloc (Nat.le_refl _) _)
  have HWs := hide (show W.heap.size = w.heap.size + 1 by rw [hW]; simp)
  have HR := hide (show Row W P A n c (octs l) by rw [hW]; exact h.alloc _)
  have HO := hide ho
  have HW := hide hW
  clear hW h ho
  go_enter Tryd.func11, Tryd.ntmps11
  go_wp2_with fail
  rw [← HW.out]
  refine (new_any P A n c l _ HR.out HO.out (by omega)).mono ?_
  rintro e w1 ⟨g, rfl, hg, hr, hb⟩
  have HT0 := hide (show ∃ W2, W2 = (w1.alloc (.cells #[.pointer (some ⟨g, 0, none⟩)] 55)).alloc (.cells #[.int .i64 0, .int .i64 0, .int .i64 0, .int .i64 0, .int .i64 0] 25) from ⟨_, rfl⟩)
  obtain ⟨W2, hW2⟩ := HT0.out
  have hgl : g < w1.heap.size := by obtain ⟨_, _, _, hgb, _⟩ := hr; exact hgb.lt
  have HT := hide (show TkE w w.heap.size w1.heap.size (w1.heap.size + 1) g (fun b => W.heap.size ≤ b ∧ b < w1.heap.size) (some l) zerosEff W2 by
    have hs1 := HWs.out
    have hs2 := hb.size
    have hbw : Below w.heap.size w w1 := HB.out.trans (hb.mono (by omega))
    rw [hW2]
    refine ⟨((HS.out.below hb (by omega)).alloc _).alloc _, (Blk.new w1 _ _).alloc _, ?_, ?_, (hbw.alloc (by omega) _).alloc (by simp; omega) _, by omega, by omega, by omega, by omega, by omega, by omega, by omega, by omega⟩
    · have := Blk.new (w1.alloc (.cells #[.pointer (some ⟨g, 0, none⟩)] 55)) 25 zerosEff
      simpa [zerosEff] using this
    · obtain ⟨A, n, c, h1, h2, h3, h4⟩ := hr
      refine Rdr.keep (w := w1) ?_ fun b hb' hlt => (Below.heap_alloc _ _ b (by simp; omega)).trans (Below.heap_alloc w1 _ b hlt)
      refine ⟨A, n, c, h1, ?_, ⟨h3, hgl⟩, h4⟩
      refine ⟨h2.1, h2.2.1, h2.2.2.1, ?_⟩
      rcases Nat.eq_zero_or_pos n with h0 | h0
      · exact .inl h0
      · obtain ⟨b, o, e, hp, hlt, hc⟩ := h2.some_ h0
        exact .inr ⟨b, o, e, ⟨⟨hp.1, hlt⟩, hp.2⟩, hc⟩)
  have HW2 := hide hW2
  clear hW2 HT0 hg hr hb hgl
  obtain ⟨s, hs⟩ : ∃ s, s = some l := ⟨_, rfl⟩
  rw [← hs] at HFL HFR HT
  clear hs
  go_wp2_with fail
  rw [← HW2.out]
  refine (etakeone_any _ w1.heap.size g s 1 _ HT.out.hr HT.out.rd (by omega) (by omega)).mono ?_
  rintro e w2 ⟨rfl, hr, ht⟩
  have HT := hide (HT.out.step hr ht)
  have e0 := HT.out.hc.cell 0
  have f0 := HT.out.hc.frozen 0
  simp [zerosEff] at e0
  clear hr ht
  obtain ⟨z0, hz⟩ : ∃ z, z = IntKind.i64.wrap (takeV s 1) := ⟨_, rfl⟩
  obtain ⟨s0, hs⟩ : ∃ t, t = takeS s 1 := ⟨_, rfl⟩
  rw [← hz] at HFR ⊢
  rw [← hs] at HFL HFR HT
  have HT := hide (HT.out.set 0 (.int .i64 z0))
  clear hz hs
  go_wp2_with fail
  refine (etakeone_any _ w1.heap.size g s0 1 _ HT.out.hr HT.out.rd (by omega) (by omega)).mono ?_
  rintro e w3 ⟨rfl, hr, ht⟩
  have HT := hide (HT.out.step hr ht)
  clear e0 f0
  have e1 := HT.out.hc.cell 1
  have f1 := HT.out.hc.frozen 1
  simp [zerosEff] at e1
  clear hr ht
  obtain ⟨z1, hz⟩ : ∃ z, z = IntKind.i64.wrap (takeV s0 1) := ⟨_, rfl⟩
  obtain ⟨s1, hs⟩ : ∃ t, t = takeS s0 1 := ⟨_, rfl⟩
  rw [← hz] at HFR ⊢
  rw [← hs] at HFL HFR HT
  have HT := hide (HT.out.set 1 (.int .i64 z1))
  clear hz hs
  go_wp2_with fail
  refine (etakeone_any _ w1.heap.size g s1 8 _ HT.out.hr HT.out.rd (by omega) (by omega)).mono ?_
  rintro e w4 ⟨rfl, hr, ht⟩
  have HT := hide (HT.out.step hr ht)
  clear e1 f1
  have e2 := HT.out.hc.cell 2
  have f2 := HT.out.hc.frozen 2
  simp [zerosEff] at e2
  clear hr ht
  obtain ⟨z2, hz⟩ : ∃ z, z = IntKind.i64.wrap (takeV s1 8) := ⟨_, rfl⟩
  obtain ⟨s2, hs⟩ : ∃ t, t = takeS s1 8 := ⟨_, rfl⟩
  rw [← hz] at HFR ⊢
  rw [← hs] at HFL HFR HT
  have HT := hide (HT.out.set 2 (.int .i64 z2))
  clear hz hs
  go_wp2_with fail
  refine (etakeone_any _ w1.heap.size g s2 1 _ HT.out.hr HT.out.rd (by omega) (by omega)).mono ?_
  rintro e w5 ⟨rfl, hr, ht⟩
  have HT := hide (HT.out.step hr ht)
  clear e2 f2
  have e3 := HT.out.hc.cell 3
  have f3 := HT.out.hc.frozen 3
  simp [zerosEff] at e3
  clear hr ht
  obtain ⟨z3, hz⟩ : ∃ z, z = IntKind.i64.wrap (takeV s2 1) := ⟨_, rfl⟩
  obtain ⟨s3, hs⟩ : ∃ t, t = takeS s2 1 := ⟨_, rfl⟩
  rw [← hz] at HFR ⊢
  rw [← hs] at HFL HFR HT
  have HT := hide (HT.out.set 3 (.int .i64 z3))
  clear hz hs
  go_wp2_with fail
  refine (etakeone_any _ w1.heap.size g s3 2 _ HT.out.hr HT.out.rd (by omega) (by omega)).mono ?_
  rintro e w6 ⟨rfl, hr, ht⟩
  have HT := hide (HT.out.step hr ht)
  clear e3 f3
  have e4 := HT.out.hc.cell 4
  have f4 := HT.out.hc.frozen 4
  simp [zerosEff] at e4
  clear hr ht
  have HT4 := hide HT.out
  obtain ⟨z4, hz⟩ : ∃ z, z = IntKind.i64.wrap (takeV s3 2) := ⟨_, rfl⟩
  obtain ⟨s4, hs⟩ : ∃ t, t = takeS s3 2 := ⟨_, rfl⟩
  rw [← hz] at HFR ⊢
  rw [← hs] at HFL HFR HT HT4
  have HT := hide (HT.out.set 4 (.int .i64 z4))
  clear hz hs
  have hc := HT.out.hc
  rw [setEff] at hc
  clear e4 f4
  have d0 := HT4.out.hc.cell 0
  have d1 := HT4.out.hc.cell 1
  have d2 := HT4.out.hc.cell 2
  have d3 := HT4.out.hc.cell 3
  have d4 := HT4.out.hc.cell 4
  have f4 := HT4.out.hc.frozen 4
  simp [zerosEff] at d0 d1 d2 d3 d4
  have c0 := hc.cell 0
  have c1 := hc.cell 1
  have c2 := hc.cell 2
  have c3 := hc.cell 3
  have c4 := hc.cell 4
  have g0 := HT.out.hs.cell 0
  have g1 := HT.out.hs.cell 1
  have g2 := HT.out.hs.cell 2
  have g3 := HT.out.hs.cell 3
  have g4 := HT.out.hs.cell 4
  have i0 := HT.out.hs.frozen 0
  have i1 := HT.out.hs.frozen 1
  have i2 := HT.out.hs.frozen 2
  have i3 := HT.out.hs.frozen 3
  have i4 := HT.out.hs.frozen 4
  have k0 := HT4.out.hs.cell 0
  have k1 := HT4.out.hs.cell 1
  have k2 := HT4.out.hs.cell 2
  have k3 := HT4.out.hs.cell 3
  have k4 := HT4.out.hs.cell 4
  have l0 := HT4.out.hs.frozen 0
  have l1 := HT4.out.hs.frozen 1
  have l2 := HT4.out.hs.frozen 2
  have l3 := HT4.out.hs.frozen 3
  have l4 := HT4.out.hs.frozen 4
  have r0 := HT.out.hr.cell 0
  have r1 := HT4.out.hr.cell 0
  simp [zerosEff] at g0 g1 g2 g3 g4 k0 k1 k2 k3 k4
  simp at c0 c1 c2 c3 c4 r0 r1
  have HDN := hide (done_opt _ _ g s4 HT.out.rd)
  by_cases hd : s4 = some []
  · have HF := hide (HFR.out (HFL.out hd)).1
    rw [show decide (s4 = some []) = true from decide_eq_true hd] at HDN
    have HL := hide (HFL.out hd)
    clear hd HFR HFL
    go_wp2_with fail
    refine HDN.out.mono ?_
    rintro e w7 ⟨rfl, hw7⟩
    rw [hw7] at HT hc
    clear hw7 HT4 HDN
    clear c0 c1 c2 c3 c4 g0 g1 g2 g3 g4 i0 i1 i2 i3 i4 k0 k1 k2 k3 k4 l0 l1 l2 l3 l4 r0 r1 d0 d1 d2 d3 d4 f4
    have g0 := HT.out.hs.cell 0
    have g1 := HT.out.hs.cell 1
    have g2 := HT.out.hs.cell 2
    have g3 := HT.out.hs.cell 3
    have g4 := HT.out.hs.cell 4
    have i0 := HT.out.hs.frozen 0
    have i1 := HT.out.hs.frozen 1
    have i2 := HT.out.hs.frozen 2
    have i3 := HT.out.hs.frozen 3
    have i4 := HT.out.hs.frozen 4
    simp [zerosEff] at g0 g1 g2 g3 g4
    have c0 := hc.cell 0
    have c1 := hc.cell 1
    have c2 := hc.cell 2
    have c3 := hc.cell 3
    have c4 := hc.cell 4
    simp at c0 c1 c2 c3 c4
    go_wp2_with fail
    refine (echeck_all ⟨z0, z1, z2, z3, z4⟩ _).mono ?_
    rintro e w8 ⟨rfl, hb8⟩
    have HS8 := hide (HT.out.hs.below hb8 HT.out.hs.lt)
    have HC8 := hide (hc.below hb8 hc.lt)
    have HB8 := hide (HT.out.hb.trans (hb8.mono HT.out.hb.size))
    clear hb8 hc HT g0 g1 g2 g3 g4 i0 i1 i2 i3 i4 c0 c1 c2 c3 c4
    have g0 := HS8.out.cell 0
    have g1 := HS8.out.cell 1
    have g2 := HS8.out.cell 2
    have g3 := HS8.out.cell 3
    have g4 := HS8.out.cell 4
    have i0 := HS8.out.frozen 0
    have i1 := HS8.out.frozen 1
    have i2 := HS8.out.frozen 2
    have i3 := HS8.out.frozen 3
    have i4 := HS8.out.frozen 4
    simp [zerosEff] at g0 g1 g2 g3 g4
    have c0 := HC8.out.cell 0
    have c1 := HC8.out.cell 1
    have c2 := HC8.out.cell 2
    have c3 := HC8.out.cell 3
    have c4 := HC8.out.cell 4
    simp at c0 c1 c2 c3 c4
    rcases codeE_three ⟨z0, z1, z2, z3, z4⟩ with hm | hm | hm
    · have HG := hide (show getE l = some ⟨z0, z1, z2, z3, z4⟩ by unfold getE; rw [← HF.out, if_pos ⟨HL.out, hm⟩])
      rw [hm]
      clear hm
      go_wp2
      have hch : ((((w8.setCell ⟨w.heap.size, 0, none⟩ (.int .i64 z0)).setCell ⟨w.heap.size, 1, none⟩ (.int .i64 z1)).setCell ⟨w.heap.size, 2, none⟩ (.int .i64 z2)).setCell ⟨w.heap.size, 3, none⟩ (.int .i64 z3)).setCell ⟨w.heap.size, 4, none⟩ (.int .i64 z4) = storeEff w8 w.heap.size ⟨z0, z1, z2, z3, z4⟩ := rfl
      rw [hch]
      obtain ⟨y0, y1, y2, y3, y4⟩ := storeEff_at HS8.out ⟨z0, z1, z2, z3, z4⟩
      have HB9 := hide (storeEff_below HB8.out (Nat.le_refl _) ⟨z0, z1, z2, z3, z4⟩)
      simp only [Nat.zero_add] at y0 y1 y2 y3 y4
      generalize storeEff w8 w.heap.size ⟨z0, z1, z2, z3, z4⟩ = w9 at *
      refine bodyPost_ret (v := .tuple #[Eff.val ⟨z0, z1, z2, z3, z4⟩, .int .i64 0]) (by simp [results, Tryd.results11, go_sem, y0, y1, y2, y3, y4, Eff.val]) rfl ?_
      exact gote_some HG.out rfl HB9.out
    · have HG := hide (getE_code (l := l) (by rw [← HF.out, hm]; decide))
      rw [hm]
      clear hm
      go_wp2
      have hch : ((((w8.setCell ⟨w.heap.size, 0, none⟩ (.int .i64 0)).setCell ⟨w.heap.size, 1, none⟩ (.int .i64 0)).setCell ⟨w.heap.size, 2, none⟩ (.int .i64 0)).setCell ⟨w.heap.size, 3, none⟩ (.int .i64 0)).setCell ⟨w.heap.size, 4, none⟩ (.int .i64 0) = storeEff w8 w.heap.size zeroEff := rfl
      rw [hch]
      obtain ⟨y0, y1, y2, y3, y4⟩ := storeEff_at HS8.out zeroEff
      have HB9 := hide (storeEff_below HB8.out (Nat.le_refl _) zeroEff)
      simp only [Nat.zero_add] at y0 y1 y2 y3 y4
      generalize storeEff w8 w.heap.size zeroEff = w9 at *
      refine bodyPost_ret (v := .tuple #[Eff.val zeroEff, .int .i64 16]) (by simp [results, Tryd.results11, go_sem, y0, y1, y2, y3, y4, Eff.val, zeroEff]) rfl ?_
      exact gote_none HG.out rfl HB9.out
    · have HG := hide (getE_code (l := l) (by rw [← HF.out, hm]; decide))
      rw [hm]
      clear hm
      go_wp2
      have hch : ((((w8.setCell ⟨w.heap.size, 0, none⟩ (.int .i64 0)).setCell ⟨w.heap.size, 1, none⟩ (.int .i64 0)).setCell ⟨w.heap.size, 2, none⟩ (.int .i64 0)).setCell ⟨w.heap.size, 3, none⟩ (.int .i64 0)).setCell ⟨w.heap.size, 4, none⟩ (.int .i64 0) = storeEff w8 w.heap.size zeroEff := rfl
      rw [hch]
      obtain ⟨y0, y1, y2, y3, y4⟩ := storeEff_at HS8.out zeroEff
      have HB9 := hide (storeEff_below HB8.out (Nat.le_refl _) zeroEff)
      simp only [Nat.zero_add] at y0 y1 y2 y3 y4
      generalize storeEff w8 w.heap.size zeroEff = w9 at *
      refine bodyPost_ret (v := .tuple #[Eff.val zeroEff, .int .i64 16]) (by simp [results, Tryd.results11, go_sem, y0, y1, y2, y3, y4, Eff.val, zeroEff]) rfl ?_
      exact gote_none HG.out rfl HB9.out
  · have HN := hide (getE_short (l := l) fun hh => hd (HFR.out hh).2)
    rw [show decide (s4 = some []) = false from decide_eq_false hd] at HDN
    clear hd HFR HFL
    go_wp2_with fail
    refine HDN.out.mono ?_
    rintro e w7 ⟨rfl, hw7⟩
    rw [hw7] at HT hc
    clear hw7 HT4 HDN
    clear c0 c1 c2 c3 c4 g0 g1 g2 g3 g4 i0 i1 i2 i3 i4 k0 k1 k2 k3 k4 l0 l1 l2 l3 l4 r0 r1 d0 d1 d2 d3 d4 f4
    have g0 := HT.out.hs.cell 0
    have g1 := HT.out.hs.cell 1
    have g2 := HT.out.hs.cell 2
    have g3 := HT.out.hs.cell 3
    have g4 := HT.out.hs.cell 4
    have i0 := HT.out.hs.frozen 0
    have i1 := HT.out.hs.frozen 1
    have i2 := HT.out.hs.frozen 2
    have i3 := HT.out.hs.frozen 3
    have i4 := HT.out.hs.frozen 4
    simp [zerosEff] at g0 g1 g2 g3 g4
    go_wp2
    have hch : ((((w7.setCell ⟨w.heap.size, 0, none⟩ (.int .i64 0)).setCell ⟨w.heap.size, 1, none⟩ (.int .i64 0)).setCell ⟨w.heap.size, 2, none⟩ (.int .i64 0)).setCell ⟨w.heap.size, 3, none⟩ (.int .i64 0)).setCell ⟨w.heap.size, 4, none⟩ (.int .i64 0) = storeEff w7 w.heap.size zeroEff := rfl
    rw [hch]
    obtain ⟨y0, y1, y2, y3, y4⟩ := storeEff_at HT.out.hs zeroEff
    have HB9 := hide (storeEff_below HT.out.hb (Nat.le_refl _) zeroEff)
    simp only [Nat.zero_add] at y0 y1 y2 y3 y4
    generalize storeEff w7 w.heap.size zeroEff = w9 at *
    refine bodyPost_ret (v := .tuple #[Eff.val zeroEff, .int .i64 16]) (by simp [results, Tryd.results11, go_sem, y0, y1, y2, y3, y4, Eff.val, zeroEff]) rfl ?_
    exact gote_none HN.out rfl HB9.out
end Go.Proofs.YtdlmpdhbehpmpaaDoor
