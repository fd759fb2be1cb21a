/-
  The walk of EffectWants.
-/
import Derived.Test.YtdlmpdhbehpmpaaDoorEffAlive
import Derived.Test.YtdlmpdhbehpmpaaDoorEffWant
import Derived.Test.YtdlmpdhbehpmpaaDoorSince
import Derived.Deep.RegionHeld
import Derived.Deep.DeepCutAuto
import Derived.Deep.Cut
import Derived.Deep.CutRange
namespace Go.Proofs.YtdlmpdhbehpmpaaDoor
open Go.RowKit
set_option linter.unusedVariables false

theorem front_runE (w : World) (A : Option Addr) (n c k : Nat) (hk : k ≤ c) :
    (Instr.slice 40 (.slice A n c) none (some (.int .i64 (k : Int))) none).run Tryd.prog w = .ok (.slice A k c) w := by
  have h := run_slice_h (P := Tryd.prog) (w := w) 40 A n c (by kernel_rfl) .i64 (k : Int) (by omega) (by omega)
  rw [h]
  have hs : (sizeOf (Tryd.prog.elem 40)).run Tryd.prog w = .ok 5 w := by kernel_rfl
  rw [hs]
  cases A <;> simp [Result.andThen, sliced, Addr.add]
/-- A fresh list was made behind w1 that is just like what v reads as. -/
def KeptE (v : Value) (w1 : World) (k : Nat) (w' : World) (e : Ending) : Prop :=
  ∃ A c, e = .returned (.slice A k c) ∧ Hid (∀ w'', Since w' w'' → Calls Tryd.prog 16 #[v, .slice A k c] w'' fun e w3 => e = .returned (.bool true) ∧ Since w1 w3) ∧ Since w' w' ∧ Since w1 w'
theorem keptE_of {w1 w w' : World} {e : Ending} {m : List Eff} {k d : Nat} {B : Option Addr} {Q : Nat → Prop} (h1 : Since w1 w) (hf : FreshEff w m w' e) (hm : m.length = k) (hr : RowK w1 Q 5 B k d (effs m)) : KeptE (.slice B k d) w1 k w' e := by
  obtain ⟨A, c, rfl, hown, hb⟩ := hf.row hm
  have hs : Since w1 w' := Since.next h1 hb
  refine ⟨A, c, rfl, hide fun w'' h => ?_, Since.refl _, hs⟩
  refine (effs_any _ _ _ _ _ _ _ _ m m w'' (hr.below (by omega) (Since.trans hs h) (fun _ _ h => h)) ((RowK.of_own hown).below (by omega) h (fun _ _ h => h))).mono ?_
  rintro e w3 ⟨rfl, hb3⟩
  exact ⟨by rw [decide_eq_true rfl], Since.next (Since.trans hs h) hb3⟩

/-- A fresh list was made behind w1. -/
def Wanted (w1 w' : World) (N : Nat) (m : List Eff) (e : Ending) (w2 : World) : Prop :=
  ∃ A2 c2, e = .returned (.slice A2 N c2) ∧ RowK w2 (fun b => True ∧ b < w2.heap.size) 5 A2 N c2 (effs m) ∧ Since w' w2 ∧ Since w1 w2
theorem wanted_of {w1 w' w2 : World} {N : Nat} {m : List Eff} {e : Ending} (h : Since w1 w') (hf : FreshEff w' m w2 e) (hN : m.length = N) : Wanted w1 w' N m e w2 := by
  obtain ⟨A2, c2, rfl, hown, hb⟩ := hf.row hN
  exact ⟨A2, c2, rfl, ((RowK.of_own hown).mono (fun _ _ => trivial)).inb (by omega), hb, Since.next h hb⟩
theorem RowK.all_later {w w' : World} {k : Nat} {A : Option Addr} {n c : Nat} {xs : List Value} (h : RowK w (fun b => True ∧ b < w.heap.size) k A n c xs) (hk : 0 < k) (hs : Since w w') : RowK w' (fun b => True ∧ b < w'.heap.size) k A n c xs :=
  (h.below hk hs (fun _ h _ => h.2)).mono fun _ h => ⟨trivial, Nat.lt_of_lt_of_le h.2 (Below.size hs)⟩

set_option maxRecDepth 100000 in
set_option maxHeartbeats 4000000 in
theorem effwants_walk (k1 : Int) (A : Option Addr) (n c : Nat) (l : List Eff) (k2 : Int) (B : Option Addr) (m d : Nat) (k : List Eff) (w : World) (h : RowK w (· < w.heap.size) 5 A n c (effs l)) (h2 : RowK w (· < w.heap.size) 5 B m d (effs k)) (hn : n * 40 ≤ 140737488351232) (hm : m * 40 ≤ 140737488351232) (hg : Good w) :
    Calls Tryd.prog 4 #[.agg #[.int .i64 k1, .slice A n c], .agg #[.int .i64 k2, .slice B m d]] w fun e w' => e = .returned (.bool true) ∧ Below w.heap.size w w' := by
  obtain ⟨V, hV⟩ : ∃ V, V = w.alloc (.cells #[.int .i64 k1, .slice A n c] 42) := ⟨_, rfl⟩
  obtain ⟨W, hW⟩ : ∃ W, W = V.alloc (.cells #[.int .i64 k2, .slice B m d] 42) := ⟨_, rfl⟩
  have hVs : V.heap.size = w.heap.size + 1 := by rw [hV]; simp
  have hWs : W.heap.size = w.heap.size + 1 + 1 := by rw [hW, ← hVs]; simp
  have hBV : Blk V w.heap.size 42 #[.int .i64 k1, .slice A n c] := by rw [hV]; exact Blk.new w _ _
  have HO1 := hide (show Blk W w.heap.size 42 #[.int .i64 k1, .slice A n c] by rw [hW]; exact hBV.alloc _)
  have HO2 := hide (show Blk W (w.heap.size + 1) 42 #[.int .i64 k2, .slice B m d] by rw [hW, ← hVs]; exact Blk.new V _ _)
  have HBW := hide (show Below w.heap.size w W by rw [hW, hV]; exact ((Below.refl _ w).alloc (Nat.le_refl _) _).alloc (by simp) _)
  have HWd := hide (show W = (w.alloc (.cells #[.int .i64 k1, .slice A n c] 42)).alloc (.cells #[.int .i64 k2, .slice B m d] 42) by rw [hW, hV])
  have HR1 := hide (h.below (by omega) HBW.out (fun _ h _ => h))
  have HR2 := hide (h2.below (by omega) HBW.out (fun _ h _ => h))
  have HGD := hide (hg.later W HBW.out)
  have HBx := hide (fun w' (h : Since W w') => HBW.out.trans (Below.mono h HBW.out.size))
  have hlW := HBW.out.size
  have HLW := hide hlW
  have HWA := hide (fun W' (hs : Since W W') => ewant_any _ k1 A n c l true W' (HR1.out.below (by omega) hs (fun _ h _ => Nat.lt_of_lt_of_le h HLW.out)) hn)
  have HWB := hide (fun W' (hs : Since W W') => ewant_any _ k1 A n c l false W' (HR1.out.below (by omega) hs (fun _ h _ => Nat.lt_of_lt_of_le h HLW.out)) hn)
  have HWC := hide (fun W' (hs : Since W W') => ewant_any _ k2 B m d k true W' (HR2.out.below (by omega) hs (fun _ h _ => Nat.lt_of_lt_of_le h HLW.out)) hm)
  have HXA := hide (fun W' (hs : Since W W') => refwant_any _ k1 A n c l true W' (HR1.out.below (by omega) hs (fun _ h _ => Nat.lt_of_lt_of_le h HLW.out)) hn)
  have HXB := hide (fun W' (hs : Since W W') => refwant_any _ k1 A n c l false W' (HR1.out.below (by omega) hs (fun _ h _ => Nat.lt_of_lt_of_le h HLW.out)) hn)
  have HCM := hide (commonE_want k1 l)
  clear h h2 hBV hV hW hg
  generalize wantE k1 l true = PA at *
  generalize wantE k1 l false = PB at *
  generalize wantE k2 k true = PC at *
  have HOC := hide (fun w' (hs : Since W w') => (⟨out_cells HO1.out hs, out_cells HO2.out hs⟩ : (w'.cell? ⟨w.heap.size, 0, none⟩ = some (.int .i64 k1) ∧ w'.cell? ⟨w.heap.size, 1, none⟩ = some (.slice A n c)) ∧ w'.cell? ⟨w.heap.size + 1, 0, none⟩ = some (.int .i64 k2) ∧ w'.cell? ⟨w.heap.size + 1, 1, none⟩ = some (.slice B m d)))
  obtain ⟨NA, hNA⟩ : ∃ N, PA.length = N := ⟨_, rfl⟩
  obtain ⟨NB, hNB⟩ : ∃ N, PB.length = N := ⟨_, rfl⟩
  obtain ⟨NC, hNC⟩ : ∃ N, PC.length = N := ⟨_, rfl⟩
  have HNA := hide hNA
  have HNB := hide hNB
  have HNC := hide hNC
  clear hNA hNB hNC
  go_enter Tryd.func4, Tryd.ntmps4
  go_wp2_with fail
  rw [← HWd.out]
  refine (alive10 _ HGD.out).mono ?_
  rintro e w1 ⟨rfl, hb1⟩
  have HS1 := hide (show Since W w1 from hb1)
  clear hb1
  go_upto_region 3 with fail
  have o0 := fun w' (h : Since w1 w') => (HOC.out w' (Since.trans HS1.out h)).1.1
  have o1 := fun w' (h : Since w1 w') => (HOC.out w' (Since.trans HS1.out h)).1.2
  have hr0 := (Since.refl w1).drew
  have P1 := hide (fun w' (h : Since w1 w') => (HWA.out w' (Since.trans HS1.out h)).mono fun e w2 hf => wanted_of h hf HNA.out)
  have P2 := hide (fun w' (h : Since w1 w') => (HWB.out w' (Since.trans HS1.out h)).mono fun e w2 hf => wanted_of h hf HNB.out)
  go_cut [5, 6] (fun s5 s6 wx => (∃ A5 c5 A6 c6, s5 = .slice A5 NA c5 ∧ s6 = .slice A6 NB c6 ∧ Hid (RowK wx (fun b => True ∧ b < wx.heap.size) 5 A5 NA c5 (effs PA)) ∧ Hid (RowK wx (fun b => True ∧ b < wx.heap.size) 5 A6 NB c6 (effs PB)) ∧ Hid (Since w1 wx)))
  case first =>
    clear HWA HWB HWC HXA HXB HOC
    go_region_held (fun w' => Since w1 w') (assumption) (first
      | (go_at_call_of 14 (Value.bool true); refine (P1.out _ (by assumption)).mono ?_; rintro e w5 ⟨A5, c5, rfl, hr5, hs5, hst5⟩)
      | (go_at_call_of 14 (Value.bool false); refine (P2.out _ (by assumption)).mono ?_; rintro e w6 ⟨A6, c6, rfl, hr6, hs6, hst6⟩))
    all_goals (go_wp2_with fail)
    all_goals go_meet
    all_goals first
      | exact ⟨A5, c5, A6, c6, rfl, rfl, hide (hr5.all_later (by omega) hs6), hide hr6, hide hst6⟩
      | exact ⟨A5, c5, A6, c6, rfl, rfl, hide hr5, hide (hr6.all_later (by omega) hs5), hide hst5⟩
  case rest =>
    obtain ⟨A5, c5, A6, c6, rfl, rfl, hr5, hr6, hs⟩ := hcut
    have HS2 := hide (Since.trans HS1.out hs.out)
    clear o0 o1 hr0 P1 P2 hs
    obtain ⟨⟨o0, o1⟩, o2, o3⟩ := HOC.out _ HS2.out
    go_wp2_with fail
    refine (HWC.out _ HS2.out).mono ?_
    rintro e w3 hf
    obtain ⟨A7, c7, rfl, hr7, hs23, -⟩ := wanted_of (Since.refl _) hf HNC.out
    have HS3 := hide (Since.trans HS2.out hs23)
    have HR5 := hide (hr5.out.all_later (by omega) hs23)
    have HR6 := hide (hr6.out.all_later (by omega) hs23)
    have HR7 := hide hr7
    clear hf hr5 hr6 hr7 hs23 o0 o1 o2 o3 HWA HWB HWC
    have hle := commonE_le PA PC
    rw [HNA.out, HNC.out] at hle
    obtain ⟨hgA, hgC⟩ := hle
    have HTK := hide (commonE_take PA PC)
    have HSP := hide (commonE_stop PA PC)
    have HCO := hide (ecommon_any _ _ A5 A7 NA c5 NC c7 PA PC w3 HR5.out HR7.out)
    generalize commonE PA PC = G at *
    have hcA := HR5.out.2.1
    have hcC := HR7.out.2.1
    have hbA := HR5.out.2.2.1
    have hbC := HR7.out.2.2.1
    go_wp2_with fail
    refine HCO.out.mono ?_
    rintro e w4 ⟨rfl, hb⟩
    have hs34 : Since w3 w4 := hb
    have HS4 := hide (Since.trans HS3.out hs34)
    have HR5 := hide (HR5.out.all_later (by omega) hs34)
    have HR6 := hide (HR6.out.all_later (by omega) hs34)
    have HR7 := hide (HR7.out.all_later (by omega) hs34)
    clear hb hs34 HCO
    go_upto_region 6 with fail
    have d0 : decide ((G : Int) < 0) = false := decide_eq_false (by omega)
    have d1 : decide ((NA : Int) < (G : Int)) = false := decide_eq_false (by omega)
    have d2 : decide ((NC : Int) < (G : Int)) = false := decide_eq_false (by omega)
    have n1 : decide (NA < G) = false := decide_eq_false (by omega)
    have n2 : decide (NC < G) = false := decide_eq_false (by omega)
    go_cut [56] (fun s56 wx => s56 = .bool false ∧ Hid (Since w4 wx))
    case first =>
      by_cases hA : G < NA
      · have d3 : decide ((G : Int) < (NA : Int)) = true := decide_eq_true (by omega)
        by_cases hC : G < NC
        · have d4 : decide ((G : Int) < (NC : Int)) = true := decide_eq_true (by omega)
          obtain ⟨b, o, x, rfl, -, -, hx, hat⟩ := effs_at HR5.out hA
          obtain ⟨b2, o2, y, rfl, -, -, hy, hat2⟩ := effs_at HR7.out hC
          obtain ⟨x0, x1, x2, x3, x4⟩ := hat
          obtain ⟨y0, y1, y2, y3, y4⟩ := hat2
          have hxy := HSP.out x y hx hy
          have hq : ∀ W, (Op.equalIn 10000 25 (.agg #[.int .i64 x.k, .int .i64 x.a, .int .i64 x.n, .int .i64 x.p, .int .i64 x.q]) (.agg #[.int .i64 y.k, .int .i64 y.a, .int .i64 y.n, .int .i64 y.p, .int .i64 y.q])).run Tryd.prog W = .ok false W := fun W => by
            have := eff_equal x y 9997 W
            rwa [decide_eq_false hxy] at this
          clear hxy hx hy
          go_quiet (fail)
          have HB := hide (show Since w4 (w4.drewN nq) from below_drewN (Since.refl w4) nq)
          generalize w4.drewN nq = w5 at *
          clear x0 x1 x2 x3 x4 y0 y1 y2 y3 y4 hq
          go_wp2
          go_meet
          exact ⟨rfl, HB⟩
        · have d4 : decide ((G : Int) < (NC : Int)) = false := decide_eq_false (by omega)
          have n4 : decide (G < NC) = false := decide_eq_false (by omega)
          go_quiet (fail)
          have HB := hide (show Since w4 (w4.drewN nq) from below_drewN (Since.refl w4) nq)
          generalize w4.drewN nq = w5 at *
          go_wp2
          go_meet
          exact ⟨rfl, HB⟩
      · have d3 : decide ((G : Int) < (NA : Int)) = false := decide_eq_false (by omega)
        have n3 : decide (G < NA) = false := decide_eq_false (by omega)
        go_quiet (fail)
        have HB := hide (show Since w4 (w4.drewN nq) from below_drewN (Since.refl w4) nq)
        generalize w4.drewN nq = w5 at *
        go_wp2
        go_meet
        exact ⟨rfl, HB⟩
    case rest =>
      obtain ⟨rfl, hs⟩ := hcut
      have HS5 := hide (Since.trans HS4.out hs.out)
      have HR5 := hide (HR5.out.all_later (by omega) hs.out)
      have HR6 := hide (HR6.out.all_later (by omega) hs.out)
      have HR7 := hide (HR7.out.all_later (by omega) hs.out)
      clear hs d0 d1 d2 n1 n2
      go_upto_region 8 with fail
      have o0 := fun w' (h : Since wc w') => (HOC.out w' (Since.trans HS5.out h)).1.1
      have o1 := fun w' (h : Since wc w') => (HOC.out w' (Since.trans HS5.out h)).1.2
      have hr0 := (Since.refl wc).drew
      have hf5 : ∀ W, (Instr.slice 40 (.slice A5 NA c5) none (some (.int .i64 (G : Int))) none).run Tryd.prog W = .ok (.slice A5 G c5) W := fun W => front_runE W A5 NA c5 G (by omega)
      have hf7 : ∀ W, (Instr.slice 40 (.slice A7 NC c7) none (some (.int .i64 (G : Int))) none).run Tryd.prog W = .ok (.slice A7 G c7) W := fun W => front_runE W A7 NC c7 G (by omega)
      have hg5 := HR5.out.front hgA
      have hg7 := HR7.out.front hgC
      rw [effs_take] at hg5 hg7
      rw [← HTK.out] at hg7
      have HG5 := hide hg5
      have HG7 := hide hg7
      have P1 := hide (fun w' (h : Since wc w') => (HXA.out w' (Since.trans HS5.out h)).mono fun e w2 hf => keptE_of h hf HNA.out HR5.out)
      have P2 := hide (fun w' (h : Since wc w') => (HXB.out w' (Since.trans HS5.out h)).mono fun e w2 hf => keptE_of h hf HNB.out HR6.out)
      have P3 := hide (fun w' (h : Since wc w') => (effs_any _ _ _ _ _ _ _ _ (PA.take G) (PA.take G) w' (HG5.out.below (by omega) h (fun _ h _ => h.2)) (HG7.out.below (by omega) h (fun _ h _ => h.2))).mono fun e w2 hh => And.intro hh.1 (Since.next h hh.2))
      rw [decide_eq_true rfl] at P3
      have P4 := hide (fun w' (h : Since wc w') => (ecommon_any _ _ A5 A6 NA c5 NB c6 PA PB w' (HR5.out.all_later (by omega) h) (HR6.out.all_later (by omega) h)).mono fun e w2 hh => And.intro hh.1 (Since.next h hh.2))
      rw [HCM.out, HNB.out] at P4
      have HBy := hide (fun w' (h : Since wc w') => HBx.out _ (Since.trans HS5.out h))
      clear hg5 hg7 HXA HXB HOC HCM HTK HSP HNA HNB HNC HO1 HO2 HBW HWd HR1 HR2 HGD HBx HLW HS1 HS2 HS3 HS4 HS5 HR5 HR6 HR7 HG5 HG7
      go_region_held (fun w' => Since wc w') (assumption) (first
        | (go_at_call_of 17 (Value.bool true); refine (P1.out _ (by assumption)).mono ?_; rintro e w7 ⟨A8, c8, rfl, hq8, hs88, hs8⟩)
        | (go_at_call_of 17 (Value.bool false); refine (P2.out _ (by assumption)).mono ?_; rintro e w8 ⟨A9, c9, rfl, hq9, hs99, hs9⟩)
        | (go_at_call_of 16 (Value.slice A5 NA c5); refine (hq8.out _ (by assumption)).mono ?_; rintro e w9 ⟨rfl, hs10⟩)
        | (go_at_call_of 16 (Value.slice A6 NB c6); refine (hq9.out _ (by assumption)).mono ?_; rintro e w10 ⟨rfl, hs11⟩)
        | (go_at_call_of 16 (Value.slice A5 G c5); refine (P3.out _ (by assumption)).mono ?_; rintro e w11 ⟨rfl, hs12⟩)
        | (go_at_call 15; refine (P4.out _ (by assumption)).mono ?_; rintro e w12 ⟨rfl, hs13⟩))
      all_goals go_wp2
      all_goals go_ret
      all_goals exact ⟨rfl, HBy.out _ (by assumption)⟩
end Go.Proofs.YtdlmpdhbehpmpaaDoor
