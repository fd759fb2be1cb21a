/-
  The walk of VectorKnows.
-/
import Derived.Test.YtakjlcnojgboeaaVecAlive
import Derived.Test.YtakjlcnojgboeaaStampPut
import Derived.Deep.RegionHeld
import Derived.Deep.RegionWith
namespace Go.Proofs.Ytakjlcnojgboeaa
open Go.RowKit
set_option linter.unusedVariables false

theorem few08_any (A : Option Addr) (n c : Nat) (w : World) (hc : n ≤ c) (hcb : c ≤ 9223372036854775807) : Calls Try.prog 8 #[.slice A n c] w fun e w' => e = .returned (.slice A (min n 40) c) ∧ w = w' := by
  rcases Nat.lt_or_ge 40 n with h | h
  · have hs1 : ∀ W, (Instr.slice 27 (.slice A n c) none (some (.int .i64 40)) none).run Try.prog W = .ok (.slice A 40 c) W := fun W => front_runC W A n c 40 (by omega)
    have e : min n 40 = 40 := by omega
    have h' : (40 : Int) < (n : Int) := by omega
    have E := hide e
    clear e
    go_enter Try.func8, Try.ntmps8
    go_wp2
    go_ret
    exact ⟨by rw [E.out]; rfl, rfl⟩
  · have e : min n 40 = n := by omega
    have h' : ¬ ((40 : Int) < (n : Int)) := by omega
    rw [e]
    clear e
    go_enter Try.func8, Try.ntmps8
    go_wp2
    go_ret
    exact ⟨rfl, rfl⟩
def SameVec (v u : Vec) : Prop := v = u
theorem knows_bad (x : Chg) (h : ¬ (0 ≤ x.r ∧ x.r < 4 ∧ 1 ≤ x.s)) : decide (0 ≤ x.r) = false ∨ (decide (0 ≤ x.r) = true ∧ decide (x.r < 4) = false) ∨ (decide (0 ≤ x.r) = true ∧ decide (x.r < 4) = true ∧ decide (1 ≤ x.s) = false) := by
  by_cases h1 : 0 ≤ x.r
  · by_cases h2 : x.r < 4
    · exact .inr (.inr ⟨decide_eq_true h1, decide_eq_true h2, decide_eq_false fun h3 => h ⟨h1, h2, h3⟩⟩)
    · exact .inr (.inl ⟨decide_eq_true h1, decide_eq_false h2⟩)
  · exact .inl (decide_eq_false h1)

set_option maxRecDepth 100000 in
set_option maxHeartbeats 4000000 in
theorem knows_walk (A : Option Addr) (n c : Nat) (l : List Chg) (B : Option Addr) (m d : Nat) (k : List Chg) (w : World) (h : RowK w (· < w.heap.size) 9 A n c (chgs l)) (h2 : RowK w (· < w.heap.size) 9 B m d (chgs k)) (hok : ∀ y ∈ l, y.ok) (hok2 : ∀ y ∈ k, y.ok) :
    Calls Try.prog 4 #[.slice A n c, .slice B m d] w fun e w' => e = .returned (.bool true) ∧ Below w.heap.size w w' := by
  obtain ⟨i9, hi, hz0, hz1, hz2⟩ := info_parts infoChg
  have hl : l.length = n := by have := h.1; rw [chgs_len] at this; omega
  have hk : k.length = m := by have := h2.1; rw [chgs_len] at this; omega
  have hfr := h.front (show min n 40 ≤ n by omega)
  have hfr2 := h2.front (show min m 40 ≤ m by omega)
  rw [chgs_take] at hfr hfr2
  have HR := hide hfr
  have HR2 := hide hfr2
  have HLP := hide (show (l.take (min n 40)).length = min n 40 by rw [List.length_take, hl]; omega)
  have HLQ := hide (show (k.take (min m 40)).length = min m 40 by rw [List.length_take, hk]; omega)
  have HOP := hide (show ∀ y ∈ l.take (min n 40), y.ok from fun y hy => hok y (List.mem_of_mem_take hy))
  have HOQ := hide (show ∀ y ∈ k.take (min m 40), y.ok from fun y hy => hok2 y (List.mem_of_mem_take hy))
  have HF := hide (few08_any A n c · h.2.1 h.2.2.1)
  have HF2 := hide (few08_any B m d · h2.2.1 h2.2.2.1)
  have hn40 : min n 40 ≤ 40 := by omega
  have hm40 : min m 40 ≤ 40 := by omega
  clear h h2 hfr hfr2 hl hk hok hok2
  generalize l.take (min n 40) = p at *
  generalize k.take (min m 40) = q at *
  generalize min n 40 = np at *
  generalize min m 40 = nq at *
  go_enter Try.func4, Try.ntmps4
  go_wp2_with fail
  refine (alive08 _).mono ?_
  rintro e w1 ⟨rfl, hb1⟩
  have HB1 := hide hb1
  clear hb1
  go_wp2_with fail
  refine (HF.out _).mono ?_
  rintro e w' ⟨rfl, rfl⟩
  go_wp2_with fail
  refine (HF2.out _).mono ?_
  rintro e w' ⟨rfl, rfl⟩
  go_wp2_with fail
  refine (vof_any _ _ _ _ p _ (HR.out.below (by omega) HB1.out (fun _ h _ => h)) HOP.out).mono ?_
  rintro e w2 ⟨rfl, hb2⟩
  have HB2 := hide (HB1.out.trans (hb2.mono HB1.out.size))
  obtain ⟨v0, v1, v2, v3, hv⟩ : ∃ v0 v1 v2 v3, ofV p = ⟨v0, v1, v2, v3⟩ := ⟨_, _, _, _, rfl⟩
  rw [show (ofV p).val = .agg #[.int .i64 v0, .int .i64 v1, .int .i64 v2, .int .i64 v3] by rw [hv]; rfl]
  have HV := hide (show SameVec (ofV p) ⟨v0, v1, v2, v3⟩ from hv)
  obtain ⟨W3, hW3⟩ : ∃ W3, W3 = w2.alloc (.cells #[.int .i64 v0, .int .i64 v1, .int .i64 v2, .int .i64 v3] 22) := ⟨_, rfl⟩
  have HVB := hide (show Blk W3 w2.heap.size 22 #[.int .i64 v0, .int .i64 v1, .int .i64 v2, .int .i64 v3] by rw [hW3]; exact Blk.new w2 _ _)
  have HB3 := hide (show Below w.heap.size w W3 by rw [hW3]; exact HB2.out.alloc HB2.out.size _)
  have HW3 := hide hW3
  have HR3 := hide (HR.out.below (by omega) HB3.out (fun _ h _ => h))
  have HQ3 := hide (HR2.out.below (by omega) HB3.out (fun _ h _ => h))
  clear hb2 hv hW3 HB1 HB2 HF HF2
  go_wp2_with (at_builtin; rw [← HW3.out]; refine wpList_append_rowK _ rfl _ _ 27 rfl W3.heap.size 34 i9 _ 9 72 Try.underlying27 hi hz0 hz1 hz2 rfl (by decide) _ 0 [] rfl ⟨rfl, .inl ⟨rfl, rfl⟩⟩ _ A np c (chgs p) rfl HR3.out (chgs_one _) ?h1 ?h2 (Nat.le_refl _) ?_)
  case h1 => unfold maxLen; omega
  case h2 => omega
  intro u4 w4 hown hgr _
  obtain ⟨A4, c4, rfl⟩ := own_formK hown
  have hs4 : Since W3 w4 := Below.grown (Below.refl W3.heap.size W3) hgr (Nat.le_refl _) (fun g hg => by cases hg)
  have HS4 := hide hs4
  have HOW4 := hide hown
  have HQ4 := hide (HQ3.out.below (by omega) (Below.mono hs4 HB3.out.size) (fun _ h _ => h))
  clear hown hgr hs4 HW3
  go_wp2_with (at_builtin; refine wpList_append_rowK _ rfl _ _ 27 rfl W3.heap.size 34 i9 _ 9 72 Try.underlying27 hi hz0 hz1 hz2 rfl (by decide) _ np (chgs p) rfl HOW4.out _ B nq d (chgs q) rfl HQ4.out (chgs_one _) ?h1 ?h2 (Below.size HS4.out) ?_)
  case h1 => unfold maxLen; omega
  case h2 => omega
  intro u5 w5 hown hgr _
  obtain ⟨A5, c5, rfl⟩ := own_formK hown
  rw [chgs_append] at hown
  have hs5 : Since W3 w5 := Below.grown HS4.out hgr (Below.size HS4.out) (fun g hg => (HOW4.out.lt g hg).1)
  have HS5 := hide hs5
  have HALL := hide (RowK.of_own hown)
  have HQ5 := hide (HQ3.out.below (by omega) (Below.mono hs5 HB3.out.size) (fun _ h _ => h))
  have HP5 := hide (HR3.out.below (by omega) (Below.mono hs5 HB3.out.size) (fun _ h _ => h))
  clear hown hgr hs5 HOW4 HQ4 HS4 hi hz0 hz1 hz2
  obtain ⟨y0, y1, y2, y3⟩ := four_cells (HVB.out.below HS5.out HVB.out.lt)
  go_wp2_with fail
  refine (vlacking_any ⟨v0, v1, v2, v3⟩ _ _ _ _ q _ HQ5.out (by omega)).mono ?_
  rintro e w6 ⟨A6, c6, rfl, hown6, hb6⟩
  have HS6 := hide (Since.next HS5.out hb6)
  have HL6 := hide (RowK.of_own hown6)
  have HALL6 := hide (HALL.out.below (by omega) hb6 (fun _ _ h => h))
  have HP6 := hide (HP5.out.below (by omega) hb6 (fun _ _ h => h))
  clear hown6 hb6 HALL HQ5 HP5 y0 y1 y2 y3
  obtain ⟨y0, y1, y2, y3⟩ := four_cells (HVB.out.below HS6.out HVB.out.lt)
  go_wp2_with fail
  refine (vlacking_any ⟨v0, v1, v2, v3⟩ _ _ _ _ p _ HP6.out (by omega)).mono ?_
  rintro e w7 ⟨A7, c7, rfl, hown7, hb7⟩
  have HS7 := hide (Since.next HS6.out hb7)
  have HO7 := hide (RowK.of_own hown7)
  have HL7 := hide (HL6.out.below (by omega) hb7 (fun _ _ h => h))
  have HALL7 := hide (HALL6.out.below (by omega) hb7 (fun _ _ h => h))
  have hno := lack_own p
  rw [show ofV p = ⟨v0, v1, v2, v3⟩ from HV.out] at hno
  have HNO := hide hno
  have hK := lack_len ⟨v0, v1, v2, v3⟩ p
  rw [HLP.out] at hK
  have hc7 : (lackV ⟨v0, v1, v2, v3⟩ p).length ≤ c7 := HO7.out.2.1
  have hc7b := HO7.out.2.2.1
  clear hown7 hb7 HL6 HALL6 HP6 y0 y1 y2 y3 hno
  generalize hKK : (lackV ⟨v0, v1, v2, v3⟩ p).length = K at *
  have HKK := hide hKK
  clear hKK
  go_wp2
  go_loop [9] (fun i => ∃ j : Nat, j ≤ K ∧ i = .int .i64 j) (fun i => K - (intOf i).toNat)
  case atStart => exact ⟨0, Nat.zero_le _, rfl⟩
  case round =>
    obtain ⟨j, hj, rfl⟩ := hrel
    by_cases hlt : j < K
    · obtain ⟨b, o, x, rfl, -, hb, hx, hat⟩ := chgs_at HO7.out hlt
      have hbad := knows_bad x (HNO.out x (List.mem_of_getElem? hx))
      obtain ⟨x0, x1, x2, x3, x4, x5, x6, x7, x8⟩ := hat
      clear hx x2 x3 x4 x5 x6 x7 x8
      generalize x.r = xr at *
      generalize x.s = xs at *
      rcases hbad with d1 | ⟨d1, d2⟩ | ⟨d1, d2, d3⟩
      · go_wp2
        go_round
        case rel => exact ⟨j + 1, by omega, by go_num⟩
        case measure => simp [intOf]; omega
      · go_wp2
        go_round
        case rel => exact ⟨j + 1, by omega, by go_num⟩
        case measure => simp [intOf]; omega
      · go_wp2
        go_round
        case rel => exact ⟨j + 1, by omega, by go_num⟩
        case measure => simp [intOf]; omega
    · obtain rfl : j = K := by omega
      have HBx := hide (fun w' (h : Since w7 w') => HB3.out.trans (Below.mono (Since.trans HS7.out h) HB3.out.size))
      have kV := fun w' (h : Since w7 w') => four_cells (HVB.out.below (Since.trans HS7.out h) HVB.out.lt)
      have y0 := fun w' h => (kV w' h).1
      have y1 := fun w' h => (kV w' h).2.1
      have y2 := fun w' h => (kV w' h).2.2.1
      have y3 := fun w' h => (kV w' h).2.2.2
      have hr0 := (Since.refl w7).drew
      have hjoin := join_lack p q
      rw [show ofV p = ⟨v0, v1, v2, v3⟩ from HV.out] at hjoin
      obtain ⟨k0, k1, k2, k3, hkk⟩ : ∃ k0 k1 k2 k3, ofV (lackV ⟨v0, v1, v2, v3⟩ q) = ⟨k0, k1, k2, k3⟩ := ⟨_, _, _, _, rfl⟩
      obtain ⟨s0, s1, s2, s3, hss⟩ : ∃ s0 s1 s2 s3, ofV (p ++ q) = ⟨s0, s1, s2, s3⟩ := ⟨_, _, _, _, rfl⟩
      rw [hkk, hss] at hjoin
      have hokl : ∀ y ∈ lackV ⟨v0, v1, v2, v3⟩ q, y.ok := fun y hy => HOQ.out y (List.mem_filter.1 hy).1
      have hoka : ∀ y ∈ p ++ q, y.ok := fun y hy => (List.mem_append.1 hy).elim (HOP.out y) (HOQ.out y)
      have P1 := hide (fun w' (h : Since w7 w') => (vof_any _ _ _ _ _ w' (HL7.out.below (by omega) h (fun _ _ h => h)) hokl).mono fun e w2 hh => And.intro hh.1 (Since.next h hh.2))
      have P2 := hide (fun w' (h : Since w7 w') => (vof_any _ _ _ _ _ w' (HALL7.out.below (by omega) h (fun _ _ h => h)) hoka).mono fun e w2 hh => And.intro hh.1 (Since.next h hh.2))
      have P3 := hide (fun w' (h : Since w7 w') => (vjoin_any ⟨v0, v1, v2, v3⟩ ⟨k0, k1, k2, k3⟩ w').mono fun e w2 hh => And.intro hh.1 (Since.next h hh.2))
      rw [hkk] at P1
      rw [hss] at P2
      rw [hjoin] at P3
      have hq : ∀ W, (Op.equalIn 10000 22 (.agg #[.int .i64 s0, .int .i64 s1, .int .i64 s2, .int .i64 s3]) (.agg #[.int .i64 s0, .int .i64 s1, .int .i64 s2, .int .i64 s3])).run Try.prog W = .ok true W := fun W => by
        have := four_equal s0 s1 s2 s3 s0 s1 s2 s3 W
        rwa [decide_eq_true ⟨rfl, rfl, rfl, rfl⟩] at this
      unfold Vec.val at P1 P2 P3
      generalize (lackV ⟨v0, v1, v2, v3⟩ q).length = K6 at *
      clear kV hjoin hkk hss hokl hoka HO7 HL7 HALL7 HNO HV HVB HS7 HB3 HS6 HS5 HKK HLP HLQ HOP HOQ HR3 HQ3 hlt
      go_wp2_with fail
      go_region_held (fun w' => Since w7 w') (assumption) (first
        | (go_at_call_of 9 (Value.slice A6 K6 c6); refine (P1.out _ (by assumption)).mono ?_; rintro e w8 ⟨rfl, hs8⟩)
        | (go_at_call_of 9 (Value.slice A5 (np + nq) c5); refine (P2.out _ (by assumption)).mono ?_; rintro e w8 ⟨rfl, hs8⟩)
        | (go_at_call 6; refine (P3.out _ (by assumption)).mono ?_; rintro e w8 ⟨rfl, hs8⟩))
      all_goals go_wp2
      all_goals go_ret
      all_goals exact ⟨rfl, HBx.out _ (by assumption)⟩
end Go.Proofs.Ytakjlcnojgboeaa
