/-
  The walk of VectorJoins.
-/
import Derived.Test.YtakjlcnojgboeaaVecAlive
import Derived.Deep.RegionHeld
namespace Go.Proofs.Ytakjlcnojgboeaa
open Go.RowKit
set_option linter.unusedVariables false

def Joined (v u n : Vec) : Prop := joinV v u = n

set_option maxRecDepth 100000 in
set_option maxHeartbeats 4000000 in
theorem joins_walk (a0 a1 a2 a3 b0 b1 b2 b3 c0 c1 c2 c3 : Int) (w : World) :
    Calls Try.prog 3 #[.agg #[.int .i64 a0, .int .i64 a1, .int .i64 a2, .int .i64 a3], .agg #[.int .i64 b0, .int .i64 b1, .int .i64 b2, .int .i64 b3], .agg #[.int .i64 c0, .int .i64 c1, .int .i64 c2, .int .i64 c3]] w fun e w' => e = .returned (.bool true) ∧ Below w.heap.size w w' := by
  obtain ⟨W, hW⟩ : ∃ W, W = ((w.alloc (.cells #[.int .i64 a0, .int .i64 a1, .int .i64 a2, .int .i64 a3] 22)).alloc (.cells #[.int .i64 b0, .int .i64 b1, .int .i64 b2, .int .i64 b3] 22)).alloc (.cells #[.int .i64 c0, .int .i64 c1, .int .i64 c2, .int .i64 c3] 22) := ⟨_, rfl⟩
  have hA : Blk W w.heap.size 22 #[.int .i64 a0, .int .i64 a1, .int .i64 a2, .int .i64 a3] := by rw [hW]; exact ((Blk.new w _ _).alloc _).alloc _
  have hB : Blk W (w.heap.size + 1) 22 #[.int .i64 b0, .int .i64 b1, .int .i64 b2, .int .i64 b3] := by
    have h := (Blk.new (w.alloc (.cells #[.int .i64 a0, .int .i64 a1, .int .i64 a2, .int .i64 a3] 22)) 22 #[.int .i64 b0, .int .i64 b1, .int .i64 b2, .int .i64 b3]).alloc (.cells #[.int .i64 c0, .int .i64 c1, .int .i64 c2, .int .i64 c3] 22)
    rw [show (w.alloc (.cells #[.int .i64 a0, .int .i64 a1, .int .i64 a2, .int .i64 a3] 22)).heap.size = w.heap.size + 1 by simp] at h
    rw [hW]
    exact h
  have hC : Blk W (w.heap.size + 1 + 1) 22 #[.int .i64 c0, .int .i64 c1, .int .i64 c2, .int .i64 c3] := by
    have h := Blk.new ((w.alloc (.cells #[.int .i64 a0, .int .i64 a1, .int .i64 a2, .int .i64 a3] 22)).alloc (.cells #[.int .i64 b0, .int .i64 b1, .int .i64 b2, .int .i64 b3] 22)) 22 #[.int .i64 c0, .int .i64 c1, .int .i64 c2, .int .i64 c3]
    rw [show ((w.alloc (.cells #[.int .i64 a0, .int .i64 a1, .int .i64 a2, .int .i64 a3] 22)).alloc (.cells #[.int .i64 b0, .int .i64 b1, .int .i64 b2, .int .i64 b3] 22)).heap.size = w.heap.size + 1 + 1 by simp] at h
    rw [hW]
    exact h
  have hBe : Below w.heap.size w W := by
    rw [hW]
    exact (((Below.refl w.heap.size w).alloc (Nat.le_refl _) _).alloc (by simp) _).alloc (by simp; omega) _
  have HA := hide hA
  have HBk := hide hB
  have HC := hide hC
  have HBW := hide hBe
  have HW := hide hW
  clear hA hB hC hBe hW
  go_enter Try.func3, Try.ntmps3
  go_wp2_with fail
  rw [← HW.out]
  refine (alive08 _).mono ?_
  rintro e w1 ⟨rfl, hb1⟩
  have HS1 := hide (show Since W w1 from hb1)
  obtain ⟨x0, x1, x2, x3⟩ := four_cells (HA.out.below HS1.out HA.out.lt)
  obtain ⟨y0, y1, y2, y3⟩ := four_cells (HBk.out.below HS1.out HBk.out.lt)
  clear hb1
  go_wp2_with fail
  refine (vjoin_any ⟨a0, a1, a2, a3⟩ ⟨b0, b1, b2, b3⟩ _).mono ?_
  rintro e w2 ⟨rfl, hb2⟩
  clear x0 x1 x2 x3 y0 y1 y2 y3
  have hs2 : Since W w2 := Since.next HS1.out hb2
  clear hb2 HS1
  obtain ⟨n0, n1, n2, n3, h0, h1, h2, h3, hj⟩ : ∃ n0 n1 n2 n3, n0 = max a0 b0 ∧ n1 = max a1 b1 ∧ n2 = max a2 b2 ∧ n3 = max a3 b3 ∧ joinV ⟨a0, a1, a2, a3⟩ ⟨b0, b1, b2, b3⟩ = ⟨n0, n1, n2, n3⟩ := ⟨_, _, _, _, rfl, rfl, rfl, rfl, rfl⟩
  rw [show (joinV ⟨a0, a1, a2, a3⟩ ⟨b0, b1, b2, b3⟩).val = .agg #[.int .i64 n0, .int .i64 n1, .int .i64 n2, .int .i64 n3] by rw [hj]; rfl]
  have H0 := hide h0
  have H1 := hide h1
  have H2 := hide h2
  have H3 := hide h3
  have HJ := hide (show Joined ⟨a0, a1, a2, a3⟩ ⟨b0, b1, b2, b3⟩ ⟨n0, n1, n2, n3⟩ from hj)
  obtain ⟨W3, hW3⟩ : ∃ W3, W3 = w2.alloc (.cells #[.int .i64 n0, .int .i64 n1, .int .i64 n2, .int .i64 n3] 22) := ⟨_, rfl⟩
  have HJB := hide (show Blk W3 w2.heap.size 22 #[.int .i64 n0, .int .i64 n1, .int .i64 n2, .int .i64 n3] by rw [hW3]; exact Blk.new w2 _ _)
  have HS3 := hide (show Since W W3 by rw [hW3]; exact hs2.alloc _)
  have HW3 := hide hW3
  clear h0 h1 h2 h3 hj hs2 hW3
  go_wp2
  rw [← HW3.out]
  go_loopw [8] (fun k wr => ∃ j : Nat, j ≤ 4 ∧ k = .int .i64 j ∧ Hid (Since W3 wr)) (fun k _ => 4 - (intOf k).toNat)
  case atStart => exact ⟨0, by omega, rfl, hide (Since.refl _)⟩
  case round =>
    obtain ⟨j, hj4, rfl, hs⟩ := hrel
    have kA := fun w' (h : Since wr w') => four_cells (HA.out.below (Since.trans HS3.out (Since.trans hs.out h)) HA.out.lt)
    have kB := fun w' (h : Since wr w') => four_cells (HBk.out.below (Since.trans HS3.out (Since.trans hs.out h)) HBk.out.lt)
    have kJ := fun w' (h : Since wr w') => four_cells (HJB.out.below (Since.trans hs.out h) HJB.out.lt)
    have KA := hide kA
    have KB := hide kB
    have KJ := hide kJ
    clear kA kB kJ
    rcases (show j = 0 ∨ j = 1 ∨ j = 2 ∨ j = 3 ∨ j = 4 by omega) with rfl | rfl | rfl | rfl | rfl
    · have xi := fun w' h => (KA.out w' h).1
      have yi := fun w' h => (KB.out w' h).1
      have zi := fun w' h => (KJ.out w' h).1
      have hr0 := (Since.refl wr).drew
      rcases Int.lt_or_le a0 b0 with hlt | hlt
      · have hn : n0 = b0 := by have := H0.out; omega
        have HN := hide hn
        rw [hn] at zi
        clear hn
        go_wp2_with fail
        go_region_held (fun w' => Since wr w') (assumption) (fail)
        all_goals clear xi yi zi hr0
        all_goals go_wp2
        all_goals go_roundw
        case rel => exact ⟨1, by omega, by go_num, hide (Since.trans hs.out (by assumption))⟩
        case measure => simp [intOf]
      · have hn : n0 = a0 := by have := H0.out; omega
        have HN := hide hn
        rw [hn] at zi
        have hnl : ¬ (a0 < b0) := by omega
        clear hn
        go_wp2_with fail
        go_region_held (fun w' => Since wr w') (assumption) (fail)
        all_goals clear xi yi zi hr0
        all_goals go_wp2
        all_goals go_roundw
        case rel => exact ⟨1, by omega, by go_num, hide (Since.trans hs.out (by assumption))⟩
        case measure => simp [intOf]
    · have xi := fun w' h => (KA.out w' h).2.1
      have yi := fun w' h => (KB.out w' h).2.1
      have zi := fun w' h => (KJ.out w' h).2.1
      have hr0 := (Since.refl wr).drew
      rcases Int.lt_or_le a1 b1 with hlt | hlt
      · have hn : n1 = b1 := by have := H1.out; omega
        have HN := hide hn
        rw [hn] at zi
        clear hn
        go_wp2_with fail
        go_region_held (fun w' => Since wr w') (assumption) (fail)
        all_goals clear xi yi zi hr0
        all_goals go_wp2
        all_goals go_roundw
        case rel => exact ⟨2, by omega, by go_num, hide (Since.trans hs.out (by assumption))⟩
        case measure => simp [intOf]
      · have hn : n1 = a1 := by have := H1.out; omega
        have HN := hide hn
        rw [hn] at zi
        have hnl : ¬ (a1 < b1) := by omega
        clear hn
        go_wp2_with fail
        go_region_held (fun w' => Since wr w') (assumption) (fail)
        all_goals clear xi yi zi hr0
        all_goals go_wp2
        all_goals go_roundw
        case rel => exact ⟨2, by omega, by go_num, hide (Since.trans hs.out (by assumption))⟩
        case measure => simp [intOf]
    · have xi := fun w' h => (KA.out w' h).2.2.1
      have yi := fun w' h => (KB.out w' h).2.2.1
      have zi := fun w' h => (KJ.out w' h).2.2.1
      have hr0 := (Since.refl wr).drew
      rcases Int.lt_or_le a2 b2 with hlt | hlt
      · have hn : n2 = b2 := by have := H2.out; omega
        have HN := hide hn
        rw [hn] at zi
        clear hn
        go_wp2_with fail
        go_region_held (fun w' => Since wr w') (assumption) (fail)
        all_goals clear xi yi zi hr0
        all_goals go_wp2
        all_goals go_roundw
        case rel => exact ⟨3, by omega, by go_num, hide (Since.trans hs.out (by assumption))⟩
        case measure => simp [intOf]
      · have hn : n2 = a2 := by have := H2.out; omega
        have HN := hide hn
        rw [hn] at zi
        have hnl : ¬ (a2 < b2) := by omega
        clear hn
        go_wp2_with fail
        go_region_held (fun w' => Since wr w') (assumption) (fail)
        all_goals clear xi yi zi hr0
        all_goals go_wp2
        all_goals go_roundw
        case rel => exact ⟨3, by omega, by go_num, hide (Since.trans hs.out (by assumption))⟩
        case measure => simp [intOf]
    · have xi := fun w' h => (KA.out w' h).2.2.2
      have yi := fun w' h => (KB.out w' h).2.2.2
      have zi := fun w' h => (KJ.out w' h).2.2.2
      have hr0 := (Since.refl wr).drew
      rcases Int.lt_or_le a3 b3 with hlt | hlt
      · have hn : n3 = b3 := by have := H3.out; omega
        have HN := hide hn
        rw [hn] at zi
        clear hn
        go_wp2_with fail
        go_region_held (fun w' => Since wr w') (assumption) (fail)
        all_goals clear xi yi zi hr0
        all_goals go_wp2
        all_goals go_roundw
        case rel => exact ⟨4, by omega, by go_num, hide (Since.trans hs.out (by assumption))⟩
        case measure => simp [intOf]
      · have hn : n3 = a3 := by have := H3.out; omega
        have HN := hide hn
        rw [hn] at zi
        have hnl : ¬ (a3 < b3) := by omega
        clear hn
        go_wp2_with fail
        go_region_held (fun w' => Since wr w') (assumption) (fail)
        all_goals clear xi yi zi hr0
        all_goals go_wp2
        all_goals go_roundw
        case rel => exact ⟨4, by omega, by go_num, hide (Since.trans hs.out (by assumption))⟩
        case measure => simp [intOf]
    · have KC := hide (fun w' (h : Since wr w') => four_cells (HC.out.below (Since.trans HS3.out (Since.trans hs.out h)) HC.out.lt))
      have HBx := hide (fun w' (h : Since wr w') => HBW.out.trans (Below.mono (Since.trans HS3.out (Since.trans hs.out h)) HBW.out.size))
      have S0 := hide (Since.refl wr)
      have hcj := covers_join ⟨c0, c1, c2, c3⟩ ⟨a0, a1, a2, a3⟩ ⟨b0, b1, b2, b3⟩
      have hja := (join_covers ⟨a0, a1, a2, a3⟩ ⟨b0, b1, b2, b3⟩).1
      have hjb := (join_covers ⟨a0, a1, a2, a3⟩ ⟨b0, b1, b2, b3⟩).2
      have haa := covers_self ⟨a0, a1, a2, a3⟩
      rw [show joinV ⟨a0, a1, a2, a3⟩ ⟨b0, b1, b2, b3⟩ = ⟨n0, n1, n2, n3⟩ from HJ.out] at hcj hja hjb
      generalize hp : coversV ⟨c0, c1, c2, c3⟩ ⟨a0, a1, a2, a3⟩ = p at *
      generalize hq : coversV ⟨c0, c1, c2, c3⟩ ⟨b0, b1, b2, b3⟩ = q at *
      obtain ⟨q0c, q1c, q2c, q3c⟩ := KC.out _ S0.out
      obtain ⟨q0a, q1a, q2a, q3a⟩ := KA.out _ S0.out
      go_wp2_with fail
      refine (vcovers_any ⟨c0, c1, c2, c3⟩ ⟨a0, a1, a2, a3⟩ _).mono ?_
      rintro e u1 ⟨rfl, hb⟩
      rw [hp]
      have S1 := hide (Since.next S0.out hb)
      clear hb q0c q1c q2c q3c q0a q1a q2a q3a
      cases p with
      | false =>
        obtain ⟨q0n, q1n, q2n, q3n⟩ := KJ.out _ S1.out
        obtain ⟨q0a, q1a, q2a, q3a⟩ := KA.out _ S1.out
        go_wp2_with fail
        refine (vcovers_any ⟨n0, n1, n2, n3⟩ ⟨a0, a1, a2, a3⟩ _).mono ?_
        rintro e u2 ⟨rfl, hb⟩
        rw [hja]
        have S2 := hide (Since.next S1.out hb)
        clear hb q0n q1n q2n q3n q0a q1a q2a q3a
        obtain ⟨q0n, q1n, q2n, q3n⟩ := KJ.out _ S2.out
        obtain ⟨q0b, q1b, q2b, q3b⟩ := KB.out _ S2.out
        go_wp2_with fail
        refine (vcovers_any ⟨n0, n1, n2, n3⟩ ⟨b0, b1, b2, b3⟩ _).mono ?_
        rintro e u3 ⟨rfl, hb⟩
        rw [hjb]
        have S3 := hide (Since.next S2.out hb)
        clear hb q0n q1n q2n q3n q0b q1b q2b q3b
        obtain ⟨q0a, q1a, q2a, q3a⟩ := KA.out _ S3.out
        go_wp2_with fail
        refine (vcovers_any ⟨a0, a1, a2, a3⟩ ⟨a0, a1, a2, a3⟩ _).mono ?_
        rintro e u4 ⟨rfl, hb⟩
        rw [haa]
        have S4 := hide (Since.next S3.out hb)
        clear hb q0a q1a q2a q3a
        obtain ⟨q0c, q1c, q2c, q3c⟩ := KC.out _ S4.out
        obtain ⟨q0n, q1n, q2n, q3n⟩ := KJ.out _ S4.out
        go_wp2_with fail
        refine (vcovers_any ⟨c0, c1, c2, c3⟩ ⟨n0, n1, n2, n3⟩ _).mono ?_
        rintro e u5 ⟨rfl, hb⟩
        rw [hcj]
        have S5 := hide (Since.next S4.out hb)
        clear hb q0c q1c q2c q3c q0n q1n q2n q3n
        go_wp2
        go_ret
        exact ⟨rfl, HBx.out _ S5.out⟩
      | true =>
        obtain ⟨q0c, q1c, q2c, q3c⟩ := KC.out _ S1.out
        obtain ⟨q0b, q1b, q2b, q3b⟩ := KB.out _ S1.out
        go_wp2_with fail
        refine (vcovers_any ⟨c0, c1, c2, c3⟩ ⟨b0, b1, b2, b3⟩ _).mono ?_
        rintro e u2 ⟨rfl, hb⟩
        rw [hq]
        have S2 := hide (Since.next S1.out hb)
        clear hb q0c q1c q2c q3c q0b q1b q2b q3b
        obtain ⟨q0n, q1n, q2n, q3n⟩ := KJ.out _ S2.out
        obtain ⟨q0a, q1a, q2a, q3a⟩ := KA.out _ S2.out
        go_wp2_with fail
        refine (vcovers_any ⟨n0, n1, n2, n3⟩ ⟨a0, a1, a2, a3⟩ _).mono ?_
        rintro e u3 ⟨rfl, hb⟩
        rw [hja]
        have S3 := hide (Since.next S2.out hb)
        clear hb q0n q1n q2n q3n q0a q1a q2a q3a
        obtain ⟨q0n, q1n, q2n, q3n⟩ := KJ.out _ S3.out
        obtain ⟨q0b, q1b, q2b, q3b⟩ := KB.out _ S3.out
        go_wp2_with fail
        refine (vcovers_any ⟨n0, n1, n2, n3⟩ ⟨b0, b1, b2, b3⟩ _).mono ?_
        rintro e u4 ⟨rfl, hb⟩
        rw [hjb]
        have S4 := hide (Since.next S3.out hb)
        clear hb q0n q1n q2n q3n q0b q1b q2b q3b
        obtain ⟨q0a, q1a, q2a, q3a⟩ := KA.out _ S4.out
        go_wp2_with fail
        refine (vcovers_any ⟨a0, a1, a2, a3⟩ ⟨a0, a1, a2, a3⟩ _).mono ?_
        rintro e u5 ⟨rfl, hb⟩
        rw [haa]
        have S5 := hide (Since.next S4.out hb)
        clear hb q0a q1a q2a q3a
        obtain ⟨q0c, q1c, q2c, q3c⟩ := KC.out _ S5.out
        obtain ⟨q0n, q1n, q2n, q3n⟩ := KJ.out _ S5.out
        go_wp2_with fail
        refine (vcovers_any ⟨c0, c1, c2, c3⟩ ⟨n0, n1, n2, n3⟩ _).mono ?_
        rintro e u6 ⟨rfl, hb⟩
        rw [hcj]
        have S6 := hide (Since.next S5.out hb)
        clear hb q0c q1c q2c q3c q0n q1n q2n q3n
        cases q with
        | false =>
          go_wp2
          go_ret
          exact ⟨rfl, HBx.out _ S6.out⟩
        | true =>
          go_wp2
          go_ret
          exact ⟨rfl, HBx.out _ S6.out⟩
end Go.Proofs.Ytakjlcnojgboeaa
