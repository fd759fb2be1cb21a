/-
  The walk of WalSwaps.
-/
import Derived.Test.YthoedknnchaiaaaWalLoop
import Derived.Test.YthoedknnchaiaaaPlainSome
import Derived.Deep.CutBlock
import Derived.Deep.DeepCutAuto
namespace Go.Proofs.Ythoedknnchaiaaa
open Go.RowKit
set_option linter.unusedVariables false

set_option maxHeartbeats 8000000 in
set_option maxRecDepth 100000 in
theorem walswaps_walk (n : Int) (A : Option Addr) (na ca : Nat) (la : List (List Int)) (Bd : Option Addr) (nb cb : Nat) (lb : List Int) (arm : Int) (w : World) (hn : I64' n)
    (ha : Parts w A na la) (hla : ∀ i, i < na → (la.getD i []).length ≤ 140737488351232) (hca : na ≤ ca ∧ ca ≤ 9223372036854775807) (hb : Row w (· < w.heap.size) Bd nb cb (octs lb)) (hbo : Octs lb) (hcb : cb ≤ 140737488351232) :
    Calls Try.prog 5 #[.int .i64 n, .slice A na ca, .slice Bd nb cb, .int .i64 arm] w fun e w' => e = .returned (.bool true) ∧ Below w.heap.size w w' := by
  have hnn := near_in (n := n) (show (1 : Int) ≤ 64 by omega)
  obtain ⟨N, hN⟩ : ∃ N : Nat, (near n 1 64).toNat = N := ⟨_, rfl⟩
  have hN1 : 1 ≤ N ∧ N ≤ 64 := by omega
  have HNN := hide hN
  have HA := hide ha
  have HB := hide hb
  have HBO := hide hbo
  have HLA := hide hla
  have hnab : na ≤ 9223372036854775807 := by omega
  have hnbc : nb ≤ 140737488351232 := by have := hb.2.1; omega
  clear hnn hN ha hb hla hca hbo hcb
  go_enter Try.func5, Try.ntmps5
  go_wp2_with fail
  refine (alive12 _).mono ?_
  rintro e w1 ⟨rfl, hb1⟩
  have HB1 := hide hb1
  clear hb1
  go_wp2_with fail
  refine (one_new n _ hn).mono ?_
  rintro e w2 ⟨l, d, rfl, ⟨P2, Q2, h2⟩, hb2⟩
  rw [HNN.out] at h2
  have HO2 := hide (show OneB w.heap.size w2 l d (Dk.fresh (2 * N + 1)) ⟨N, [], 0⟩ from ⟨P2, Q2, h2.log, h2.dsk, h2.inv, h2.pq, fun b hb => Nat.le_trans HB1.out.size (h2.pb b hb), fun b hb => Nat.le_trans HB1.out.size (h2.qb b hb)⟩)
  have HB2 := hide (HB1.out.trans (hb2.mono HB1.out.size))
  clear h2 hb2 HB1 HNN
  go_upto_block 0 with fail
  go_cut [10] (fun s wx => ∃ m : Lm, m.n = N ∧ Hid (OneB w.heap.size wx l d (Dk.fresh (2 * N + 1)) m) ∧ Hid (Below w.heap.size w wx))
  case first =>
    go_wp2
    go_loopw [10] (fun s wr => ∃ (j : Nat) (m : Lm), j ≤ na ∧ s = .int .i64 j ∧ m.n = N ∧ Hid (OneB w.heap.size wr l d (Dk.fresh (2 * N + 1)) m) ∧ Hid (Below w.heap.size w wr)) (fun s _ => na - (intOf s).toNat)
    case atStart => exact ⟨0, _, Nat.zero_le _, rfl, rfl, HO2, HB2⟩
    case round =>
      obtain ⟨j, m, hj, rfl, hmn, ho, hbl⟩ := hrel
      by_cases hlt : j < na ∧ j < 20
      · obtain ⟨hlt, hlt20⟩ := hlt
        obtain ⟨b, o, a, c, rfl, hc0, hrow, hoct⟩ := part_at HA.out hbl.out hlt
        have HAP := hide (oneB_append a _ c _ wr ho.out hbl.out.size hrow hoct (by have := HLA.out j hlt; omega))
        have HM := hide (appendL_n m (la.getD j []))
        clear hrow hoct
        generalize (la.getD j []).length = q at *
        generalize appendL m (la.getD j []) = mm at *
        go_wp2_with fail
        refine HAP.out.mono ?_
        rintro e w3 ⟨rfl, h3, hb3⟩
        have HO3 := hide h3
        have HB3 := hide (hbl.out.trans hb3)
        clear h3 hb3 HAP
        go_wp2
        go_roundw
        case rel => exact ⟨j + 1, _, by omega, by go_num, HM.out.trans hmn, HO3, HB3⟩
        case measure => simp [intOf]; omega
      · have HJ := hide hlt
        by_cases hlt2 : j < na
        · have hlt20 : ¬ (j < 20) := fun h => HJ.out ⟨hlt2, h⟩
          clear hlt
          go_wp2
          go_meet
          exact ⟨m, hmn, ho, hbl⟩
        · clear hlt
          go_wp2
          go_meet
          exact ⟨m, hmn, ho, hbl⟩
  case rest =>
    obtain ⟨m1, hm1, ho1, hb1⟩ := hcut
    have SF := sync_free (k := Dk.fresh (2 * N + 1)) (m := m1) rfl (by show (-1 : Int) < 0; omega)
    have HSY := hide (oneB_sync _ ho1.out hb1.out.size)
    have HSF := hide SF.2
    rw [SF.1] at HSY
    obtain ⟨K, hK⟩ : ∃ K, K = (syncL (Dk.fresh (2 * N + 1)) m1).1 := ⟨_, rfl⟩
    rw [← hK] at HSY HSF
    obtain ⟨m, hmd⟩ : ∃ m : Lm, m = { m1 with dur := m1.recs.length } := ⟨_, rfl⟩
    have HDU := hide (show m.recs.take m.dur = m.recs by rw [hmd]; exact List.take_length)
    rw [← hmd] at HSY
    clear SF hK ho1 hmd
    go_wp2_with fail
    refine HSY.out.mono ?_
    rintro e w3 ⟨rfl, ⟨P3, Q3, s3⟩, hb3⟩
    have HS3 := hide s3
    have HB3 := hide (hb1.out.trans hb3)
    have HG := hide (s3.inv.good HSF.out.1)
    clear s3 hb3 HSY HO2 HB2 hb1
    go_wp2_with fail
    refine (one_records _ HS3.out).mono ?_
    intro e w4 hr
    obtain ⟨A4, c4, rfl, hp4, hlc4, hcb4, hb4⟩ := hr.parts2
    have HP4 := hide hp4
    have HS4 := hide (HS3.out.below hb4)
    have HB4 := hide (HB3.out.trans (hb4.mono HB3.out.size))
    clear hr hp4 hb4 HS3 HB3
    go_wp2_with fail
    refine (one_disk _ HS4.out).mono ?_
    rintro e w5 ⟨g, Q5, rfl, hd5, hq5, hb5⟩
    have HD5 := hide hd5
    have HQ5 := hide (show ∀ n, Q5 n → w4.heap.size ≤ n from hq5)
    have HB5 := hide (show Below w4.heap.size w4 w5 from hb5)
    have HOP := hide (open_good HG.out)
    clear hd5 hq5 hb5 HS4
    go_wp2_with fail
    refine (one_open (B := w4.heap.size) (s := m.n) _ HD5.out HG.out.ok HG.out.n1 HSF.out.1 (open_quiet HG.out) HQ5.out HB5.out.size).mono ?_
    rintro e w6 ⟨x, rfl, ⟨P6, Q6, h6, -, -⟩, ht6⟩
    rw [HOP.out, HDU.out] at h6
    have HO6 := hide (show One w4.heap.size w6 P6 Q6 x g K m from h6)
    have HB6 := hide (HB5.out.trans (touch_base ht6 HB5.out.size HQ5.out))
    clear h6 ht6 HD5 HQ5 HB5 HOP
    go_wp2_with fail
    refine (near_any arm 0 9000 _).mono ?_
    rintro e w' ⟨rfl, rfl⟩
    have hna := near_in (n := arm) (show (0 : Int) ≤ 9000 by omega)
    generalize near arm 0 9000 = a at *
    have HNA := hide (show I64' a by unfold I64'; omega)
    clear hna
    go_wp2_with fail
    refine (one_arm a _ HO6.out HB6.out.size HNA.out).mono ?_
    rintro e w7 ⟨rfl, ⟨P7, Q7, s7⟩, hb7⟩
    have HO7 := hide s7
    have HB7 := hide (HB6.out.trans hb7)
    have HG2 := hide (HG.out.arm (a := a) HNA.out.2)
    have HDD := hide ((arm_dead K a).trans HSF.out.1)
    clear s7 hb7 HO6 HB6 HG
    generalize K.arm a = K2 at *
    have hB4 : w.heap.size ≤ w4.heap.size := HB4.out.size
    have HSW := hide (one_swap Bd nb cb lb _ HO7.out HB7.out.size (HB.out.below (HB4.out.trans (HB7.out.mono hB4)) fun b hb _ => hb) HBO.out (fun i hi _ => ⟨fun hp => by have := HO7.out.pb i hp; omega, fun hq => by have := HO7.out.qb i hq; omega⟩) (by omega))
    obtain ⟨r1, r2⟩ := swap_reopen HG2.out HDD.out HBO.out
    have hsn : (swapL K2 m lb).2.1.n = m.n := swapL_n K2 m lb
    rw [HDU.out] at r2
    generalize hz : (swapL K2 m lb).2.2 = z at *
    generalize hK3 : (swapL K2 m lb).1 = K3 at *
    generalize hm3 : (swapL K2 m lb).2.1 = m3 at *
    go_wp2_with fail
    refine HSW.out.mono ?_
    rintro e w8 ⟨rfl, ⟨P8, Q8, s8⟩, hb8⟩
    have hok8 := s8.inv.ok
    rw [hsn] at hok8
    have HD8 := hide s8.dsk
    have HQ8 := hide s8.qb
    have HB8 := hide (HB7.out.trans hb8)
    clear s8 hb8 HSW HO7 HB7
    go_wp2_with fail
    refine (dlrevive_any _ HD8.out hok8).mono ?_
    rintro e w9 ⟨rfl, Q9, hd9, hq9, ht9⟩
    have HD9 := hide hd9
    have hz8 : w4.heap.size ≤ w8.heap.size := HB8.out.size
    have HQ9 := hide (show ∀ n, Q9 n → w4.heap.size ≤ n from fun b hb => (hq9 b hb).elim (HQ8.out b) fun h => by omega)
    have HB9 := hide (HB8.out.trans (touch_base ht9 hz8 HQ8.out))
    clear hd9 hq9 ht9 hz8 HD8 HQ8 HB8
    go_wp2_with fail
    refine (one_open (B := w4.heap.size) (s := m.n) _ HD9.out (Dk.ok_revive hok8) HG2.out.n1 rfl (revive_quiet _ _) HQ9.out HB9.out.size).mono ?_
    rintro e w10 ⟨y, rfl, ⟨P10, Q10, h10, -, -⟩, ht10⟩
    have HY := hide h10
    have HB10 := hide (HB9.out.trans (touch_base ht10 HB9.out.size HQ9.out))
    clear h10 ht10 HD9 HQ9 HB9 hok8
    generalize (openL K3.revive m.n).2.1 = m4 at *
    have hcase : (m4.recs = [lb] ∧ (z = 0 ∨ z = 19)) ∨ (m4.recs = m.recs ∧ z ≠ 0) := by
      rcases r2 with ⟨h1, h2⟩ | ⟨h1, h2 | ⟨h2, h3⟩⟩
      · exact .inl ⟨by rw [h2], .inl h1⟩
      · exact .inr ⟨by rw [h2], h1⟩
      · exact .inl ⟨by rw [h3], .inr h2⟩
    clear r1 r2
    rcases hcase with ⟨hmr, hz0⟩ | ⟨hmr, hz0⟩
    · have HMR := hide hmr
      clear hmr
      go_wp2_with fail
      refine (one_records _ HY.out).mono ?_
      intro e w11 hr
      obtain ⟨A11, c11, rfl, hp11, -, -, hb11⟩ := hr.parts2
      rw [HMR.out] at hp11 ⊢
      have HP11 := hide hp11
      have HB11 := hide (HB10.out.trans (hb11.mono HB10.out.size))
      have HY11 := hide (HY.out.below hb11)
      clear hr hp11 hb11
      go_wp2_with fail
      refine (octets_some A11 A4 1 m.recs.length c11 c4 [lb] m.recs _ HP11.out (HP4.out.below HB11.out)).mono ?_
      rintro e w12 ⟨bo, q, rfl, rfl⟩
      have HB12 := hide (below_drewN HB11.out q)
      have HY12 := hide (HY11.out.below (below_drewN (Below.refl _ _) q))
      go_wp2_with fail
      refine (one_records _ HY12.out).mono ?_
      intro e w13 hr
      obtain ⟨A13, c13, rfl, hp13, -, -, hb13⟩ := hr.parts2
      rw [HMR.out] at hp13 ⊢
      have HB13 := hide (HB12.out.trans (hb13.mono HB12.out.size))
      have hpo := parts_one (HB.out.below (HB4.out.trans (HB13.out.mono hB4)) fun b hb _ => hb) HBO.out 32
      have HPO := hide hpo
      have HP13 := hide (hp13.below (show Below w13.heap.size w13 (w13.alloc (.cells #[.slice Bd nb cb] 32)) from (Below.refl _ _).alloc (Nat.le_refl _) _))
      have HB14 := hide (HB13.out.alloc HB13.out.size (.cells #[.slice Bd nb cb] 32))
      clear hr hp13 hb13 hpo
      go_wp2_with fail
      refine (octets_same A13 (some ⟨w13.heap.size, 0, none⟩) 1 c13 1 [lb] _ HP13.out HPO.out).mono ?_
      rintro e w15 ⟨rfl, q2, rfl⟩
      have HEND := hide (HB4.out.trans ((below_drewN HB14.out q2).mono hB4))
      rcases hz0 with rfl | rfl
      · go_wp2
        go_ret
        exact ⟨rfl, HEND.out⟩
      · cases bo
        · go_wp2
          go_ret
          exact ⟨rfl, HEND.out⟩
        · go_wp2
          go_ret
          exact ⟨rfl, HEND.out⟩
    · have HMR := hide hmr
      have hzb : (z == 0) = false := beq_eq_false_iff_ne.mpr hz0
      clear hmr
      go_wp2_with fail
      refine (one_records _ HY.out).mono ?_
      intro e w11 hr
      obtain ⟨A11, c11, rfl, hp11, -, -, hb11⟩ := hr.parts2
      rw [HMR.out] at hp11 ⊢
      have HP11 := hide hp11
      have HB11 := hide (HB10.out.trans (hb11.mono HB10.out.size))
      have HY11 := hide (HY.out.below hb11)
      clear hr hp11 hb11
      go_wp2_with fail
      refine (octets_same A11 A4 m.recs.length c11 c4 m.recs _ HP11.out (HP4.out.below HB11.out)).mono ?_
      rintro e w12 ⟨rfl, q, rfl⟩
      have HB12 := hide (below_drewN HB11.out q)
      have HY12 := hide (HY11.out.below (below_drewN (Below.refl _ _) q))
      go_wp2_with fail
      refine (one_records _ HY12.out).mono ?_
      intro e w13 hr
      obtain ⟨A13, c13, rfl, hp13, -, -, hb13⟩ := hr.parts2
      rw [HMR.out] at hp13 ⊢
      have HB13 := hide (HB12.out.trans (hb13.mono HB12.out.size))
      have hpo := parts_one (HB.out.below (HB4.out.trans (HB13.out.mono hB4)) fun b hb _ => hb) HBO.out 32
      have HPO := hide hpo
      have HP13 := hide (hp13.below (show Below w13.heap.size w13 (w13.alloc (.cells #[.slice Bd nb cb] 32)) from (Below.refl _ _).alloc (Nat.le_refl _) _))
      have HB14 := hide (HB13.out.alloc HB13.out.size (.cells #[.slice Bd nb cb] 32))
      clear hr hp13 hb13 hpo
      go_wp2_with fail
      refine (octets_some A13 (some ⟨w13.heap.size, 0, none⟩) m.recs.length 1 c13 1 m.recs [lb] _ HP13.out HPO.out).mono ?_
      rintro e w15 ⟨bo, q2, rfl, rfl⟩
      have HEND := hide (HB4.out.trans ((below_drewN HB14.out q2).mono hB4))
      go_wp2
      go_ret
      exact ⟨rfl, HEND.out⟩
end Go.Proofs.Ythoedknnchaiaaa
