/-
  The walk of WalKeeps.
-/
import Derived.Test.YthoedknnchaiaaaWalLoop
import Derived.Deep.CutBlock
import Derived.Deep.DeepCutAuto
namespace Go.Proofs.Ythoedknnchaiaaa
open Go.RowKit
set_option linter.unusedVariables false

set_option maxHeartbeats 8000000 in
set_option maxRecDepth 100000 in
theorem walkeeps_walk (n : Int) (A : Option Addr) (na ca : Nat) (la : List (List Int)) (Bd : Option Addr) (nb cb : Nat) (lb : List (List Int)) (arm : Int) (w : World) (hn : I64' n)
    (ha : Parts w A na la) (hb : Parts w Bd nb lb) (hla : ∀ i, i < na → (la.getD i []).length ≤ 140737488351232) (hlb : ∀ i, i < nb → (lb.getD i []).length ≤ 140737488351232) (hca : na ≤ ca ∧ ca ≤ 9223372036854775807) (hcb : nb ≤ cb ∧ cb ≤ 9223372036854775807) :
    Calls Try.prog 4 #[.int .i64 n, .slice A na ca, .slice Bd nb cb, .int .i64 arm] w fun e w' => e = .returned (.bool true) ∧ Below w.heap.size w w' := by
  have hnn := near_in (n := n) (show (1 : Int) ≤ 64 by omega)
  obtain ⟨N, hN⟩ : ∃ N : Nat, (near n 1 64).toNat = N := ⟨_, rfl⟩
  have hN1 : 1 ≤ N ∧ N ≤ 64 := by omega
  have HNN := hide hN
  have HA := hide ha
  have HB := hide hb
  have HLA := hide hla
  have HLB := hide hlb
  have hnab : na ≤ 9223372036854775807 := by omega
  have hnbb : nb ≤ 9223372036854775807 := by omega
  clear hnn hN ha hb hla hlb hca hcb
  go_enter Try.func4, Try.ntmps4
  go_wp2_with fail
  refine (alive12 _).mono ?_
  rintro e w1 ⟨rfl, hb1⟩
  have HB1 := hide hb1
  clear hb1
  go_wp2_with fail
  refine (one_new n _ hn).mono ?_
  rintro e w2 ⟨l, d, rfl, ⟨P2, Q2, h2⟩, hb2⟩
  rw [HNN.out] at h2
  have HO2 := hide (show OneB w.heap.size w2 l d (Dk.fresh (2 * N + 1)) ⟨N, [], 0⟩ from ⟨P2, Q2, h2.log, h2.dsk, h2.inv, h2.pq, fun b hb => Nat.le_trans HB1.out.size (h2.pb b hb), fun b hb => Nat.le_trans HB1.out.size (h2.qb b hb)⟩)
  have HB2 := hide (HB1.out.trans (hb2.mono HB1.out.size))
  clear h2 hb2 HB1 HNN
  go_upto_block 0 with fail
  go_cut [10] (fun s wx => ∃ m : Lm, m.n = N ∧ Hid (OneB w.heap.size wx l d (Dk.fresh (2 * N + 1)) m) ∧ Hid (Below w.heap.size w wx))
  case first =>
    go_wp2
    go_loopw [10] (fun s wr => ∃ (j : Nat) (m : Lm), j ≤ na ∧ s = .int .i64 j ∧ m.n = N ∧ Hid (OneB w.heap.size wr l d (Dk.fresh (2 * N + 1)) m) ∧ Hid (Below w.heap.size w wr)) (fun s _ => na - (intOf s).toNat)
    case atStart => exact ⟨0, _, Nat.zero_le _, rfl, rfl, HO2, HB2⟩
    case round =>
      obtain ⟨j, m, hj, rfl, hmn, ho, hbl⟩ := hrel
      by_cases hlt : j < na ∧ j < 20
      · obtain ⟨hlt, hlt20⟩ := hlt
        obtain ⟨b, o, a, c, rfl, hc0, hrow, hoct⟩ := part_at HA.out hbl.out hlt
        have HAP := hide (oneB_append a _ c _ wr ho.out hbl.out.size hrow hoct (by have := HLA.out j hlt; omega))
        have HM := hide (appendL_n m (la.getD j []))
        clear hrow hoct
        generalize (la.getD j []).length = q at *
        generalize appendL m (la.getD j []) = mm at *
        go_wp2_with fail
        refine HAP.out.mono ?_
        rintro e w3 ⟨rfl, h3, hb3⟩
        have HO3 := hide h3
        have HB3 := hide (hbl.out.trans hb3)
        clear h3 hb3 HAP
        go_wp2
        go_roundw
        case rel => exact ⟨j + 1, _, by omega, by go_num, HM.out.trans hmn, HO3, HB3⟩
        case measure => simp [intOf]; omega
      · have HJ := hide hlt
        by_cases hlt2 : j < na
        · have hlt20 : ¬ (j < 20) := fun h => HJ.out ⟨hlt2, h⟩
          clear hlt
          go_wp2
          go_meet
          exact ⟨m, hmn, ho, hbl⟩
        · clear hlt
          go_wp2
          go_meet
          exact ⟨m, hmn, ho, hbl⟩
  case rest =>
    obtain ⟨m1, hm1, ho1, hb1⟩ := hcut
    have SF := sync_free (k := Dk.fresh (2 * N + 1)) (m := m1) rfl (by show (-1 : Int) < 0; omega)
    have HSY := hide (oneB_sync _ ho1.out hb1.out.size)
    have HSF := hide SF.2
    rw [SF.1] at HSY
    obtain ⟨K, hK⟩ : ∃ K, K = (syncL (Dk.fresh (2 * N + 1)) m1).1 := ⟨_, rfl⟩
    rw [← hK] at HSY HSF
    have hmn : ({ m1 with dur := m1.recs.length } : Lm).n = N := hm1
    generalize ({ m1 with dur := m1.recs.length } : Lm) = m2 at *
    clear SF hK ho1
    go_wp2_with fail
    refine HSY.out.mono ?_
    rintro e w3 ⟨rfl, h3, hb3⟩
    have HO3 := hide h3
    have HB3 := hide (hb1.out.trans hb3)
    clear h3 hb3 HSY HO2 HB2
    go_upto_block 2 with fail
    go_cut [11] (fun s wx => ∃ m : Lm, m.n = N ∧ Hid (OneB w.heap.size wx l d K m) ∧ Hid (Below w.heap.size w wx))
    case first =>
      go_wp2
      go_loopw [11] (fun s wr => ∃ (j : Nat) (m : Lm), j ≤ nb ∧ s = .int .i64 j ∧ m.n = N ∧ Hid (OneB w.heap.size wr l d K m) ∧ Hid (Below w.heap.size w wr)) (fun s _ => nb - (intOf s).toNat)
      case atStart => exact ⟨0, _, Nat.zero_le _, rfl, hmn, HO3, HB3⟩
      case round =>
        obtain ⟨j, m, hj, rfl, hmn, ho, hbl⟩ := hrel
        by_cases hlt : j < nb ∧ j < 20
        · obtain ⟨hlt, hlt20⟩ := hlt
          obtain ⟨b, o, a, c, rfl, hc0, hrow, hoct⟩ := part_at HB.out hbl.out hlt
          have HAP := hide (oneB_append a _ c _ wr ho.out hbl.out.size hrow hoct (by have := HLB.out j hlt; omega))
          have HM := hide (appendL_n m (lb.getD j []))
          clear hrow hoct
          generalize (lb.getD j []).length = q at *
          generalize appendL m (lb.getD j []) = mm at *
          go_wp2_with fail
          refine HAP.out.mono ?_
          rintro e w3 ⟨rfl, h3, hb3⟩
          have HO3 := hide h3
          have HB3 := hide (hbl.out.trans hb3)
          clear h3 hb3 HAP
          go_wp2
          go_roundw
          case rel => exact ⟨j + 1, _, by omega, by go_num, HM.out.trans hmn, HO3, HB3⟩
          case measure => simp [intOf]; omega
        · have HJ := hide hlt
          by_cases hlt2 : j < nb
          · have hlt20 : ¬ (j < 20) := fun h => HJ.out ⟨hlt2, h⟩
            clear hlt
            go_wp2
            go_meet
            exact ⟨m, hmn, ho, hbl⟩
          · clear hlt
            go_wp2
            go_meet
            exact ⟨m, hmn, ho, hbl⟩
    case rest =>
      obtain ⟨m, hmn2, ho4, hb4⟩ := hcut
      obtain ⟨P4, Q4, s4⟩ := ho4.out
      have HS4 := hide s4
      have HG := hide (s4.inv.good HSF.out.1)
      have hrl : m.recs.length ≤ 5000 := by have := allF_len7 m.recs; have e : m.used = (allF m.recs).length := rfl; have := s4.inv.room; have := s4.n127; omega
      have hdl := s4.inv.dur
      clear s4 ho4
      go_wp2_with fail
      refine (one_records _ HS4.out).mono ?_
      intro e w5 hr
      obtain ⟨A5, c5, rfl, hp5, hlc5, hcb5, hb5⟩ := hr.parts2
      have HP5 := hide hp5
      have HS5 := hide (HS4.out.below hb5)
      have HB5 := hide (hb4.out.trans (hb5.mono hb4.out.size))
      clear hr hp5 hb5 HS4
      go_wp2_with fail
      refine (wdurable_any _ HS5.out.log HS5.out.inv).mono ?_
      rintro e w6 ⟨rfl, hb6⟩
      have HP6 := hide (HP5.out.below hb6)
      have HS6 := hide (HS5.out.below hb6)
      have HB6 := hide (HB5.out.trans (hb6.mono HB5.out.size))
      clear hb6 HP5 HS5 HB5
      go_wp2_with fail
      refine (one_disk _ HS6.out).mono ?_
      rintro e w7 ⟨g, Q7, rfl, hd7, hq7, hb7⟩
      have HD7 := hide hd7
      have HQ7 := hide (show ∀ n, Q7 n → w6.heap.size ≤ n from hq7)
      have HB7 := hide (show Below w6.heap.size w6 w7 from hb7)
      clear hd7 hq7 hb7 HS6
      go_wp2_with fail
      refine (near_any arm 0 9000 _).mono ?_
      rintro e w' ⟨rfl, rfl⟩
      have hna := near_in (n := arm) (show (0 : Int) ≤ 9000 by omega)
      generalize near arm 0 9000 = a at *
      have HNA := hide (show I64' a by unfold I64'; omega)
      clear hna
      go_wp2_with fail
      refine (dlarm_any a _ HD7.out HG.out.ok HNA.out).mono ?_
      rintro e w8 ⟨rfl, Q8, hd8, hq8, ht8⟩
      have HD8 := hide hd8
      have hz7 : w6.heap.size ≤ w7.heap.size := HB7.out.size
      have HQ8 := hide (show ∀ n, Q8 n → w6.heap.size ≤ n from fun b hb => (hq8 b hb).elim (HQ7.out b) fun h => by omega)
      have HB8 := hide (HB7.out.trans (touch_base ht8 hz7 HQ7.out))
      have HG2 := hide (HG.out.arm (a := a) HNA.out.2)
      have HDD := hide ((arm_dead K a).trans HSF.out.1)
      have HOP := hide (open_good HG2.out)
      clear hd8 hq8 ht8 HD7 HQ7 HB7 HG hz7
      generalize K.arm a = K2 at *
      go_wp2_with fail
      refine (one_open (B := w6.heap.size) (s := m.n) _ HD8.out HG2.out.ok HG2.out.n1 HDD.out (open_quiet HG2.out) HQ8.out HB8.out.size).mono ?_
      rintro e w9 ⟨x, rfl, ⟨P9, Q9, h9, -, -⟩, ht9⟩
      rw [HOP.out] at h9
      have HO9 := hide (show OneB w6.heap.size w9 x g K2 ⟨m.n, m.recs.take m.dur, m.dur⟩ from ⟨P9, Q9, h9⟩)
      have HB9 := hide (HB8.out.trans (touch_base ht9 HB8.out.size HQ8.out))
      clear h9 ht9 HD8 HQ8 HB8 HOP
      go_upto_block 4 with fail
      go_cut [17] (fun s wx => Hid (OneB w6.heap.size wx x g K2 m) ∧ Hid (Below w6.heap.size w6 wx))
      case first =>
        go_wp2
        go_loopw [17] (fun s wr => ∃ j : Nat, m.dur ≤ j ∧ j ≤ m.recs.length ∧ s = .int .i64 j ∧ Hid (OneB w6.heap.size wr x g K2 ⟨m.n, m.recs.take j, m.dur⟩) ∧ Hid (Below w6.heap.size w6 wr)) (fun s _ => m.recs.length - (intOf s).toNat)
        case atStart => exact ⟨m.dur, Nat.le_refl _, hdl, rfl, HO9, HB9⟩
        case round =>
          obtain ⟨j, hj0, hj, rfl, ho, hbl⟩ := hrel
          by_cases hlt : j < m.recs.length
          · obtain ⟨b, o, a, c, rfl, hc0, hrow, hoct⟩ := part_at HP6.out hbl.out hlt
            have hl4 : (m.recs.getD j []).length ≤ 4096 := by
              rw [List.getD_eq_getElem?_getD, List.getElem?_eq_getElem hlt]
              exact (HG2.out.fit _ (List.getElem_mem hlt)).2
            have HAP := hide (oneB_append a _ c _ wr ho.out hbl.out.size hrow hoct (by omega))
            have hnx := append_next (n := m.n) (dur := m.dur) HG2.out.fit HG2.out.room hlt
            have hgd : m.recs.getD j [] = m.recs[j] := by rw [List.getD_eq_getElem?_getD, List.getElem?_eq_getElem hlt]; rfl
            rw [hgd, hnx] at HAP
            rw [hgd] at hc0
            clear hrow hoct hnx hgd hl4
            generalize (m.recs[j]).length = q at *
            go_wp2_with fail
            refine HAP.out.mono ?_
            rintro e w10 ⟨rfl, h3, hb3⟩
            have HO3 := hide h3
            have HB3 := hide (hbl.out.trans hb3)
            clear h3 hb3 HAP
            go_wp2
            go_roundw
            case rel => exact ⟨j + 1, by omega, by omega, by go_num, HO3, HB3⟩
            case measure => simp [intOf]; omega
          · obtain rfl : j = m.recs.length := by omega
            have HOE := hide (show OneB w6.heap.size wr x g K2 m by have := ho.out; rwa [List.take_length] at this)
            go_wp2
            go_meet
            exact ⟨HOE, hbl⟩
      case rest =>
        obtain ⟨ho10, hb10⟩ := hcut
        have HSY := hide (oneB_sync _ ho10.out hb10.out.size)
        have hsn := syncL_n K2 m
        obtain ⟨j, r1, r2, r3, r4, r5, r6, r7, r8⟩ := sync_reopen HG2.out HDD.out
        have hcase : ((syncL K2 m).2.2 = 0 ∧ j = m.recs.length ∧ (((syncL K2 m).2.1.recs.length : Nat) : Int) - (((syncL K2 m).2.1.dur : Nat) : Int) = 0) ∨ ((syncL K2 m).2.2 ≠ 0 ∧ (((syncL K2 m).2.1.recs.length : Nat) : Int) - (((syncL K2 m).2.1.dur : Nat) : Int) = (m.recs.length : Int) - (m.dur : Int)) := by
          by_cases h0 : (syncL K2 m).2.2 = 0
          · refine .inl ⟨h0, r4 h0, ?_⟩
            rw [(HG2.out.sync HDD.out h0).2.1]
            simp
          · refine .inr ⟨h0, ?_⟩
            rw [(sync_dies h0).1]
        generalize hz : (syncL K2 m).2.2 = z at *
        generalize hK3 : (syncL K2 m).1 = K3 at *
        generalize hm3 : (syncL K2 m).2.1 = m3 at *
        go_wp2_with fail
        refine HSY.out.mono ?_
        rintro e w11 ⟨rfl, ⟨P11, Q11, s11⟩, hb11⟩
        have hok11 := s11.inv.ok
        rw [hsn] at hok11
        have hpl := log_lt s11.log
        have HX11 := hide s11.log
        have HI11 := hide s11.inv
        have HD11 := hide s11.dsk
        have HPQ := hide s11.pq
        have HQ11 := hide s11.qb
        have HB11 := hide (hb10.out.trans hb11)
        clear s11 hb11 HSY ho10 hb10
        go_wp2_with fail
        refine (dlrevive_any _ HD11.out hok11).mono ?_
        rintro e w12 ⟨rfl, Q12, hd12, hq12, ht12⟩
        have HD12 := hide hd12
        have hz11 : w6.heap.size ≤ w11.heap.size := HB11.out.size
        have HQ12 := hide (show ∀ n, Q12 n → w6.heap.size ≤ n from fun b hb => (hq12 b hb).elim (HQ11.out b) fun h => by omega)
        have HPQ12 := hide (show ∀ b, P11 b → ¬ Q12 b from fun b hb h => (hq12 b h).elim (HPQ.out b hb) fun h => by have := hpl b hb; omega)
        have HX12 := hide (log_keep HX11.out ht12.size fun b hb hlt => ht12.block b hlt (HPQ.out b hb))
        have HB12 := hide (HB11.out.trans (touch_base ht12 hz11 HQ11.out))
        clear hd12 hq12 ht12 hz11 hpl HD11 HQ11 HPQ HX11 HB11
        go_wp2_with fail
        refine (one_open (B := w6.heap.size) (s := m.n) _ HD12.out (Dk.ok_revive hok11) HG2.out.n1 rfl (revive_quiet _ _) HQ12.out HB12.out.size).mono ?_
        rintro e w13 ⟨y, rfl, ⟨P13, Q13, h13, -, -⟩, ht13⟩
        rw [r1] at h13
        have HY13 := hide h13
        have HX13 := hide (log_keep HX12.out ht13.size fun b hb hlt => ht13.block b hlt (HPQ12.out b hb))
        have HB13 := hide (HB12.out.trans (touch_base ht13 HB12.out.size HQ12.out))
        have HJ := hide (And.intro r2 r3)
        clear h13 ht13 HD12 HQ12 HPQ12 HX12 HB12 r1 r2 r3 r4 r5 r6 r7 r8 hok11
        go_wp2_with fail
        refine (wpending_any _ HX13.out HI11.out).mono ?_
        rintro e w14 ⟨rfl, hb14⟩
        have HY14 := hide (HY13.out.below hb14)
        have HB14 := hide (HB13.out.trans (hb14.mono HB13.out.size))
        have HLJ := hide (show (m.recs.take j).length = j by have := HJ.out.2; rw [List.length_take]; omega)
        generalize hpz : ((m3.recs.length : Nat) : Int) - ((m3.dur : Nat) : Int) = pz at *
        clear hb14 HY13 HB13 HX13 HI11 hpz
        rcases hcase with ⟨hz0, hjl, hp0⟩ | ⟨hz0, hp0⟩
        · subst hz0 hp0
          have hjb : ((j : Int) == (m.recs.length : Int)) = true := by rw [hjl]; simp
          have hjq : (j : Int) = (m.recs.length : Int) := by omega
          clear hjl
          go_wp2_with fail
          refine (one_records _ HY14.out).mono ?_
          intro e w15 hr
          obtain ⟨A15, c15, rfl, hp15, -, -, hb15⟩ := hr.parts2
          rw [HLJ.out] at hp15 ⊢
          have HB15 := hide (HB14.out.trans (hb15.mono HB14.out.size))
          have HY15 := hide (HY14.out.below hb15)
          have HPF := hide (prefix_any A15 A5 j m.recs.length c15 c5 m.dur m.recs w15 hp15 (HP6.out.below HB15.out) HJ.out.1 HJ.out.2 hlc5)
          clear hr hp15 hb15
          go_wp2_with fail
          refine HPF.out.mono ?_
          rintro e w16 ⟨rfl, q, rfl⟩
          have HB16 := hide (below_drewN HB15.out q)
          have HY16 := hide (HY15.out.below (below_drewN (Below.refl _ _) q))
          clear HPF
          go_wp2_with fail
          refine (one_records _ HY16.out).mono ?_
          intro e w17 hr
          obtain ⟨A17, c17, rfl, hp17, -, -, hb17⟩ := hr.parts2
          rw [HLJ.out]
          have HB17 := hide (HB16.out.trans (hb17.mono HB16.out.size))
          have HY17 := hide (HY16.out.below hb17)
          clear hr hp17 hb17
          go_wp2_with fail
          refine (wpending_any _ HY17.out.log HY17.out.inv).mono ?_
          rintro e w18 ⟨rfl, hb18⟩
          have hpe : (((⟨m.n, m.recs.take j, j⟩ : Lm).recs.length : Nat) : Int) - (((⟨m.n, m.recs.take j, j⟩ : Lm).dur : Nat) : Int) = 0 := by have := HLJ.out; simp only; omega
          rw [hpe]
          have HEND := hide (HB6.out.trans ((HB17.out.trans (hb18.mono HB17.out.size)).mono HB6.out.size))
          clear hb18 hpe
          go_wp2
          go_ret
          exact ⟨rfl, HEND.out⟩
        · have hzb : (z == 0) = false := beq_eq_false_iff_ne.mpr hz0
          by_cases hdr : m.dur < m.recs.length
          · have hpb : (pz == 0) = false := beq_eq_false_iff_ne.mpr (by omega)
            have hp1 : ¬ (pz = 0) := by omega
            go_wp2_with fail
            refine (one_records _ HY14.out).mono ?_
            intro e w15 hr
            obtain ⟨A15, c15, rfl, hp15, -, -, hb15⟩ := hr.parts2
            rw [HLJ.out] at hp15 ⊢
            have HB15 := hide (HB14.out.trans (hb15.mono HB14.out.size))
            have HY15 := hide (HY14.out.below hb15)
            have HPF := hide (prefix_any A15 A5 j m.recs.length c15 c5 m.dur m.recs w15 hp15 (HP6.out.below HB15.out) HJ.out.1 HJ.out.2 hlc5)
            clear hr hp15 hb15
            go_wp2_with fail
            refine HPF.out.mono ?_
            rintro e w16 ⟨rfl, q, rfl⟩
            have HB16 := hide (below_drewN HB15.out q)
            have HY16 := hide (HY15.out.below (below_drewN (Below.refl _ _) q))
            clear HPF
            have HB17 := HB16
            have HY17 := HY16
            go_wp2_with fail
            refine (wpending_any _ HY17.out.log HY17.out.inv).mono ?_
            rintro e w18 ⟨rfl, hb18⟩
            have hpe : (((⟨m.n, m.recs.take j, j⟩ : Lm).recs.length : Nat) : Int) - (((⟨m.n, m.recs.take j, j⟩ : Lm).dur : Nat) : Int) = 0 := by have := HLJ.out; simp only; omega
            rw [hpe]
            have HEND := hide (HB6.out.trans ((HB17.out.trans (hb18.mono HB17.out.size)).mono HB6.out.size))
            clear hb18 hpe
            go_wp2
            go_ret
            exact ⟨rfl, HEND.out⟩
          · obtain rfl : pz = 0 := by omega
            have hdn : ¬ ((m.dur : Int) < (m.recs.length : Int)) := by omega
            go_wp2_with fail
            refine (one_records _ HY14.out).mono ?_
            intro e w15 hr
            obtain ⟨A15, c15, rfl, hp15, -, -, hb15⟩ := hr.parts2
            rw [HLJ.out] at hp15 ⊢
            have HB15 := hide (HB14.out.trans (hb15.mono HB14.out.size))
            have HY15 := hide (HY14.out.below hb15)
            have HPF := hide (prefix_any A15 A5 j m.recs.length c15 c5 m.dur m.recs w15 hp15 (HP6.out.below HB15.out) HJ.out.1 HJ.out.2 hlc5)
            clear hr hp15 hb15
            go_wp2_with fail
            refine HPF.out.mono ?_
            rintro e w16 ⟨rfl, q, rfl⟩
            have HB16 := hide (below_drewN HB15.out q)
            have HY16 := hide (HY15.out.below (below_drewN (Below.refl _ _) q))
            clear HPF
            have HB17 := HB16
            have HY17 := HY16
            go_wp2_with fail
            refine (wpending_any _ HY17.out.log HY17.out.inv).mono ?_
            rintro e w18 ⟨rfl, hb18⟩
            have hpe : (((⟨m.n, m.recs.take j, j⟩ : Lm).recs.length : Nat) : Int) - (((⟨m.n, m.recs.take j, j⟩ : Lm).dur : Nat) : Int) = 0 := by have := HLJ.out; simp only; omega
            rw [hpe]
            have HEND := hide (HB6.out.trans ((HB17.out.trans (hb18.mono HB17.out.size)).mono HB6.out.size))
            clear hb18 hpe
            go_wp2
            go_ret
            exact ⟨rfl, HEND.out⟩
end Go.Proofs.Ythoedknnchaiaaa
