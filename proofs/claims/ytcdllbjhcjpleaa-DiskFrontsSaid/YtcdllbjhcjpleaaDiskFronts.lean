/-
  The walk of DiskFronts.
-/
import Derived.Test.YtcdllbjhcjpleaaDiskAlive
import Derived.Test.YtcdllbjhcjpleaaDiskRuns
namespace Go.Proofs.Ytcdllbjhcjpleaa
open Go.RowKit
set_option linter.unusedVariables false

/-- The front of a whole sector that an armed new disk lets through. -/
def frontA (arm : Int) : Nat := if 0 ≤ arm ∧ arm < 32 then arm.toNat else 32
theorem arm_front (m : Nat) (arm : Int) : ((Dk.fresh m).arm arm).front = frontA arm ∧ ((Dk.fresh m).arm arm).dies = decide (frontA arm ≠ 32) ∧ ((Dk.fresh m).arm arm).b = List.replicate (32 * m) 0 ∧ ((Dk.fresh m).arm arm).dead = false := by
  have e : (Dk.fresh m).arm arm = ⟨List.replicate (32 * m) 0, max arm (-1), false, 0⟩ := rfl
  rw [e]
  have hd : (Dk.dies ⟨List.replicate (32 * m) 0, max arm (-1), false, 0⟩) = decide (0 ≤ arm ∧ arm < 32) := by
    unfold Dk.dies
    exact decide_eq_decide.2 ⟨fun h => by have := h.1; have := h.2; simp only at *; omega, fun h => by simp only; omega⟩
  refine ⟨?_, ?_, rfl, rfl⟩
  · unfold Dk.front frontA
    rw [hd]
    by_cases h : 0 ≤ arm ∧ arm < 32
    · rw [if_pos (decide_eq_true h), if_pos h]
      simp only
      omega
    · rw [if_neg (by rw [decide_eq_false h]; simp), if_neg h]
  · rw [hd]
    unfold frontA
    refine decide_eq_decide.2 ⟨fun h => ?_, fun h => ?_⟩
    · rw [if_pos h]; omega
    · by_cases h2 : 0 ≤ arm ∧ arm < 32
      · exact h2
      · rw [if_neg h2] at h; exact absurd rfl h
/-- What stands at place p. -/
def wantA (b : List Int) (s K p : Nat) : Int := if 32 * s ≤ p ∧ p < 32 * s + K then b.getD (p - 32 * s) 0 else 0
theorem front_at {m s K p : Nat} {b : List Int} (hb : b.length = 32) (hs : s < m) (hK : K ≤ 32) (hp : p < 32 * m) : (lay (List.replicate (32 * m) 0) (32 * s) (b.take K))[p]? = some (wantA b s K p) := by
  have hl : (b.take K).length = K := by rw [List.length_take]; omega
  rw [lay_get (by rw [hl, List.length_replicate]; omega), hl]
  unfold wantA
  by_cases h : 32 * s ≤ p ∧ p < 32 * s + K
  · rw [if_pos h, if_pos h, List.getElem?_take, if_pos (by omega), List.getD_eq_getElem?_getD, List.getElem?_eq_getElem (by omega)]
    rfl
  · rw [if_neg h, if_neg h, List.getElem?_replicate, if_pos hp]

set_option maxHeartbeats 4000000 in
set_option maxRecDepth 10000 in
theorem diskfronts_walk (n i : Int) (A : Option Addr) (nb cb : Nat) (b : List Int) (arm : Int) (w : World) (hr : Row w (· < w.heap.size) A nb cb (octs b)) (ho : Octs b) (ha0 : -9223372036854775808 ≤ arm) (ha1 : arm ≤ 9223372036854775807) :
    Calls Try.prog 5 #[.int .i64 n, .int .i64 i, .slice A nb cb, .int .i64 arm] w fun e w' => e = .returned (.bool true) ∧ Below w.heap.size w w' := by
  have hb := near_in (n := n) (show (1 : Int) ≤ 20 by omega)
  obtain ⟨m, hm⟩ : ∃ m : Nat, near n 1 20 = (m : Int) := ⟨(near n 1 20).toNat, by omega⟩
  have hm20 : 1 ≤ m ∧ m ≤ 20 := by omega
  have hi := near_in (n := i) (show (0 : Int) ≤ (m : Int) - 1 by omega)
  obtain ⟨s, hs⟩ : ∃ s : Nat, near i 0 ((m : Int) - 1) = (s : Int) := ⟨(near i 0 ((m : Int) - 1)).toNat, by omega⟩
  have hsm : s < m := by omega
  have hmm : near (m : Int) 0 256 = (m : Int) := by unfold near; rw [if_neg (by omega), if_neg (by omega)]
  have hw1 : IntKind.i64.wrap ((m : Int) - 1) = (m : Int) - 1 := by rw [IntKind.wrap_i64]; omega
  have HR := hide hr
  have HOC := hide ho
  have HMM := hide hmm
  have hbl : b.length = nb := by have := hr.1; rwa [octs_len] at this
  have HBL := hide hbl
  clear hb hi hr ho hmm hbl
  go_enter Try.func5, Try.ntmps5
  go_wp2_with fail
  refine (alive11 _).mono ?_
  rintro e w1 ⟨rfl, hb1⟩
  have HB1 := hide hb1
  clear hb1
  go_wp2_with fail
  refine (near_any n 1 20 _).mono ?_
  rintro e w' ⟨rfl, rfl⟩
  rw [hm]
  go_wp2_with fail
  refine (near_any i 0 ((m : Int) - 1) _).mono ?_
  rintro e w' ⟨rfl, rfl⟩
  rw [hs]
  by_cases h32 : nb = 32
  · subst h32
    obtain ⟨f1, f2, f3, f4⟩ := arm_front m arm
    have hfr : frontA arm ≤ 32 := by unfold frontA; split <;> omega
    have hmay : ((Dk.fresh m).arm arm).may (s : Int) b := ⟨⟨by omega, by rw [f3, List.length_replicate]; omega, f4⟩, HBL.out⟩
    have hwr : ((Dk.fresh m).arm arm).wrote (s : Int) b = decide (frontA arm = 32) := by
      unfold Dk.wrote
      rw [decide_eq_true hmay, f2]
      by_cases h : frontA arm = 32 <;> simp [h]
    have hwb : (((Dk.fresh m).arm arm).write (s : Int) b).b = lay (List.replicate (32 * m) 0) (32 * s) (b.take (frontA arm)) := by
      unfold Dk.write
      rw [if_pos hmay, f1, f3, Int.toNat_natCast]
    have hwd : (((Dk.fresh m).arm arm).write (s : Int) b).dead = !decide (frontA arm = 32) := by
      unfold Dk.write
      rw [if_pos hmay]
      show Dk.dies _ = _
      rw [f2]
      by_cases h : frontA arm = 32 <;> simp [h]
    have hok1 : ((Dk.fresh m).arm arm).ok m := Dk.ok_arm (Dk.ok_fresh (by omega)) ha1
    have hok2 := Dk.ok_write hok1 (s : Int) HOC.out
    have HWR := hide hwr
    have HWB := hide hwb
    have HWD := hide hwd
    have HOK0 := hide (Dk.ok_fresh (m := m) (by omega))
    have HOK1 := hide hok1
    have HOK2 := hide hok2
    have HFR := hide hfr
    have HI64 := hide (show I64' (s : Int) from ⟨by omega, by omega⟩)
    have HA64 := hide (show I64' arm from ⟨ha0, ha1⟩)
    clear f1 f2 f3 f4 hfr hmay hwr hwb hwd hok1 hok2
    generalize hk2 : ((Dk.fresh m).arm arm).write (s : Int) b = k2 at *
    have HK2 := hide hk2
    clear hk2
    go_wp2_with fail
    refine (dnew_any (m : Int) _ ⟨by omega, by omega⟩).mono ?_
    rintro e w2 ⟨d, P, rfl, hd, hp, hb2⟩
    rw [HMM.out, Int.toNat_natCast] at hd
    have HB2 := hide (HB1.out.trans (hb2.mono HB1.out.size))
    have HD2 := hide hd
    have HP2 := hide (show ∀ n, P n → w.heap.size ≤ n from fun n hn => Nat.le_trans HB1.out.size (hp n hn))
    clear hd hp hb2
    go_wp2_with fail
    refine (darm_any arm _ HD2.out HOK0.out HA64.out).mono ?_
    rintro e w3 ⟨rfl, P3, hd3, hp3, ht3⟩
    have HB3 := hide (show Below w.heap.size w w3 from HB2.out.trans (ht3.below HB2.out.size fun n hn h => by have := HP2.out n h; omega))
    have HD3 := hide hd3
    have HP3 := hide (show ∀ n, P3 n → w.heap.size ≤ n from fun n hn => (hp3 n hn).elim (HP2.out n) fun h => Nat.le_trans HB2.out.size h)
    clear hd3 hp3 ht3
    go_wp2_with fail
    refine (dwrite_any (Q := (· < w.heap.size)) (s : Int) A 32 cb b _ HD3.out HOK1.out HI64.out (HR.out.below HB3.out fun _ _ h => h) HOC.out (fun n hn _ hp => by have := HP3.out n hp; omega)).mono ?_
    rintro e w4 ⟨rfl, P4, hd4, hp4, ht4⟩
    rw [HK2.out] at hd4
    rw [HWR.out]
    have HB4 := hide (show Below w.heap.size w w4 from HB3.out.trans (ht4.below HB3.out.size fun n hn h => by have := HP3.out n h; omega))
    have HD4 := hide hd4
    clear hd4 hp4 ht4
    go_wp2_with fail
    refine (dall_any _ HD4.out HOK2.out).mono ?_
    rintro e w5 ⟨A5, c5, rfl, hown, hb5⟩
    have hlen := HOK2.out.1
    have HB5 := hide (HB4.out.trans (hb5.mono HB4.out.size))
    have HD5 := hide (dsk_keep HD4.out fun b _ hb => hb5.block b hb)
    have hrow := Row.of_own hown
    rw [hlen, HWB.out] at hrow
    rw [hlen]
    obtain ⟨M, hM⟩ : ∃ M : Nat, M = 32 * m := ⟨_, rfl⟩
    obtain ⟨q0, hq0⟩ : ∃ q0 : Nat, q0 = 32 * s := ⟨_, rfl⟩
    have hw2 : IntKind.i64.wrap (32 * (m : Int)) = (M : Int) := by rw [IntKind.wrap_i64]; omega
    have hw3 : IntKind.i64.wrap (32 * (s : Int)) = (q0 : Int) := by rw [IntKind.wrap_i64]; omega
    obtain ⟨K, hK⟩ : ∃ K, frontA arm = K := ⟨_, rfl⟩
    have hK32 : K ≤ 32 := by rw [← hK]; exact HFR.out
    rw [hK] at hrow HWD
    rw [hK]
    rw [← hM] at hrow ⊢
    obtain ⟨b5, o5, rfl, -, -, hc5⟩ := hrow.some_ (by omega)
    have hall : ∀ p, p < M → w5.cell? ⟨b5, o5 + p, none⟩ = some (.int .u8 (wantA b s K p)) := fun p hp => by
      have h := front_at HBL.out hsm hK32 (p := p) (by omega)
      rw [← hM] at h
      rw [hc5 p hp, octs, List.getElem?_map, h]
      rfl
    obtain ⟨bb, bo, rfl, -, -, hcb⟩ := (HR.out.below HB5.out fun _ _ h => h).some_ (show 0 < 32 by decide)
    have hbat : ∀ j, j < 32 → w5.cell? ⟨bb, bo + j, none⟩ = some (.int .u8 (b.getD j 0)) := fun j hj => by
      rw [hcb j hj, octs_at _ _ (by have := HBL.out; omega)]
    have HALL := hide hall
    have HBAT := hide hbat
    have HM := hide hM
    have HQ0 := hide hq0
    have HKA := hide hK
    clear hown hb5 hlen hrow hc5 hcb hall hbat hM hq0 hK HWR HWB HD2 HD3 HP2 HP3 HB1 HB2 HB3 HB4 HD4
    go_upto_region 14 with fail
    go_cut [47] (fun s47 wx => s47 = .bool (decide (0 ≤ arm ∧ arm < 32)) ∧ w5 = wx)
    case first =>
      by_cases g0 : 0 ≤ arm
      · by_cases g1 : arm < 32
        · have e : decide (0 ≤ arm ∧ arm < 32) = true := decide_eq_true ⟨g0, g1⟩
          go_wp2
          go_meet
          exact ⟨by rw [e], rfl⟩
        · have e : decide (0 ≤ arm ∧ arm < 32) = false := decide_eq_false fun h => g1 h.2
          have hd : decide (arm < 32) = false := decide_eq_false g1
          go_wp2
          go_meet
          exact ⟨by rw [e], rfl⟩
      · have e : decide (0 ≤ arm ∧ arm < 32) = false := decide_eq_false fun h => g0 h.1
        have hd : decide (0 ≤ arm) = false := decide_eq_false g0
        go_wp2
        go_meet
        exact ⟨by rw [e], rfl⟩
    case rest =>
    obtain ⟨rfl, rfl⟩ := hcut
    generalize hdd : decide (0 ≤ arm ∧ arm < 32) = dd at *
    have HDD := hide hdd
    clear hdd
    go_upto_if 47 with fail
    go_cut [12] (fun s12 wx => s12 = .int .i64 (K : Int) ∧ w5 = wx)
    case first =>
      cases dd with
      | true =>
        have g : 0 ≤ arm ∧ arm < 32 := of_decide_eq_true HDD.out
        have E := hide (show arm = (K : Int) by rw [← HKA.out]; unfold frontA; rw [if_pos g]; omega)
        clear g
        go_wp2
        go_meet
        exact ⟨by rw [← E.out], rfl⟩
      | false =>
        have g : ¬ (0 ≤ arm ∧ arm < 32) := of_decide_eq_false HDD.out
        have E := hide (show K = 32 by rw [← HKA.out]; unfold frontA; rw [if_neg g])
        clear g
        go_wp2
        go_meet
        exact ⟨by rw [E.out]; rfl, rfl⟩
    case rest =>
    obtain ⟨rfl, rfl⟩ := hcut
    go_wp2
    go_loop [13] (fun i => ∃ p : Nat, p ≤ M ∧ i = .int .i64 p) (fun i => M - (intOf i).toNat)
    case atStart => exact ⟨0, Nat.zero_le _, rfl⟩
    case round =>
      obtain ⟨p, hp, rfl⟩ := hrel
      by_cases hlt : p < M
      · have y := HALL.out p hlt
        have hlt' : ((p : Int) < (M : Int)) := by omega
        have hMb := HM.out
        have hQb := HQ0.out
        have hpb : (p : Int) + 1 ≤ 9223372036854775807 := by omega
        have hwk : IntKind.i64.wrap ((q0 : Int) + (K : Int)) = (q0 : Int) + (K : Int) := by rw [IntKind.wrap_i64]; omega
        by_cases hin : 32 * s ≤ p ∧ p < 32 * s + K
        · obtain ⟨j, hj⟩ : ∃ j : Nat, p = q0 + j := ⟨p - q0, by omega⟩
          have hjk : j < 32 := by omega
          have hb := HBAT.out j hjk
          have e : wantA b s K p = b.getD j 0 := by unfold wantA; rw [if_pos hin, show p - 32 * s = j by omega]
          rw [e] at y
          have d1 : (q0 : Int) ≤ (p : Int) := by omega
          have d2 : (p : Int) < (q0 : Int) + (K : Int) := by omega
          have d3 : q0 ≤ p := by omega
          have d4 : p < q0 + K := by omega
          have hwj : IntKind.i64.wrap ((p : Int) - (q0 : Int)) = (j : Int) := by rw [IntKind.wrap_i64]; omega
          generalize b.getD j 0 = v at *
          clear hMb hQb hin hj e
          go_wp2
          go_round
          case rel => exact ⟨p + 1, by omega, by go_num⟩
          case measure => simp [intOf]; omega
        · have e : wantA b s K p = 0 := by unfold wantA; rw [if_neg hin]
          rw [e] at y
          by_cases d1 : q0 ≤ p
          · have d1' : (q0 : Int) ≤ (p : Int) := by omega
            have d2 : decide ((p : Int) < (q0 : Int) + (K : Int)) = false := decide_eq_false (by omega)
            have d3 : ¬ ((p : Int) < (q0 : Int) + (K : Int)) := by omega
            clear hMb hQb hin e
            go_wp2
            go_round
            case rel => exact ⟨p + 1, by omega, by go_num⟩
            case measure => simp [intOf]; omega
          · have d2 : decide (q0 ≤ p) = false := decide_eq_false d1
            clear hMb hQb hin e
            go_wp2
            go_round
            case rel => exact ⟨p + 1, by omega, by go_num⟩
            case measure => simp [intOf]; omega
      · obtain rfl : p = M := by omega
        clear HALL HBAT
        by_cases hk : K = 32
        · subst hk
          go_wp2_with fail
          refine (ddead_any _ HD5.out HOK2.out).mono ?_
          rintro e w6 ⟨rfl, hb6⟩
          rw [HWD.out]
          have HBO := hide (HB5.out.trans (hb6.mono HB5.out.size))
          clear hb6
          go_wp2
          go_ret
          exact ⟨by simp, HBO.out⟩
        · have hd : decide (K = 32) = false := decide_eq_false hk
          have hd2 : ((K : Int) == 32) = false := beq_eq_false_iff_ne.mpr (by omega)
          rw [hd]
          go_wp2_with fail
          refine (ddead_any _ HD5.out HOK2.out).mono ?_
          rintro e w6 ⟨rfl, hb6⟩
          rw [HWD.out, hd]
          have HBO := hide (HB5.out.trans (hb6.mono HB5.out.size))
          clear hb6
          go_wp2
          go_ret
          exact ⟨by simp, HBO.out⟩
  · have hne : ((nb : Int) == 32) = false := beq_eq_false_iff_ne.mpr (by omega)
    have hne2 : ((nb : Int) != 32) = true := by simp [hne, bne]
    go_wp2
    go_ret
    exact ⟨rfl, HB1.out⟩
end Go.Proofs.Ytcdllbjhcjpleaa
