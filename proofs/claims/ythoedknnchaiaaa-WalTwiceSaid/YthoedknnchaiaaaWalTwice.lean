/-
  The walk of WalTwice.
-/
import Derived.Test.YthoedknnchaiaaaWalLoop
import Derived.Test.YthoedknnchaiaaaWalStep
import Derived.Test.YthoedknnchaiaaaApp
import Derived.Test.YthoedknnchaiaaaFrameRef
import Derived.Deep.CutBlock
import Derived.Deep.DeepCutAuto
namespace Go.Proofs.Ythoedknnchaiaaa
open Go.RowKit
set_option linter.unusedVariables false

/-- Beside a log another one, opened upon the same disk ahead. -/
def Beside (Y : Nat → Prop) (y g : Nat) (b0 : Dk) (m0 : Lm) (P Q : Nat → Prop) (w : World) : Prop := LogM w Y y g b0 m0 ∧ ∀ b, Y b → ¬ P b ∧ ¬ Q b
def OneY (Y : Nat → Prop) (y g : Nat) (b0 : Dk) (m0 : Lm) (B l d : Nat) (k : Dk) (m : Lm) (v : Value) (w w' : World) (e : Ending) : Prop := e = .returned v ∧ (∃ P Q, One B w' P Q l d k m ∧ Beside Y y g b0 m0 P Q w') ∧ Below B w w'
theorem LDid.beside {Y : Nat → Prop} {y g : Nat} {b0 : Dk} {m0 : Lm} {B l d : Nat} {P Q : Nat → Prop} {k : Dk} {m : Lm} {v : Value} {w w' : World} {e : Ending} (h : LDid LogM DskL P Q l d k m v w w' e) (hy : Beside Y y g b0 m0 P Q w) (hi : Inv k m) (hB : B ≤ w.heap.size) (hp : ∀ b, P b → B ≤ b) (hq : ∀ b, Q b → B ≤ b) : OneY Y y g b0 m0 B l d k m v w w' e := by
  obtain ⟨he, P', Q', hl, hd, hpq, h1, h2, ht⟩ := h
  have yl := log_lt hy.1
  refine ⟨he, ⟨P', Q', ⟨hl, hd, hi, hpq, fun b hb => (h1 b hb).elim (hp b) fun h => by omega, fun b hb => (h2 b hb).elim (hq b) fun h => by omega⟩, log_keep hy.1 ht.size fun b hb hlt => ht.block b hlt fun h => h.elim (hy.2 b hb).1 (hy.2 b hb).2, fun b hb => ⟨fun h => ?_, fun h => ?_⟩⟩, touch_base ht hB fun b hb => hb.elim (hp b) (hq b)⟩
  · rcases h1 b h with h | h
    · exact (hy.2 b hb).1 h
    · have := yl b hb; omega
  · rcases h2 b h with h | h
    · exact (hy.2 b hb).2 h
    · have := yl b hb; omega
theorem Beside.below {Y P Q : Nat → Prop} {y g : Nat} {b0 : Dk} {m0 : Lm} {w w' : World} (h : Beside Y y g b0 m0 P Q w) (hb : Below w.heap.size w w') : Beside Y y g b0 m0 P Q w' := ⟨log_keep h.1 hb.size fun i _ hi => hb.block i hi, h.2⟩

/-- A list of parts, as cells in a row. -/
theorem Parts.row {w : World} {A : Option Addr} {n c : Nat} {ls : List (List Int)} (h : Parts w A n ls) (hn : n ≤ c) (hc : c ≤ 9223372036854775807) : ∃ vs, Row w (fun _ => True) A n c vs ∧ Vals w (fun _ => True) vs ls := by
  obtain ⟨h1, h2, h3⟩ := h
  rcases Nat.eq_zero_or_pos n with h0 | h0
  · have : ls = [] := List.eq_nil_of_length_eq_zero (by omega)
    subst this
    exact ⟨[], ⟨by simp; omega, hn, hc, .inl h0⟩, Vals.nil _ _⟩
  · rcases h3 with h3 | ⟨b, o, e, h3⟩
    · omega
    · have hget : ∀ i, i < n → ((List.range n).map fun i => (w.cell? ⟨b, o + i, none⟩).getD undef)[i]? = w.cell? ⟨b, o + i, none⟩ := fun i hi => by
        obtain ⟨a, c', e1, -⟩ := h3 i hi
        rw [List.getElem?_map, List.getElem?_range hi, e1]
        simp only [Option.map_some]
        rw [e1]
        rfl
      refine ⟨(List.range n).map fun i => (w.cell? ⟨b, o + i, none⟩).getD undef, ⟨by simp, hn, hc, .inr ⟨b, o, e, trivial, fun j hj => (hget j hj).symm⟩⟩, by simp [h1], fun i hi => ?_⟩
      obtain ⟨a, c', e1, e2, e3⟩ := h3 i (by omega)
      exact ⟨a, c', (hget i (by omega)).trans e1, e2, e3⟩

set_option maxHeartbeats 8000000 in
set_option maxRecDepth 100000 in
theorem waltwice_walk (n : Int) (A : Option Addr) (na ca : Nat) (la : List (List Int)) (arm : Int) (Bd : Option Addr) (nb cb : Nat) (lb : List Int) (w : World) (hn : I64' n)
    (ha : Parts w A na la) (hla : ∀ i, i < na → (la.getD i []).length ≤ 140737488351232) (hca : na ≤ ca ∧ ca ≤ 9223372036854775807) (hb : Row w (· < w.heap.size) Bd nb cb (octs lb)) (hbo : Octs lb) (hcb : cb ≤ 140737488351232) :
    Calls Try.prog 6 #[.int .i64 n, .slice A na ca, .int .i64 arm, .slice Bd nb cb] w fun e w' => e = .returned (.bool true) ∧ Below w.heap.size w w' := by
  have hnn := near_in (n := n) (show (1 : Int) ≤ 64 by omega)
  obtain ⟨N, hN⟩ : ∃ N : Nat, (near n 1 64).toNat = N := ⟨_, rfl⟩
  have hN1 : 1 ≤ N ∧ N ≤ 64 := by omega
  obtain ⟨i6, hi6, hz0, hz1, hz2⟩ := info_parts info24
  have HNN := hide hN
  have HA := hide ha
  have HB := hide hb
  have HBO := hide hbo
  have HLA := hide hla
  have hnab : na ≤ 9223372036854775807 := by omega
  have hnbc : nb ≤ 140737488351232 := by have := hb.2.1; omega
  clear hnn hN ha hb hla hca hbo hcb
  go_enter Try.func6, Try.ntmps6
  go_wp2_with fail
  refine (alive12 _).mono ?_
  rintro e w1 ⟨rfl, hb1⟩
  have HB1 := hide hb1
  clear hb1
  go_wp2_with fail
  refine (one_new n _ hn).mono ?_
  rintro e w2 ⟨l, d, rfl, ⟨P2, Q2, h2⟩, hb2⟩
  rw [HNN.out] at h2
  have HS2 := hide h2
  have HB2 := hide (HB1.out.trans (hb2.mono HB1.out.size))
  have HG := hide (h2.inv.good rfl)
  clear h2 hb2 HB1 HNN
  go_wp2_with fail
  refine (one_disk _ HS2.out).mono ?_
  rintro e w3 ⟨g, Q3, rfl, hd3, hq3, hb3⟩
  have HD3 := hide hd3
  have hz2 : w.heap.size ≤ w2.heap.size := HB2.out.size
  have HQ3 := hide (show ∀ n, Q3 n → w.heap.size ≤ n from fun b hb => by have := hq3 b hb; omega)
  have HB3 := hide (HB2.out.trans (hb3.mono HB2.out.size))
  clear hd3 hq3 hb3 hz2 HS2 HB2
  go_wp2_with fail
  refine (near_any arm 0 9000 _).mono ?_
  rintro e w' ⟨rfl, rfl⟩
  have hna := near_in (n := arm) (show (0 : Int) ≤ 9000 by omega)
  generalize near arm 0 9000 = a at *
  have HNA := hide (show I64' a by unfold I64'; omega)
  clear hna
  go_wp2_with fail
  refine (dlarm_any a _ HD3.out HG.out.ok HNA.out).mono ?_
  rintro e w4 ⟨rfl, Q4, hd4, hq4, ht4⟩
  have HD4 := hide hd4
  have hz3 : w.heap.size ≤ w3.heap.size := HB3.out.size
  have HQ4 := hide (show ∀ n, Q4 n → w.heap.size ≤ n from fun b hb => (hq4 b hb).elim (HQ3.out b) fun h => by omega)
  have HB4 := hide (HB3.out.trans (touch_base ht4 hz3 HQ3.out))
  have HG2 := hide (HG.out.arm (a := a) HNA.out.2)
  have HDD := hide ((arm_dead (Dk.fresh (2 * N + 1)) a).trans rfl)
  have HOP := hide (open_good HG2.out)
  clear hd4 hq4 ht4 hz3 HD3 HQ3 HB3 HG
  generalize (Dk.fresh (2 * N + 1)).arm a = K at *
  go_wp2_with fail
  refine (one_open (B := w.heap.size) (s := N) _ HD4.out HG2.out.ok HG2.out.n1 HDD.out (open_quiet HG2.out) HQ4.out HB4.out.size).mono ?_
  rintro e w5 ⟨x, rfl, ⟨P5, Q5, h5, -, -⟩, ht5⟩
  rw [HOP.out] at h5
  have HO5 := hide (show OneB w.heap.size w5 x g K ⟨N, [], 0⟩ from ⟨P5, Q5, h5⟩)
  have HB5 := hide (HB4.out.trans (touch_base ht5 HB4.out.size HQ4.out))
  clear h5 ht5 HD4 HQ4 HB4 HOP HG2
  go_upto_block 0 with fail
  go_cut [13] (fun s wx => ∃ m : Lm, m.n = N ∧ Hid (OneB w.heap.size wx x g K m) ∧ Hid (Below w.heap.size w wx))
  case first =>
    go_wp2
    go_loopw [13] (fun s wr => ∃ (j : Nat) (m : Lm), j ≤ na ∧ s = .int .i64 j ∧ m.n = N ∧ Hid (OneB w.heap.size wr x g K m) ∧ Hid (Below w.heap.size w wr)) (fun s _ => na - (intOf s).toNat)
    case atStart => exact ⟨0, _, Nat.zero_le _, rfl, rfl, HO5, HB5⟩
    case round =>
      obtain ⟨j, m, hj, rfl, hmn, ho, hbl⟩ := hrel
      by_cases hlt : j < na ∧ j < 20
      · obtain ⟨hlt, hlt20⟩ := hlt
        obtain ⟨b, o, a, c, rfl, hc0, hrow, hoct⟩ := part_at HA.out hbl.out hlt
        have HAP := hide (oneB_append a _ c _ wr ho.out hbl.out.size hrow hoct (by have := HLA.out j hlt; omega))
        have HM := hide (appendL_n m (la.getD j []))
        clear hrow hoct
        generalize (la.getD j []).length = q at *
        generalize appendL m (la.getD j []) = mm at *
        go_wp2_with fail
        refine HAP.out.mono ?_
        rintro e w3 ⟨rfl, h3, hb3⟩
        have HO3 := hide h3
        have HB3 := hide (hbl.out.trans hb3)
        clear h3 hb3 HAP
        go_wp2
        go_roundw
        case rel => exact ⟨j + 1, _, by omega, by go_num, HM.out.trans hmn, HO3, HB3⟩
        case measure => simp [intOf]; omega
      · have HJ := hide hlt
        by_cases hlt2 : j < na
        · have hlt20 : ¬ (j < 20) := fun h => HJ.out ⟨hlt2, h⟩
          clear hlt
          go_wp2
          go_meet
          exact ⟨m, hmn, ho, hbl⟩
        · clear hlt
          go_wp2
          go_meet
          exact ⟨m, hmn, ho, hbl⟩
  case rest =>
    obtain ⟨m, hmn, ho6, hb6⟩ := hcut
    have HG := hide (ho6.out.inv.good HDD.out)
    have HSY := hide (oneB_sync _ ho6.out hb6.out.size)
    have hsn := syncL_n K m
    obtain ⟨j, r1, r2, r3, r4, r5, r6, r7, r8⟩ := sync_reopen HG.out HDD.out
    generalize hz : (syncL K m).2.2 = z at *
    generalize hK1 : (syncL K m).1 = K1 at *
    generalize hm1 : (syncL K m).2.1 = m1 at *
    clear r2 r4 hz ho6
    go_wp2_with fail
    refine HSY.out.mono ?_
    rintro e w7 ⟨rfl, ⟨P7, Q7, s7⟩, hb7⟩
    have hok7 := s7.inv.ok
    rw [hsn] at hok7
    have HD7 := hide s7.dsk
    have HQ7 := hide s7.qb
    have HB7 := hide (hb6.out.trans hb7)
    clear s7 hb7 HSY hb6 HO5 HB5
    go_wp2_with fail
    refine (dlrevive_any _ HD7.out hok7).mono ?_
    rintro e w8 ⟨rfl, Q8, hd8, hq8, ht8⟩
    have HD8 := hide hd8
    have hz7 : w.heap.size ≤ w7.heap.size := HB7.out.size
    have HQ8 := hide (show ∀ n, Q8 n → w.heap.size ≤ n from fun b hb => (hq8 b hb).elim (HQ7.out b) fun h => by omega)
    have HB8 := hide (HB7.out.trans (touch_base ht8 hz7 HQ7.out))
    clear hd8 hq8 ht8 hz7 HD7 HQ7 HB7
    go_wp2_with fail
    refine (one_open (B := w.heap.size) (s := m.n) _ HD8.out (Dk.ok_revive hok7) HG.out.n1 rfl (revive_quiet _ _) HQ8.out HB8.out.size).mono ?_
    rintro e w9 ⟨y, rfl, ⟨P9, Q9, h9, -, -⟩, ht9⟩
    rw [r1] at h9
    have HB9 := hide (HB8.out.trans (touch_base ht9 HB8.out.size HQ8.out))
    have hjl : (m.recs.take j).length = j := by rw [List.length_take]; omega
    have HT := hide (show (m.recs.take j).take j = m.recs.take j by rw [List.take_take, Nat.min_self])
    obtain ⟨m2, hm2⟩ : ∃ m2 : Lm, m2 = ⟨m.n, m.recs.take j, j⟩ := ⟨_, rfl⟩
    have HT2 := hide (show (⟨m2.n, m2.recs.take m2.dur, m2.dur⟩ : Lm) = m2 by rw [hm2]; simp only; rw [HT.out])
    rw [← hm2] at h9 r6
    generalize (openL K1.revive m.n).1 = K2 at *
    have HY := hide h9
    have HG2 := hide r6
    have HFU := hide (And.intro r7 r8)
    have HOP := hide (open_good r6)
    rw [HT2.out] at HOP
    clear h9 ht9 HD8 HQ8 HB8 r1 r3 r5 r6 r7 r8 hjl HT hm2 hok7 hK1 hm1 hsn HG
    go_wp2_with fail
    refine (dlall_any _ HY.out.dsk HG2.out.ok).mono ?_
    rintro e w10 ⟨A10, c10, rfl, ho10, hb10⟩
    have hcv10 := conv_row (Row.of_own ho10)
    have HY10 := hide (HY.out.below hb10)
    have HB10 := hide (HB9.out.trans (hb10.mono HB9.out.size))
    clear ho10 hb10 HY HB9
    go_wp2_with fail
    refine (one_open (B := w.heap.size) (s := m2.n) _ HY10.out.dsk HG2.out.ok HG2.out.n1 HFU.out.1 (open_quiet HG2.out) HY10.out.qb HB10.out.size).mono ?_
    rintro e w11 ⟨zl, rfl, ⟨P11, Q11, h11, hp11, hq11⟩, ht11⟩
    rw [HOP.out] at h11
    have yl := log_lt HY10.out.log
    have HZ := hide (show One w.heap.size w11 P11 Q11 zl g K2 m2 from h11)
    have HBE := hide (show Beside P9 y g K2 m2 P11 Q11 w11 from ⟨log_keep HY10.out.log ht11.size fun b hb hlt => ht11.block b hlt (HY10.out.pq b hb), fun b hb => ⟨fun h => by have := hp11 b h; have := yl b hb; omega, fun h => (hq11 b h).elim (HY10.out.pq b hb) fun h => by have := yl b hb; omega⟩⟩)
    have HB11 := hide (HB10.out.trans (touch_base ht11 HB10.out.size HY10.out.qb))
    clear h11 hp11 hq11 ht11 yl HY10 HB10 HOP
    go_wp2_with fail
    refine (dlall_any _ HZ.out.dsk HG2.out.ok).mono ?_
    rintro e w12 ⟨A12, c12, rfl, ho12, hb12⟩
    have hcv12 := conv_row (Row.of_own ho12)
    have HZ12 := hide (HZ.out.below hb12)
    have HBE12 := hide (HBE.out.below hb12)
    have HB12 := hide (HB11.out.trans (hb12.mono HB11.out.size))
    clear ho12 hb12 HZ HBE HB11
    go_wp2_with fail
    refine (wrecords_any _ HBE12.out.1 (.of_good HG2.out)).mono ?_
    intro e w13 hr
    obtain ⟨A13, c13, rfl, hp13, -, -, hb13⟩ := hr.parts2
    have HP13 := hide hp13
    have HZ13 := hide (HZ12.out.below hb13)
    have HBE13 := hide (HBE12.out.below hb13)
    have HB13 := hide (HB12.out.trans (hb13.mono HB12.out.size))
    clear hr hp13 hb13 HZ12 HBE12 HB12
    go_wp2_with fail
    refine (one_records _ HZ13.out).mono ?_
    intro e w14 hr
    obtain ⟨A14, c14, rfl, hp14, -, -, hb14⟩ := hr.parts2
    have HP14 := hide hp14
    have HP13' := hide (HP13.out.below hb14)
    have HZ14 := hide (HZ13.out.below hb14)
    have HBE14 := hide (HBE13.out.below hb14)
    have HB14 := hide (HB13.out.trans (hb14.mono HB13.out.size))
    clear hr hp14 hb14 HZ13 HBE13 HB13 HP13
    go_wp2_with fail
    refine (octets_same A13 A14 m2.recs.length c13 c14 m2.recs _ HP13'.out HP14.out).mono ?_
    rintro e w15 ⟨rfl, q, rfl⟩
    have hdr := below_drewN (Below.refl w14.heap.size w14) q
    have HZ15 := hide (HZ14.out.below hdr)
    have HBE15 := hide (HBE14.out.below hdr)
    have HB15 := hide (below_drewN HB14.out q)
    clear hdr HZ14 HBE14 HB14 HP13' HP14
    generalize w14.drewN q = w15 at *
    have HZA := hide ((wappend_any Bd nb cb lb w15 HZ15.out.log HZ15.out.dsk HZ15.out.inv.ok HZ15.out.inv (HB.out.below HB15.out fun b hb _ => hb) HBO.out (fun i hi _ hp => by have := HZ15.out.pb i hp; omega) (by omega)).mono fun e w' h => (h.did HZ15.out.dsk HZ15.out.pq).beside HBE15.out (HZ15.out.inv.append HBO.out) HB15.out.size HZ15.out.pb HZ15.out.qb)
    have hapc : ((appendL m2 lb).2 = 0 ∧ (appendL m2 lb).1.recs = m2.recs ++ [lb]) ∨ ((appendL m2 lb).2 ≠ 0 ∧ (appendL m2 lb).1.recs = m2.recs) := by
      unfold appendL
      split
      · exact .inr ⟨by simp, rfl⟩
      · split
        · exact .inr ⟨by simp, rfl⟩
        · split
          · exact .inr ⟨by simp, rfl⟩
          · exact .inl ⟨rfl, rfl⟩
    have hlen2 : m2.recs.length ≤ 5000 := by have := allF_len7 m2.recs; have e : m2.used = (allF m2.recs).length := rfl; have := HG2.out.room; have := HZ15.out.n127; omega
    generalize hz : (appendL m2 lb).2 = z2 at *
    generalize hm3 : (appendL m2 lb).1 = m3 at *
    go_wp2_with fail
    refine HZA.out.mono ?_
    rintro e w16 ⟨rfl, ⟨P16, Q16, s16, be16⟩, hb16⟩
    have HB16 := hide (HB15.out.trans hb16)
    have HBE16 := hide be16
    have HZ16 := hide s16
    clear s16 be16 hb16 HZA HZ15 HBE15 HB15
    obtain ⟨f1, f2, f3⟩ := sync_free (k := K2) (m := m3) HFU.out.1 HFU.out.2
    have HZS := hide ((wsync_any w16 HZ16.out.log HZ16.out.dsk HZ16.out.pq HZ16.out.inv).mono fun e w' h => h.beside HBE16.out HZ16.out.inv.sync HB16.out.size HZ16.out.pb HZ16.out.qb)
    have HG3 := hide (((HZ16.out.inv.good HFU.out.1).sync HFU.out.1 (by rw [f1])).1)
    rw [f1] at HZS HG3
    simp only at HZS HG3
    generalize (syncL K2 m3).1 = K3 at *
    have HF2 := hide f2
    have HOP := hide (open_good HG3.out)
    simp only [List.take_length] at HOP
    clear f1 f2 f3
    go_wp2_with fail
    refine HZS.out.mono ?_
    rintro e w17 ⟨rfl, ⟨P17, Q17, s17, be17⟩, hb17⟩
    have HB17 := hide (HB16.out.trans hb17)
    have HBE17 := hide be17
    have HZ17 := hide s17
    clear s17 be17 hb17 HZS HZ16 HBE16 HB16
    go_wp2_with fail
    refine (one_disk _ HZ17.out).mono ?_
    rintro e w18 ⟨g2, Q18, rfl, hd18, hq18, hb18⟩
    have HD18 := hide hd18
    have hz17 : w.heap.size ≤ w17.heap.size := HB17.out.size
    have HQ18 := hide (show ∀ n, Q18 n → w.heap.size ≤ n ∧ w17.heap.size ≤ n from fun b hb => by have := hq18 b hb; omega)
    have HBE18 := hide (HBE17.out.below hb18)
    have HYL := hide (log_lt HBE17.out.1)
    have HB18 := hide (HB17.out.trans (hb18.mono HB17.out.size))
    clear hd18 hq18 hb18 hz17 HBE17 HB17
    go_wp2_with fail
    refine (one_open (B := w.heap.size) (s := m3.n) _ HD18.out HG3.out.ok HG3.out.n1 HF2.out (by have := open_quiet HG3.out; exact this) (fun b hb => (HQ18.out b hb).1) HB18.out.size).mono ?_
    rintro e w19 ⟨v, rfl, ⟨P19, Q19, h19, -, -⟩, ht19⟩
    rw [HOP.out] at h19
    have HV := hide h19
    have HYE := hide (log_keep HBE18.out.1 ht19.size fun b hb hlt => ht19.block b hlt fun h => by have := (HQ18.out b h).2; have := HYL.out b hb; omega)
    have HB19 := hide (HB18.out.trans (touch_base ht19 HB18.out.size fun b hb => (HQ18.out b hb).1))
    clear h19 ht19 HD18 HQ18 HBE18 HYL HB18 HOP HZ17
    go_wp2_with fail
    refine (wrecords_any _ HYE.out (.of_good HG2.out)).mono ?_
    rintro e w20 ⟨A20, c20, rfl, hp20, hn20, hc20, hb20⟩
    obtain ⟨vs, how, hvs⟩ := hp20.row hn20 hc20
    have HOW := hide how
    have HVS := hide hvs
    have HV20 := hide (HV.out.below hb20)
    have HB20 := hide (HB19.out.trans (hb20.mono HB19.out.size))
    clear how hvs hp20 hb20 HYE HV HB19
    go_wp2_with (at_builtin; refine wpList_append_row _ rfl _ _ 37 rfl w20.heap.size 32 i6 (.slice none 0 0) 24 Try.underlying37 hi6 hz0 hz1 hz2 rfl _ 0 [] rfl (World.ownsRow_nil _ _ _ _) _ A20 m2.recs.length c20 vs rfl HOW.out HVS.out.cells ?h1 ?h2 ?h3 ?_)
    case h1 => unfold maxLen; omega
    case h2 => omega
    case h3 => exact Nat.le_refl _
    intro v' w21 hown hgr hwas
    have hbl : Below w20.heap.size w20 w21 := (Below.refl _ w20).grown hgr (Nat.le_refl _) (fun k hk => by cases hk)
    obtain ⟨A21, c21, rfl⟩ := own_form hown
    have HO21 := hide hown
    have HVI := hide (show Vals w20 (· < w20.heap.size) vs m2.recs from HVS.out.turn fun r => r.within.mono fun b hb => hb.2)
    have HBL := hide hbl
    have HB21 := hide (HB20.out.trans (hbl.mono HB20.out.size))
    clear hown hgr hwas HOW HVS
    rcases hapc with ⟨hz0', hre⟩ | ⟨hz0', hre⟩
    · subst hz0'
      have HRE := hide hre
      clear hre
      go_wp2_with (at_builtin; refine wpList_append_own_at _ rfl _ _ 37 rfl w20.heap.size 32 i6 (.slice none 0 0) 1 24 Try.underlying37 hi6 hz0 hz1 hz2 rfl (by decide) _ m2.recs.length _ rfl (HO21.out.alloc _) ⟨w21.heap.size, 0, none⟩ 1 1 [.slice Bd nb cb] rfl rfl (cell_one_new _ _ _) (by simp [Value.oneCell']) ?k1 ?k2 ?k3 ?_)
      case k1 => unfold maxLen; omega
      case k2 => omega
      case k3 => have := HBL.out.size; simp; omega
      intro v2 w22 hown hgr _ _
      have hbl2 : Below w20.heap.size w20 w22 := (HBL.out.alloc HBL.out.size (.cells #[.slice Bd nb cb] 32)).grown hgr (by have := HBL.out.size; simp; omega) (fun k hk => (HO21.out.lt k hk).1)
      obtain ⟨A22, c22, rfl⟩ := own_form hown
      have hrb := (HB.out.below (HB20.out.trans (hbl2.mono HB20.out.size)) fun b hb _ => hb)
      have hpw := Parts.of_own hown (((HVI.out.turn (w' := w22) (Q := fun _ => True) fun r => (r.below hbl2 fun b hb _ => hb).all)).snoc hrb.all HBO.out)
      have HPW := hide hpw
      have HBX := hide (HB20.out.trans (hbl2.mono HB20.out.size))
      have HVX := hide (HV20.out.below hbl2)
      clear hown hgr hbl2 hrb hpw HO21 HVI HV20 HB21
      go_wp2_with fail
      refine (one_records _ HVX.out).mono ?_
      intro e w25 hr
      obtain ⟨A25, c25, rfl, hp25, -, -, hb25⟩ := hr.parts2
      simp only [HRE.out, List.length_append, List.length_cons, List.length_nil, Nat.zero_add] at hp25 ⊢
      have HPW2 := hide (HPW.out.below hb25)
      have HP25 := hide hp25
      have HB25 := hide (HBX.out.trans (hb25.mono HBX.out.size))
      clear hr hp25 hb25
      go_wp2_with fail
      refine (octets_same A25 A22 (m2.recs.length + 1) c25 c22 (m2.recs ++ [lb]) _ HP25.out HPW2.out).mono ?_
      rintro e w26 ⟨rfl, q, rfl⟩
      have HEND := hide (below_drewN HB25.out q)
      go_wp2
      go_ret
      exact ⟨rfl, HEND.out⟩
    · have hzb : (z2 == 0) = false := beq_eq_false_iff_ne.mpr hz0'
      have HRE := hide hre
      have HPW := hide (Parts.of_own HO21.out (HVI.out.turn (w' := w21) (Q := fun _ => True) fun r => (r.below hbl fun b hb _ => hb).all))
      have HBX := HB21
      have HVX := hide (HV20.out.below hbl)
      clear hre HO21 HVI HV20 hbl
      go_wp2_with fail
      refine (one_records _ HVX.out).mono ?_
      intro e w25 hr
      obtain ⟨A25, c25, rfl, hp25, -, -, hb25⟩ := hr.parts2
      simp only [HRE.out] at hp25 ⊢
      have HPW2 := hide (HPW.out.below hb25)
      have HP25 := hide hp25
      have HB25 := hide (HBX.out.trans (hb25.mono HBX.out.size))
      clear hr hp25 hb25
      go_wp2_with fail
      refine (octets_same A25 A21 m2.recs.length c25 c21 m2.recs _ HP25.out HPW2.out).mono ?_
      rintro e w26 ⟨rfl, q, rfl⟩
      have HEND := hide (below_drewN HB25.out q)
      go_wp2
      go_ret
      exact ⟨rfl, HEND.out⟩
end Go.Proofs.Ythoedknnchaiaaa
