/-
  The walk of the statement OctetOwn: what is read can be written on, and so can what is read from.
-/
import Derived.Test.YthielpjjbhiobaaOctC
import Derived.Test.YthielpjjbhiobaaApp
import Derived.Deep.QuietTactic
import Derived.BigQuiet
import Derived.Deep.RegionLaw
namespace Go.Proofs.Ythielpjjbhiobaa
open Go.RowKit
set_option linter.unusedVariables false

/-- Octets of the call's own: whichever. -/
def Some8 (w : World) (base : Nat) (A : Option Addr) (n c : Nat) : Prop := ∃ m : List Int, Octs m ∧ w.ownsRow base 5 1 (.slice A n c) n (octs m)
theorem Some8.cell {w : World} {base : Nat} {A : Option Addr} {n c : Nat} (h : Some8 w base A n c) {i : Nat} (hi : i < n) :
    ∃ g z, A = some ⟨g, 0, none⟩ ∧ 0 ≤ z ∧ z ≤ 255 ∧ w.cell? ⟨g, i, none⟩ = some (.int .u8 z) ∧ w.frozen? ⟨g, i, none⟩ = false := by
  obtain ⟨m, ho, hm⟩ := h
  obtain ⟨g, cap, hv, _, _⟩ := hm.form (by omega)
  injection hv with h1 h2 h3
  subst h1 h3
  have hl : m.length = n := by have := hm.1; rw [octs_len] at this; omega
  have h0 := ho.getD i
  exact ⟨g, m.getD i 0, rfl, by omega, by omega, (hm.cellAt i (by omega)).trans (octs_at m i (by omega)), hm.frozenAt i⟩
theorem Some8.store {w : World} {base g n c : Nat} (h : Some8 w base (some ⟨g, 0, none⟩) n c) (i : Nat) (z : Int) (h0 : 0 ≤ z) (h1 : z < 256) :
    Some8 (w.setCell ⟨g, i, none⟩ (.int .u8 z)) base (some ⟨g, 0, none⟩) n c ∧ w.grownBy (w.setCell ⟨g, i, none⟩ (.int .u8 z)) (some g) := by
  obtain ⟨m, ho, hm⟩ := h
  have hs := hm.stored i (.int .u8 z)
  refine ⟨⟨m.set i z, ?_, ?_⟩, hs.2⟩
  · intro x hx
    rcases List.mem_or_eq_of_mem_set hx with hx | rfl
    · exact ho x hx
    · exact ⟨h0, h1⟩
  · have e : octs (m.set i z) = (octs m).set i (.int .u8 z) := by simp [octs]
    rw [e]
    exact hs.1

set_option maxRecDepth 100000 in
set_option maxHeartbeats 4000000 in
theorem own_low (A : Option Addr) (n c : Nat) (l : List Int) (q : Int) (k : Nat) (w : World) (h : Row w (· < w.heap.size) A n c (octs l)) (ho : Octs l) (hn : n ≤ 140737488355000) (hq : q < 0) (hX : 0 = (k : Int)) (hk : k ≤ n) :
    Calls Try.prog 4 #[.slice A n c, .int .i64 q] w fun e w' => e = .returned (.bool true) ∧ Below w.heap.size w w' := by
  have H := hide h
  have HO := hide ho
  clear h ho
  go_enter Try.func4, Try.ntmps4
  go_wp2_with fail
  refine (alive02 _).mono ?_
  rintro e w1 ⟨rfl, hb⟩
  have HX := hide hX
  have HLEN := hide (show l.length = n by rw [← H.out.1, octs_len])
  clear hX
  have H1 := hide (H.out.below hb (fun b hb _ => hb))
  have HB1 := hide hb
  clear hb
  have hown0 : (w1.alloc (.cells #[] 5)).ownsRow w1.heap.size 5 1 (.slice (some ⟨w1.heap.size, 0, none⟩) 0 0) 0 [] := World.ownsRow_lit w1 #[] 0 (Nat.le_refl _) (by unfold maxLen; omega) rfl
  have HO0 := hide hown0
  clear hown0
  obtain ⟨i5, hi, hz0, hz1, hz2⟩ := info_parts info5
  go_wp2_with (at_builtin; refine wpList_append_row _ rfl _ _ 22 rfl w1.heap.size 5 i5 (.int .u8 0) 1 Try.underlying22 hi hz0 hz1 hz2 rfl _ 0 [] rfl HO0.out (· < w.heap.size) A n c (octs l) rfl (H1.out.alloc _) (octs_one l) ?c1 ?c2 ?c3 ?_)
  case c1 => unfold maxLen; omega
  case c2 => omega
  case c3 => simp
  intro v' w2 hown' hgrow _
  clear hi hz0 hz1 hz2
  obtain ⟨A', c', rfl⟩ := own_form hown'
  have hown2 : w2.ownsRow w1.heap.size 5 1 (.slice A' n c') n (octs l) := by simpa using hown'
  have hb2 : Below w.heap.size w w2 := HB1.out.trans ((((Below.refl _ w1).alloc (Nat.le_refl _) _).grown hgrow (by simp) (by simp [Value.ownBlock])).mono HB1.out.size)
  have HW2 := hide hown2
  have HB2 := hide hb2
  clear hown' hgrow hown2 hb2 HO0
  go_wp2_with fail
  refine (new_any _ _ _ _ l _ (Row.of_own HW2.out) HO.out (by omega)).mono ?_
  rintro e w3 ⟨gr, rfl, hgr, hr, hb⟩
  have HR3 := hide hr.within
  have HB3 := hide hb
  have HGR := hide hgr
  have HA3 := hide (H.out.below (HB2.out.trans (hb.mono HB2.out.size)) (fun b hb _ => hb))
  clear hr hb hgr
  go_wp2_with fail
  refine (new_any _ _ _ _ l _ HA3.out HO.out (by omega)).mono ?_
  rintro e w4 ⟨gs, rfl, hgs, hs, hb⟩
  have HS4 := hide hs.within
  have HR4 := hide (HR3.out.keep fun b hb' _ => hb.block b hb'.2)
  have HW4 := hide (own_below HW2.out (HB3.out.trans (hb.mono HB3.out.size)))
  have HB4 := hide (HB2.out.trans ((HB3.out.trans (hb.mono HB3.out.size)).mono HB2.out.size))
  have HZ := hide (show w2.heap.size ≤ w3.heap.size ∧ w3.heap.size ≤ w4.heap.size from ⟨HB3.out.size, hb.size⟩)
  clear hs hb hgs HR3 HB3 HA3
  have HB4s := hide (show w.heap.size ≤ w2.heap.size from HB2.out.size)
  go_wp2
  go_loopw [8] (fun i wr => ∃ j : Nat, j ≤ n ∧ i = .int .i64 j ∧ Hid (Some8 wr w1.heap.size A' n c') ∧ Hid (w4.grownBy wr (Value.slice A' n c').ownBlock)) (fun i _ => n - (intOf i).toNat)
  case atStart => exact ⟨0, Nat.zero_le _, rfl, hide ⟨l, HO.out, HW4.out⟩, hide (World.grownBy.refl _ _)⟩
  case round =>
    obtain ⟨j, hj, rfl, h8, hg⟩ := hrel
    by_cases hlt : j < n
    · obtain ⟨g, z, rfl, hz0, hz1, hcell, hfr⟩ := h8.out.cell hlt
      go_wp2
      go_roundw
      case rel => exact ⟨j + 1, by omega, by go_num, hide (h8.out.store j _ (by omega) (by omega)).1, hide (hg.out.trans (h8.out.store j _ (by omega) (by omega)).2)⟩
      case measure => simp [intOf]; omega
    · obtain rfl : n = j := by omega
      have HR := hide (HR4.out.keep fun b hb hlt => hg.out.block b hlt (by
        intro e
        have := (HW2.out.lt b e.symm).2
        omega))
      have HS := hide (HS4.out.keep fun b hb hlt => hg.out.block b hlt (by
        intro e
        have := (HW2.out.lt b e.symm).2
        have := HZ.out
        omega))
      have HB := hide (HB4.out.grown hg.out HB4.out.size (fun k hk => by
        have := (HW2.out.lt k hk).1
        have := HB1.out.size
        omega))
      have HG := hide (show w4.heap.size ≤ wr.heap.size from hg.out.size)
      clear HR4 HS4 HB4 hlt hj h8 hg
      go_wp2_with fail
      refine (bytes_yes_int _ gr l 0 k _ HX.out HR.out (by rw [HLEN.out]; exact hk) (by omega)).mono ?_
      rintro e w6 ⟨Ap, cp, rfl, hpo, hrr, ht⟩
      have hgr := HR.out.own_lt
      have HS6 := hide (HS.out.touch ht (fun b hb => by have := HZ.out; omega))
      have HB6 := hide (HB.out.trans (ht.below HB.out.size (fun k hk e => by have := HB4s.out; have := HGR.out; omega)))
      have HG6 := hide (show w4.heap.size ≤ wr.heap.size ∧ wr.heap.size ≤ w6.heap.size from ⟨HG.out, ht.size⟩)
      have HR6 := hide hrr
      have HP6 := hide hpo
      clear HR HS HB HG hrr hpo ht hgr
      obtain ⟨wo, rfl⟩ : ∃ wo : World, wo = wr := ⟨_, rfl⟩
      go_wp2
      go_loopw [11] (fun i wq => ∃ j : Nat, j ≤ k ∧ i = .int .i64 j ∧ Hid (Some8 wq wo.heap.size Ap k cp) ∧ Hid (w6.grownBy wq (Value.slice Ap k cp).ownBlock)) (fun i _ => k - (intOf i).toNat)
      case atStart => exact ⟨0, Nat.zero_le _, rfl, hide ⟨l.take k, HO.out.take k, HP6.out⟩, hide (World.grownBy.refl _ _)⟩
      case round =>
        obtain ⟨j, hj, rfl, h8, hg⟩ := hrel
        by_cases hlt : j < k
        · obtain ⟨g, z, rfl, hz0, hz1, hcell, hfr⟩ := h8.out.cell hlt
          go_wp2
          go_roundw
          case rel => exact ⟨j + 1, by omega, by go_num, hide (h8.out.store j _ (by omega) (by omega)).1, hide (hg.out.trans (h8.out.store j _ (by omega) (by omega)).2)⟩
          case measure => simp [intOf]; omega
        · obtain rfl : k = j := by omega
          have HR := hide (HR6.out.keep fun b hb hlt => hg.out.block b hlt (by
            intro e
            have := (HP6.out.lt b e.symm).1
            have := HG6.out
            have := HZ.out
            omega))
          have HS := hide (HS6.out.keep fun b hb hlt => hg.out.block b hlt (by
            intro e
            have := (HP6.out.lt b e.symm).1
            have := HG6.out
            omega))
          have HB := hide (HB6.out.grown hg.out HB6.out.size (fun k hk => by
            have := (HP6.out.lt k hk).1
            have := HG6.out
            have := HB4s.out
            have := HZ.out
            omega))
          have HG := hide (show w4.heap.size ≤ wr.heap.size by have := hg.out.size; have := HG6.out; omega)
          clear HR6 HS6 HB6 HG6 HP6 hlt hj h8 hg
          go_wp2_with fail
          refine (bytes_yes_int _ gs l 0 k _ HX.out HS.out (by rw [HLEN.out]; exact hk) (by omega)).mono ?_
          rintro e w7 ⟨Aq, cq, rfl, hqo, hss, ht⟩
          have hgs := HS.out.own_lt
          have hgr := HR.out.own_lt
          have HGS := hide hgs
          have HGQ := hide hgr
          have HR7 := hide (HR.out.touch ht (fun b hb => by have := HZ.out; omega))
          have HB7 := hide (HB.out.trans (ht.below HB.out.size (fun k hk e => by have := HB4s.out; have := HZ.out; omega)))
          have HG7 := hide (show w4.heap.size ≤ w7.heap.size by have := HG.out; have := ht.size; omega)
          have HS7 := hide hss
          have HQ7 := hide ((Row.of_own hqo).mono (Q := fun b => w4.heap.size ≤ b) (fun b hb => by have := HG.out; omega))
          clear HR HS HB HG hss hqo ht hgs hgr
          go_wp2_with fail
          refine (left_rdr _ _ _ _ (((l.drop k).length : Nat) : Int) HR7.out rfl).mono ?_
          rintro e w' ⟨rfl, rfl⟩
          go_wp2_with fail
          refine (bytes_yes_int _ gr (l.drop k) _ (l.drop k).length _ (by simp) HR7.out (Nat.le_refl _) (by have := HLEN.out; simp; omega)).mono ?_
          rintro e w8 ⟨Ax, cx, rfl, hxo, -, ht⟩
          have HS8 := hide (HS7.out.touch ht (fun b hb => by have := HGQ.out; omega))
          have HB8 := hide (HB7.out.trans (ht.below HB7.out.size (fun k hk e => by have := HB4s.out; have := HZ.out; have := HGQ.out; omega)))
          have HG8 := hide (show w4.heap.size ≤ w8.heap.size by have := HG7.out; have := ht.size; omega)
          have HQ8 := hide (HQ7.out.touch ht (fun b hb _ => by have := HGQ.out; have := HZ.out; omega))
          have HX8 := hide ((Row.of_own hxo).mono (Q := fun b => w4.heap.size ≤ b) (fun b hb => by have := HG7.out; omega))
          clear HR7 HS7 HB7 HG7 HQ7 hxo ht
          go_wp2_with fail
          refine (left_rdr _ _ _ _ (((l.drop k).length : Nat) : Int) HS8.out rfl).mono ?_
          rintro e w' ⟨rfl, rfl⟩
          go_wp2_with fail
          refine (bytes_yes_int _ gs (l.drop k) _ (l.drop k).length _ (by simp) HS8.out (Nat.le_refl _) (by have := HLEN.out; simp; omega)).mono ?_
          rintro e w9 ⟨Ay, cy, rfl, hyo, -, ht⟩
          have HB9 := hide (HB8.out.trans (ht.below HB8.out.size (fun k hk e => by have := HB4s.out; have := HZ.out; have := HGS.out; omega)))
          have HG9 := hide (show w4.heap.size ≤ w9.heap.size by have := HG8.out; have := ht.size; omega)
          have HQ9 := hide (HQ8.out.touch ht (fun b hb _ => by have := HGS.out; omega)).within
          have HX9 := hide (HX8.out.touch ht (fun b hb _ => by have := HGS.out; omega)).within
          have HY9 := hide ((Row.of_own hyo).mono (Q := fun b => w4.heap.size ≤ b) (fun b hb => by have := HG8.out; omega)).within
          clear HS8 HB8 HG8 HQ8 HX8 hyo ht
          go_wp2_with fail
          refine (take_nil _ _).mono ?_
          rintro e w' ⟨rfl, rfl⟩
          go_wp2_with fail
          refine (bytes_bad w9.heap.size _ _ (Blk.new _ _ _)).mono ?_
          rintro e w10 ⟨rfl, hbd, ht⟩
          have hz9 : ∀ b : Nat, b < w9.heap.size → w10.heap[b]? = w9.heap[b]? := fun b hb => (ht.block b (by simp; omega) (by omega)).trans (Below.heap_alloc w9 _ b hb)
          have hbl : Below w.heap.size w w10 := HB9.out.trans (((Below.refl _ w9).alloc HB9.out.size _).trans (ht.below (by have := HB9.out.size; simp; omega) (fun k hk e => by have := HB9.out.size; omega)))
          have hA : Row w10 (· < w.heap.size) A n c (octs l) := H.out.below hbl (fun b hb _ => hb)
          have hq := HQ9.out.keep (w' := w10) (fun b hb _ => hz9 b hb.2)
          have hx := HX9.out.keep (w' := w10) (fun b hb _ => hz9 b hb.2)
          have hy := HY9.out.keep (w' := w10) (fun b hb _ => hz9 b hb.2)
          rw [List.take_length, List.length_drop] at hx hy
          have hs1 : ∀ k', (convert 22 9 (.slice Ax (l.length - k) cx)).run Try.prog (w10.drewN k') = .ok (.string (strOfNums (l.drop k))) (w10.drewN k') := fun k' => conv_row (show Row (w10.drewN k') _ _ _ _ _ from hx)
          have hs2 : ∀ k', (convert 22 9 (.slice Ay (l.length - k) cy)).run Try.prog (w10.drewN k') = .ok (.string (strOfNums (l.drop k))) (w10.drewN k') := fun k' => conv_row (show Row (w10.drewN k') _ _ _ _ _ from hy)
          have hs3 : ∀ k', (convert 22 9 (.slice Aq k cq)).run Try.prog (w10.drewN k') = .ok (.string (strOfNums (l.take k))) (w10.drewN k') := fun k' => conv_row (show Row (w10.drewN k') _ _ _ _ _ from hq)
          have hf := hA.front (k := k) hk
          rw [octs_take] at hf
          have hs4 : ∀ k', (convert 22 9 (.slice A k c)).run Try.prog (w10.drewN k') = .ok (.string (strOfNums (l.take k))) (w10.drewN k') := fun k' => conv_row (show Row (w10.drewN k') _ _ _ _ _ from hf)
          have hs5 : ∀ W, (Instr.slice 22 (.slice A n c) none (some (.int .i64 (k : Int))) none).run Try.prog W = .ok (.slice A k c) W := fun W => front_run W A n c k (Nat.le_trans hk hA.2.1)
          have HD := hide hbd
          have HBL := hide hbl
          have q1 := fun k' : Nat => hide (quiet_same (n := k') (bad_nil (w10.drewN k')))
          have q2 := fun k' : Nat => hide (quiet_same (n := k') (bad_any (w10.drewN k') w9.heap.size _ false hbd))
          have q3 := fun k' : Nat => hide (quiet_same (n := k') (left_nil (w10.drewN k')))
          have q4 := fun k' : Nat => hide (quiet_same (n := k') (done_nil (w10.drewN k')))
          have q5 := fun k' : Nat => hide (quiet_same (n := k') (done_bad (w10.drewN k') w9.heap.size hbd))
          clear hbd hbl hA hq hx hy hf ht hz9 HQ9 HX9 HY9 HB9
          generalize strOfNums (l.drop k) = S at *
          generalize strOfNums (l.take k) = T at *
          generalize w9.heap.size = go at *
          go_wp2_with fail
          go_quiet ((first | (with_reducible exact (q1 _).out) | (with_reducible exact (q2 _).out) | (with_reducible exact (q3 _).out) | (with_reducible exact (q4 _).out) | (with_reducible exact (q5 _).out)))
          go_wp2
          go_ret
          exact ⟨rfl, below_drewN HBL.out nq⟩

set_option maxRecDepth 100000 in
set_option maxHeartbeats 4000000 in
theorem own_mid (A : Option Addr) (n c : Nat) (l : List Int) (q : Int) (k : Nat) (w : World) (h : Row w (· < w.heap.size) A n c (octs l)) (ho : Octs l) (hn : n ≤ 140737488355000) (hq0 : 0 ≤ q) (hq1 : q ≤ n) (hX : q = (k : Int)) (hk : k ≤ n) :
    Calls Try.prog 4 #[.slice A n c, .int .i64 q] w fun e w' => e = .returned (.bool true) ∧ Below w.heap.size w w' := by
  have H := hide h
  have HO := hide ho
  clear h ho
  go_enter Try.func4, Try.ntmps4
  go_wp2_with fail
  refine (alive02 _).mono ?_
  rintro e w1 ⟨rfl, hb⟩
  have HX := hide hX
  have HLEN := hide (show l.length = n by rw [← H.out.1, octs_len])
  clear hX
  have H1 := hide (H.out.below hb (fun b hb _ => hb))
  have HB1 := hide hb
  clear hb
  have hown0 : (w1.alloc (.cells #[] 5)).ownsRow w1.heap.size 5 1 (.slice (some ⟨w1.heap.size, 0, none⟩) 0 0) 0 [] := World.ownsRow_lit w1 #[] 0 (Nat.le_refl _) (by unfold maxLen; omega) rfl
  have HO0 := hide hown0
  clear hown0
  obtain ⟨i5, hi, hz0, hz1, hz2⟩ := info_parts info5
  go_wp2_with (at_builtin; refine wpList_append_row _ rfl _ _ 22 rfl w1.heap.size 5 i5 (.int .u8 0) 1 Try.underlying22 hi hz0 hz1 hz2 rfl _ 0 [] rfl HO0.out (· < w.heap.size) A n c (octs l) rfl (H1.out.alloc _) (octs_one l) ?c1 ?c2 ?c3 ?_)
  case c1 => unfold maxLen; omega
  case c2 => omega
  case c3 => simp
  intro v' w2 hown' hgrow _
  clear hi hz0 hz1 hz2
  obtain ⟨A', c', rfl⟩ := own_form hown'
  have hown2 : w2.ownsRow w1.heap.size 5 1 (.slice A' n c') n (octs l) := by simpa using hown'
  have hb2 : Below w.heap.size w w2 := HB1.out.trans ((((Below.refl _ w1).alloc (Nat.le_refl _) _).grown hgrow (by simp) (by simp [Value.ownBlock])).mono HB1.out.size)
  have HW2 := hide hown2
  have HB2 := hide hb2
  clear hown' hgrow hown2 hb2 HO0
  go_wp2_with fail
  refine (new_any _ _ _ _ l _ (Row.of_own HW2.out) HO.out (by omega)).mono ?_
  rintro e w3 ⟨gr, rfl, hgr, hr, hb⟩
  have HR3 := hide hr.within
  have HB3 := hide hb
  have HGR := hide hgr
  have HA3 := hide (H.out.below (HB2.out.trans (hb.mono HB2.out.size)) (fun b hb _ => hb))
  clear hr hb hgr
  go_wp2_with fail
  refine (new_any _ _ _ _ l _ HA3.out HO.out (by omega)).mono ?_
  rintro e w4 ⟨gs, rfl, hgs, hs, hb⟩
  have HS4 := hide hs.within
  have HR4 := hide (HR3.out.keep fun b hb' _ => hb.block b hb'.2)
  have HW4 := hide (own_below HW2.out (HB3.out.trans (hb.mono HB3.out.size)))
  have HB4 := hide (HB2.out.trans ((HB3.out.trans (hb.mono HB3.out.size)).mono HB2.out.size))
  have HZ := hide (show w2.heap.size ≤ w3.heap.size ∧ w3.heap.size ≤ w4.heap.size from ⟨HB3.out.size, hb.size⟩)
  clear hs hb hgs HR3 HB3 HA3
  have HB4s := hide (show w.heap.size ≤ w2.heap.size from HB2.out.size)
  go_wp2
  go_loopw [8] (fun i wr => ∃ j : Nat, j ≤ n ∧ i = .int .i64 j ∧ Hid (Some8 wr w1.heap.size A' n c') ∧ Hid (w4.grownBy wr (Value.slice A' n c').ownBlock)) (fun i _ => n - (intOf i).toNat)
  case atStart => exact ⟨0, Nat.zero_le _, rfl, hide ⟨l, HO.out, HW4.out⟩, hide (World.grownBy.refl _ _)⟩
  case round =>
    obtain ⟨j, hj, rfl, h8, hg⟩ := hrel
    by_cases hlt : j < n
    · obtain ⟨g, z, rfl, hz0, hz1, hcell, hfr⟩ := h8.out.cell hlt
      go_wp2
      go_roundw
      case rel => exact ⟨j + 1, by omega, by go_num, hide (h8.out.store j _ (by omega) (by omega)).1, hide (hg.out.trans (h8.out.store j _ (by omega) (by omega)).2)⟩
      case measure => simp [intOf]; omega
    · obtain rfl : n = j := by omega
      have HR := hide (HR4.out.keep fun b hb hlt => hg.out.block b hlt (by
        intro e
        have := (HW2.out.lt b e.symm).2
        omega))
      have HS := hide (HS4.out.keep fun b hb hlt => hg.out.block b hlt (by
        intro e
        have := (HW2.out.lt b e.symm).2
        have := HZ.out
        omega))
      have HB := hide (HB4.out.grown hg.out HB4.out.size (fun k hk => by
        have := (HW2.out.lt k hk).1
        have := HB1.out.size
        omega))
      have HG := hide (show w4.heap.size ≤ wr.heap.size from hg.out.size)
      clear HR4 HS4 HB4 hlt hj h8 hg
      go_wp2_with fail
      refine (bytes_yes_int _ gr l q k _ HX.out HR.out (by rw [HLEN.out]; exact hk) (by omega)).mono ?_
      rintro e w6 ⟨Ap, cp, rfl, hpo, hrr, ht⟩
      have hgr := HR.out.own_lt
      have HS6 := hide (HS.out.touch ht (fun b hb => by have := HZ.out; omega))
      have HB6 := hide (HB.out.trans (ht.below HB.out.size (fun k hk e => by have := HB4s.out; have := HGR.out; omega)))
      have HG6 := hide (show w4.heap.size ≤ wr.heap.size ∧ wr.heap.size ≤ w6.heap.size from ⟨HG.out, ht.size⟩)
      have HR6 := hide hrr
      have HP6 := hide hpo
      clear HR HS HB HG hrr hpo ht hgr
      obtain ⟨wo, rfl⟩ : ∃ wo : World, wo = wr := ⟨_, rfl⟩
      go_wp2
      go_loopw [11] (fun i wq => ∃ j : Nat, j ≤ k ∧ i = .int .i64 j ∧ Hid (Some8 wq wo.heap.size Ap k cp) ∧ Hid (w6.grownBy wq (Value.slice Ap k cp).ownBlock)) (fun i _ => k - (intOf i).toNat)
      case atStart => exact ⟨0, Nat.zero_le _, rfl, hide ⟨l.take k, HO.out.take k, HP6.out⟩, hide (World.grownBy.refl _ _)⟩
      case round =>
        obtain ⟨j, hj, rfl, h8, hg⟩ := hrel
        by_cases hlt : j < k
        · obtain ⟨g, z, rfl, hz0, hz1, hcell, hfr⟩ := h8.out.cell hlt
          go_wp2
          go_roundw
          case rel => exact ⟨j + 1, by omega, by go_num, hide (h8.out.store j _ (by omega) (by omega)).1, hide (hg.out.trans (h8.out.store j _ (by omega) (by omega)).2)⟩
          case measure => simp [intOf]; omega
        · obtain rfl : k = j := by omega
          have HR := hide (HR6.out.keep fun b hb hlt => hg.out.block b hlt (by
            intro e
            have := (HP6.out.lt b e.symm).1
            have := HG6.out
            have := HZ.out
            omega))
          have HS := hide (HS6.out.keep fun b hb hlt => hg.out.block b hlt (by
            intro e
            have := (HP6.out.lt b e.symm).1
            have := HG6.out
            omega))
          have HB := hide (HB6.out.grown hg.out HB6.out.size (fun k hk => by
            have := (HP6.out.lt k hk).1
            have := HG6.out
            have := HB4s.out
            have := HZ.out
            omega))
          have HG := hide (show w4.heap.size ≤ wr.heap.size by have := hg.out.size; have := HG6.out; omega)
          clear HR6 HS6 HB6 HG6 HP6 hlt hj h8 hg
          go_wp2_with fail
          refine (bytes_yes_int _ gs l q k _ HX.out HS.out (by rw [HLEN.out]; exact hk) (by omega)).mono ?_
          rintro e w7 ⟨Aq, cq, rfl, hqo, hss, ht⟩
          have hgs := HS.out.own_lt
          have hgr := HR.out.own_lt
          have HGS := hide hgs
          have HGQ := hide hgr
          have HR7 := hide (HR.out.touch ht (fun b hb => by have := HZ.out; omega))
          have HB7 := hide (HB.out.trans (ht.below HB.out.size (fun k hk e => by have := HB4s.out; have := HZ.out; omega)))
          have HG7 := hide (show w4.heap.size ≤ w7.heap.size by have := HG.out; have := ht.size; omega)
          have HS7 := hide hss
          have HQ7 := hide ((Row.of_own hqo).mono (Q := fun b => w4.heap.size ≤ b) (fun b hb => by have := HG.out; omega))
          clear HR HS HB HG hss hqo ht hgs hgr
          go_wp2_with fail
          refine (left_rdr _ _ _ _ (((l.drop k).length : Nat) : Int) HR7.out rfl).mono ?_
          rintro e w' ⟨rfl, rfl⟩
          go_wp2_with fail
          refine (bytes_yes_int _ gr (l.drop k) _ (l.drop k).length _ (by simp) HR7.out (Nat.le_refl _) (by have := HLEN.out; simp; omega)).mono ?_
          rintro e w8 ⟨Ax, cx, rfl, hxo, -, ht⟩
          have HS8 := hide (HS7.out.touch ht (fun b hb => by have := HGQ.out; omega))
          have HB8 := hide (HB7.out.trans (ht.below HB7.out.size (fun k hk e => by have := HB4s.out; have := HZ.out; have := HGQ.out; omega)))
          have HG8 := hide (show w4.heap.size ≤ w8.heap.size by have := HG7.out; have := ht.size; omega)
          have HQ8 := hide (HQ7.out.touch ht (fun b hb _ => by have := HGQ.out; have := HZ.out; omega))
          have HX8 := hide ((Row.of_own hxo).mono (Q := fun b => w4.heap.size ≤ b) (fun b hb => by have := HG7.out; omega))
          clear HR7 HS7 HB7 HG7 HQ7 hxo ht
          go_wp2_with fail
          refine (left_rdr _ _ _ _ (((l.drop k).length : Nat) : Int) HS8.out rfl).mono ?_
          rintro e w' ⟨rfl, rfl⟩
          go_wp2_with fail
          refine (bytes_yes_int _ gs (l.drop k) _ (l.drop k).length _ (by simp) HS8.out (Nat.le_refl _) (by have := HLEN.out; simp; omega)).mono ?_
          rintro e w9 ⟨Ay, cy, rfl, hyo, -, ht⟩
          have HB9 := hide (HB8.out.trans (ht.below HB8.out.size (fun k hk e => by have := HB4s.out; have := HZ.out; have := HGS.out; omega)))
          have HG9 := hide (show w4.heap.size ≤ w9.heap.size by have := HG8.out; have := ht.size; omega)
          have HQ9 := hide (HQ8.out.touch ht (fun b hb _ => by have := HGS.out; omega)).within
          have HX9 := hide (HX8.out.touch ht (fun b hb _ => by have := HGS.out; omega)).within
          have HY9 := hide ((Row.of_own hyo).mono (Q := fun b => w4.heap.size ≤ b) (fun b hb => by have := HG8.out; omega)).within
          clear HS8 HB8 HG8 HQ8 HX8 hyo ht
          go_wp2_with fail
          refine (take_nil _ _).mono ?_
          rintro e w' ⟨rfl, rfl⟩
          go_wp2_with fail
          refine (bytes_bad w9.heap.size _ _ (Blk.new _ _ _)).mono ?_
          rintro e w10 ⟨rfl, hbd, ht⟩
          have hz9 : ∀ b : Nat, b < w9.heap.size → w10.heap[b]? = w9.heap[b]? := fun b hb => (ht.block b (by simp; omega) (by omega)).trans (Below.heap_alloc w9 _ b hb)
          have hbl : Below w.heap.size w w10 := HB9.out.trans (((Below.refl _ w9).alloc HB9.out.size _).trans (ht.below (by have := HB9.out.size; simp; omega) (fun k hk e => by have := HB9.out.size; omega)))
          have hA : Row w10 (· < w.heap.size) A n c (octs l) := H.out.below hbl (fun b hb _ => hb)
          have hq := HQ9.out.keep (w' := w10) (fun b hb _ => hz9 b hb.2)
          have hx := HX9.out.keep (w' := w10) (fun b hb _ => hz9 b hb.2)
          have hy := HY9.out.keep (w' := w10) (fun b hb _ => hz9 b hb.2)
          rw [List.take_length, List.length_drop] at hx hy
          have hs1 : ∀ k', (convert 22 9 (.slice Ax (l.length - k) cx)).run Try.prog (w10.drewN k') = .ok (.string (strOfNums (l.drop k))) (w10.drewN k') := fun k' => conv_row (show Row (w10.drewN k') _ _ _ _ _ from hx)
          have hs2 : ∀ k', (convert 22 9 (.slice Ay (l.length - k) cy)).run Try.prog (w10.drewN k') = .ok (.string (strOfNums (l.drop k))) (w10.drewN k') := fun k' => conv_row (show Row (w10.drewN k') _ _ _ _ _ from hy)
          have hs3 : ∀ k', (convert 22 9 (.slice Aq k cq)).run Try.prog (w10.drewN k') = .ok (.string (strOfNums (l.take k))) (w10.drewN k') := fun k' => conv_row (show Row (w10.drewN k') _ _ _ _ _ from hq)
          have hf := hA.front (k := k) hk
          rw [octs_take] at hf
          have hs4 : ∀ k', (convert 22 9 (.slice A k c)).run Try.prog (w10.drewN k') = .ok (.string (strOfNums (l.take k))) (w10.drewN k') := fun k' => conv_row (show Row (w10.drewN k') _ _ _ _ _ from hf)
          have hs5 : ∀ W, (Instr.slice 22 (.slice A n c) none (some (.int .i64 (k : Int))) none).run Try.prog W = .ok (.slice A k c) W := fun W => front_run W A n c k (Nat.le_trans hk hA.2.1)
          have HD := hide hbd
          have HBL := hide hbl
          have q1 := fun k' : Nat => hide (quiet_same (n := k') (bad_nil (w10.drewN k')))
          have q2 := fun k' : Nat => hide (quiet_same (n := k') (bad_any (w10.drewN k') w9.heap.size _ false hbd))
          have q3 := fun k' : Nat => hide (quiet_same (n := k') (left_nil (w10.drewN k')))
          have q4 := fun k' : Nat => hide (quiet_same (n := k') (done_nil (w10.drewN k')))
          have q5 := fun k' : Nat => hide (quiet_same (n := k') (done_bad (w10.drewN k') w9.heap.size hbd))
          clear hbd hbl hA hq hx hy hf ht hz9 HQ9 HX9 HY9 HB9
          generalize strOfNums (l.drop k) = S at *
          generalize strOfNums (l.take k) = T at *
          generalize w9.heap.size = go at *
          go_wp2_with fail
          go_quiet ((first | (with_reducible exact (q1 _).out) | (with_reducible exact (q2 _).out) | (with_reducible exact (q3 _).out) | (with_reducible exact (q4 _).out) | (with_reducible exact (q5 _).out)))
          go_wp2
          go_ret
          exact ⟨rfl, below_drewN HBL.out nq⟩

set_option maxRecDepth 100000 in
set_option maxHeartbeats 4000000 in
theorem own_high (A : Option Addr) (n c : Nat) (l : List Int) (q : Int) (k : Nat) (w : World) (h : Row w (· < w.heap.size) A n c (octs l)) (ho : Octs l) (hn : n ≤ 140737488355000) (hq : (n : Int) < q) (hX : (n : Int) = (k : Int)) (hk : k ≤ n) :
    Calls Try.prog 4 #[.slice A n c, .int .i64 q] w fun e w' => e = .returned (.bool true) ∧ Below w.heap.size w w' := by
  have H := hide h
  have HO := hide ho
  clear h ho
  go_enter Try.func4, Try.ntmps4
  go_wp2_with fail
  refine (alive02 _).mono ?_
  rintro e w1 ⟨rfl, hb⟩
  have HX := hide hX
  have HLEN := hide (show l.length = n by rw [← H.out.1, octs_len])
  clear hX
  have H1 := hide (H.out.below hb (fun b hb _ => hb))
  have HB1 := hide hb
  clear hb
  have hown0 : (w1.alloc (.cells #[] 5)).ownsRow w1.heap.size 5 1 (.slice (some ⟨w1.heap.size, 0, none⟩) 0 0) 0 [] := World.ownsRow_lit w1 #[] 0 (Nat.le_refl _) (by unfold maxLen; omega) rfl
  have HO0 := hide hown0
  clear hown0
  obtain ⟨i5, hi, hz0, hz1, hz2⟩ := info_parts info5
  go_wp2_with (at_builtin; refine wpList_append_row _ rfl _ _ 22 rfl w1.heap.size 5 i5 (.int .u8 0) 1 Try.underlying22 hi hz0 hz1 hz2 rfl _ 0 [] rfl HO0.out (· < w.heap.size) A n c (octs l) rfl (H1.out.alloc _) (octs_one l) ?c1 ?c2 ?c3 ?_)
  case c1 => unfold maxLen; omega
  case c2 => omega
  case c3 => simp
  intro v' w2 hown' hgrow _
  clear hi hz0 hz1 hz2
  obtain ⟨A', c', rfl⟩ := own_form hown'
  have hown2 : w2.ownsRow w1.heap.size 5 1 (.slice A' n c') n (octs l) := by simpa using hown'
  have hb2 : Below w.heap.size w w2 := HB1.out.trans ((((Below.refl _ w1).alloc (Nat.le_refl _) _).grown hgrow (by simp) (by simp [Value.ownBlock])).mono HB1.out.size)
  have HW2 := hide hown2
  have HB2 := hide hb2
  clear hown' hgrow hown2 hb2 HO0
  go_wp2_with fail
  refine (new_any _ _ _ _ l _ (Row.of_own HW2.out) HO.out (by omega)).mono ?_
  rintro e w3 ⟨gr, rfl, hgr, hr, hb⟩
  have HR3 := hide hr.within
  have HB3 := hide hb
  have HGR := hide hgr
  have HA3 := hide (H.out.below (HB2.out.trans (hb.mono HB2.out.size)) (fun b hb _ => hb))
  clear hr hb hgr
  go_wp2_with fail
  refine (new_any _ _ _ _ l _ HA3.out HO.out (by omega)).mono ?_
  rintro e w4 ⟨gs, rfl, hgs, hs, hb⟩
  have HS4 := hide hs.within
  have HR4 := hide (HR3.out.keep fun b hb' _ => hb.block b hb'.2)
  have HW4 := hide (own_below HW2.out (HB3.out.trans (hb.mono HB3.out.size)))
  have HB4 := hide (HB2.out.trans ((HB3.out.trans (hb.mono HB3.out.size)).mono HB2.out.size))
  have HZ := hide (show w2.heap.size ≤ w3.heap.size ∧ w3.heap.size ≤ w4.heap.size from ⟨HB3.out.size, hb.size⟩)
  clear hs hb hgs HR3 HB3 HA3
  have HB4s := hide (show w.heap.size ≤ w2.heap.size from HB2.out.size)
  go_wp2
  go_loopw [8] (fun i wr => ∃ j : Nat, j ≤ n ∧ i = .int .i64 j ∧ Hid (Some8 wr w1.heap.size A' n c') ∧ Hid (w4.grownBy wr (Value.slice A' n c').ownBlock)) (fun i _ => n - (intOf i).toNat)
  case atStart => exact ⟨0, Nat.zero_le _, rfl, hide ⟨l, HO.out, HW4.out⟩, hide (World.grownBy.refl _ _)⟩
  case round =>
    obtain ⟨j, hj, rfl, h8, hg⟩ := hrel
    by_cases hlt : j < n
    · obtain ⟨g, z, rfl, hz0, hz1, hcell, hfr⟩ := h8.out.cell hlt
      go_wp2
      go_roundw
      case rel => exact ⟨j + 1, by omega, by go_num, hide (h8.out.store j _ (by omega) (by omega)).1, hide (hg.out.trans (h8.out.store j _ (by omega) (by omega)).2)⟩
      case measure => simp [intOf]; omega
    · obtain rfl : n = j := by omega
      have HR := hide (HR4.out.keep fun b hb hlt => hg.out.block b hlt (by
        intro e
        have := (HW2.out.lt b e.symm).2
        omega))
      have HS := hide (HS4.out.keep fun b hb hlt => hg.out.block b hlt (by
        intro e
        have := (HW2.out.lt b e.symm).2
        have := HZ.out
        omega))
      have HB := hide (HB4.out.grown hg.out HB4.out.size (fun k hk => by
        have := (HW2.out.lt k hk).1
        have := HB1.out.size
        omega))
      have HG := hide (show w4.heap.size ≤ wr.heap.size from hg.out.size)
      clear HR4 HS4 HB4 hlt hj h8 hg
      go_wp2_with fail
      refine (bytes_yes_int _ gr l (n : Int) k _ HX.out HR.out (by rw [HLEN.out]; exact hk) (by omega)).mono ?_
      rintro e w6 ⟨Ap, cp, rfl, hpo, hrr, ht⟩
      have hgr := HR.out.own_lt
      have HS6 := hide (HS.out.touch ht (fun b hb => by have := HZ.out; omega))
      have HB6 := hide (HB.out.trans (ht.below HB.out.size (fun k hk e => by have := HB4s.out; have := HGR.out; omega)))
      have HG6 := hide (show w4.heap.size ≤ wr.heap.size ∧ wr.heap.size ≤ w6.heap.size from ⟨HG.out, ht.size⟩)
      have HR6 := hide hrr
      have HP6 := hide hpo
      clear HR HS HB HG hrr hpo ht hgr
      obtain ⟨wo, rfl⟩ : ∃ wo : World, wo = wr := ⟨_, rfl⟩
      go_wp2
      go_loopw [11] (fun i wq => ∃ j : Nat, j ≤ k ∧ i = .int .i64 j ∧ Hid (Some8 wq wo.heap.size Ap k cp) ∧ Hid (w6.grownBy wq (Value.slice Ap k cp).ownBlock)) (fun i _ => k - (intOf i).toNat)
      case atStart => exact ⟨0, Nat.zero_le _, rfl, hide ⟨l.take k, HO.out.take k, HP6.out⟩, hide (World.grownBy.refl _ _)⟩
      case round =>
        obtain ⟨j, hj, rfl, h8, hg⟩ := hrel
        by_cases hlt : j < k
        · obtain ⟨g, z, rfl, hz0, hz1, hcell, hfr⟩ := h8.out.cell hlt
          go_wp2
          go_roundw
          case rel => exact ⟨j + 1, by omega, by go_num, hide (h8.out.store j _ (by omega) (by omega)).1, hide (hg.out.trans (h8.out.store j _ (by omega) (by omega)).2)⟩
          case measure => simp [intOf]; omega
        · obtain rfl : k = j := by omega
          have HR := hide (HR6.out.keep fun b hb hlt => hg.out.block b hlt (by
            intro e
            have := (HP6.out.lt b e.symm).1
            have := HG6.out
            have := HZ.out
            omega))
          have HS := hide (HS6.out.keep fun b hb hlt => hg.out.block b hlt (by
            intro e
            have := (HP6.out.lt b e.symm).1
            have := HG6.out
            omega))
          have HB := hide (HB6.out.grown hg.out HB6.out.size (fun k hk => by
            have := (HP6.out.lt k hk).1
            have := HG6.out
            have := HB4s.out
            have := HZ.out
            omega))
          have HG := hide (show w4.heap.size ≤ wr.heap.size by have := hg.out.size; have := HG6.out; omega)
          clear HR6 HS6 HB6 HG6 HP6 hlt hj h8 hg
          go_wp2_with fail
          refine (bytes_yes_int _ gs l (n : Int) k _ HX.out HS.out (by rw [HLEN.out]; exact hk) (by omega)).mono ?_
          rintro e w7 ⟨Aq, cq, rfl, hqo, hss, ht⟩
          have hgs := HS.out.own_lt
          have hgr := HR.out.own_lt
          have HGS := hide hgs
          have HGQ := hide hgr
          have HR7 := hide (HR.out.touch ht (fun b hb => by have := HZ.out; omega))
          have HB7 := hide (HB.out.trans (ht.below HB.out.size (fun k hk e => by have := HB4s.out; have := HZ.out; omega)))
          have HG7 := hide (show w4.heap.size ≤ w7.heap.size by have := HG.out; have := ht.size; omega)
          have HS7 := hide hss
          have HQ7 := hide ((Row.of_own hqo).mono (Q := fun b => w4.heap.size ≤ b) (fun b hb => by have := HG.out; omega))
          clear HR HS HB HG hss hqo ht hgs hgr
          go_wp2_with fail
          refine (left_rdr _ _ _ _ (((l.drop k).length : Nat) : Int) HR7.out rfl).mono ?_
          rintro e w' ⟨rfl, rfl⟩
          go_wp2_with fail
          refine (bytes_yes_int _ gr (l.drop k) _ (l.drop k).length _ (by simp) HR7.out (Nat.le_refl _) (by have := HLEN.out; simp; omega)).mono ?_
          rintro e w8 ⟨Ax, cx, rfl, hxo, -, ht⟩
          have HS8 := hide (HS7.out.touch ht (fun b hb => by have := HGQ.out; omega))
          have HB8 := hide (HB7.out.trans (ht.below HB7.out.size (fun k hk e => by have := HB4s.out; have := HZ.out; have := HGQ.out; omega)))
          have HG8 := hide (show w4.heap.size ≤ w8.heap.size by have := HG7.out; have := ht.size; omega)
          have HQ8 := hide (HQ7.out.touch ht (fun b hb _ => by have := HGQ.out; have := HZ.out; omega))
          have HX8 := hide ((Row.of_own hxo).mono (Q := fun b => w4.heap.size ≤ b) (fun b hb => by have := HG7.out; omega))
          clear HR7 HS7 HB7 HG7 HQ7 hxo ht
          go_wp2_with fail
          refine (left_rdr _ _ _ _ (((l.drop k).length : Nat) : Int) HS8.out rfl).mono ?_
          rintro e w' ⟨rfl, rfl⟩
          go_wp2_with fail
          refine (bytes_yes_int _ gs (l.drop k) _ (l.drop k).length _ (by simp) HS8.out (Nat.le_refl _) (by have := HLEN.out; simp; omega)).mono ?_
          rintro e w9 ⟨Ay, cy, rfl, hyo, -, ht⟩
          have HB9 := hide (HB8.out.trans (ht.below HB8.out.size (fun k hk e => by have := HB4s.out; have := HZ.out; have := HGS.out; omega)))
          have HG9 := hide (show w4.heap.size ≤ w9.heap.size by have := HG8.out; have := ht.size; omega)
          have HQ9 := hide (HQ8.out.touch ht (fun b hb _ => by have := HGS.out; omega)).within
          have HX9 := hide (HX8.out.touch ht (fun b hb _ => by have := HGS.out; omega)).within
          have HY9 := hide ((Row.of_own hyo).mono (Q := fun b => w4.heap.size ≤ b) (fun b hb => by have := HG8.out; omega)).within
          clear HS8 HB8 HG8 HQ8 HX8 hyo ht
          go_wp2_with fail
          refine (take_nil _ _).mono ?_
          rintro e w' ⟨rfl, rfl⟩
          go_wp2_with fail
          refine (bytes_bad w9.heap.size _ _ (Blk.new _ _ _)).mono ?_
          rintro e w10 ⟨rfl, hbd, ht⟩
          have hz9 : ∀ b : Nat, b < w9.heap.size → w10.heap[b]? = w9.heap[b]? := fun b hb => (ht.block b (by simp; omega) (by omega)).trans (Below.heap_alloc w9 _ b hb)
          have hbl : Below w.heap.size w w10 := HB9.out.trans (((Below.refl _ w9).alloc HB9.out.size _).trans (ht.below (by have := HB9.out.size; simp; omega) (fun k hk e => by have := HB9.out.size; omega)))
          have hA : Row w10 (· < w.heap.size) A n c (octs l) := H.out.below hbl (fun b hb _ => hb)
          have hq := HQ9.out.keep (w' := w10) (fun b hb _ => hz9 b hb.2)
          have hx := HX9.out.keep (w' := w10) (fun b hb _ => hz9 b hb.2)
          have hy := HY9.out.keep (w' := w10) (fun b hb _ => hz9 b hb.2)
          rw [List.take_length, List.length_drop] at hx hy
          have hs1 : ∀ k', (convert 22 9 (.slice Ax (l.length - k) cx)).run Try.prog (w10.drewN k') = .ok (.string (strOfNums (l.drop k))) (w10.drewN k') := fun k' => conv_row (show Row (w10.drewN k') _ _ _ _ _ from hx)
          have hs2 : ∀ k', (convert 22 9 (.slice Ay (l.length - k) cy)).run Try.prog (w10.drewN k') = .ok (.string (strOfNums (l.drop k))) (w10.drewN k') := fun k' => conv_row (show Row (w10.drewN k') _ _ _ _ _ from hy)
          have hs3 : ∀ k', (convert 22 9 (.slice Aq k cq)).run Try.prog (w10.drewN k') = .ok (.string (strOfNums (l.take k))) (w10.drewN k') := fun k' => conv_row (show Row (w10.drewN k') _ _ _ _ _ from hq)
          have hf := hA.front (k := k) hk
          rw [octs_take] at hf
          have hs4 : ∀ k', (convert 22 9 (.slice A k c)).run Try.prog (w10.drewN k') = .ok (.string (strOfNums (l.take k))) (w10.drewN k') := fun k' => conv_row (show Row (w10.drewN k') _ _ _ _ _ from hf)
          have hs5 : ∀ W, (Instr.slice 22 (.slice A n c) none (some (.int .i64 (k : Int))) none).run Try.prog W = .ok (.slice A k c) W := fun W => front_run W A n c k (Nat.le_trans hk hA.2.1)
          have HD := hide hbd
          have HBL := hide hbl
          have q1 := fun k' : Nat => hide (quiet_same (n := k') (bad_nil (w10.drewN k')))
          have q2 := fun k' : Nat => hide (quiet_same (n := k') (bad_any (w10.drewN k') w9.heap.size _ false hbd))
          have q3 := fun k' : Nat => hide (quiet_same (n := k') (left_nil (w10.drewN k')))
          have q4 := fun k' : Nat => hide (quiet_same (n := k') (done_nil (w10.drewN k')))
          have q5 := fun k' : Nat => hide (quiet_same (n := k') (done_bad (w10.drewN k') w9.heap.size hbd))
          clear hbd hbl hA hq hx hy hf ht hz9 HQ9 HX9 HY9 HB9
          generalize strOfNums (l.drop k) = S at *
          generalize strOfNums (l.take k) = T at *
          generalize w9.heap.size = go at *
          go_wp2_with fail
          go_quiet ((first | (with_reducible exact (q1 _).out) | (with_reducible exact (q2 _).out) | (with_reducible exact (q3 _).out) | (with_reducible exact (q4 _).out) | (with_reducible exact (q5 _).out)))
          go_wp2
          go_ret
          exact ⟨rfl, below_drewN HBL.out nq⟩

theorem own_walk (A : Option Addr) (n c : Nat) (l : List Int) (q : Int) (w : World) (h : Row w (· < w.heap.size) A n c (octs l)) (ho : Octs l) (hn : n ≤ 140737488355000) :
    Calls Try.prog 4 #[.slice A n c, .int .i64 q] w fun e w' => e = .returned (.bool true) ∧ Below w.heap.size w w' := by
  by_cases h0 : q < 0
  · exact own_low A n c l q 0 w h ho hn h0 rfl (Nat.zero_le _)
  · by_cases h1 : (n : Int) < q
    · exact own_high A n c l q n w h ho hn h1 rfl (Nat.le_refl _)
    · exact own_mid A n c l q q.toNat w h ho hn (by omega) (by omega) (by omega) (by omega)
end Go.Proofs.Ythielpjjbhiobaa
