/-
  The walk of WalNobody.
-/
import Derived.Test.YthoedknnchaiaaaWalAlive
import Derived.Test.YthoedknnchaiaaaWalRefX
import Derived.Test.YthoedknnchaiaaaNear
namespace Go.Proofs.Ythoedknnchaiaaa
open Go.RowKit
set_option linter.unusedVariables false

theorem dead_three : (((Dk.fresh 3).arm 0).write 0 (zs 32)).dead = true := by
  have e1 : (Dk.fresh 3).arm 0 = ⟨List.replicate (32 * 3) 0, 0, false, 0⟩ := by unfold Dk.arm; rw [if_neg (by decide)]; rfl
  rw [e1]
  unfold Dk.write
  rw [if_pos ⟨⟨by omega, by simp, rfl⟩, zs_len 32⟩]
  rfl
/-- What Open answers of a new disk of N sectors. -/
theorem open_fresh {Q : Nat → Prop} {d N : Nat} (w : World) (hN : N ≤ 40) (h : DskL w Q d (Dk.fresh N)) :
    Calls Try.prog 21 #[.pointer (some ⟨d, 0, none⟩)] w fun e w' => ∃ v, e = .returned (.tuple #[v, .bool (decide (3 ≤ (N : Int)) && decide ((N : Int).tmod 2 = 1))]) ∧ Touch Q w w' := by
  have hm : (N : Int).tmod 2 = ((N % 2 : Nat) : Int) := by rw [Int.tmod_eq_emod_of_nonneg (by omega)]; omega
  rw [hm]
  by_cases hc : 3 ≤ N ∧ N % 2 = 1
  · obtain ⟨s, hs⟩ : ∃ s, N = 2 * s + 1 := ⟨N / 2, by omega⟩
    subst hs
    refine (wopen_any (s := s) w h (Dk.ok_fresh (by omega)) (by omega) rfl (.inl (by show (-1 : Int) < 0; omega))).mono ?_
    rintro e w' ⟨l, P', Q', rfl, h1, h2, h3, h4, h5, ht⟩
    refine ⟨.pointer (some ⟨l, 0, none⟩), ?_, ht⟩
    rw [decide_eq_true (show 3 ≤ (((2 * s + 1 : Nat)) : Int) by omega), decide_eq_true (show ((((2 * s + 1) % 2 : Nat)) : Int) = 1 by omega)]
    rfl
  · refine (wopen_no w h (Dk.ok_fresh (by omega)) (.inr (by omega))).mono ?_
    rintro e w' ⟨rfl, hb⟩
    refine ⟨.pointer none, ?_, (Touch.of_below hb).mono fun _ _ h => h.elim⟩
    have : (decide (3 ≤ (N : Int)) && decide (((N % 2 : Nat) : Int) = 1)) = false := by
      rw [Bool.and_eq_false_iff]
      by_cases h3 : 3 ≤ N
      · exact .inr (decide_eq_false (by omega))
      · exact .inl (decide_eq_false (by omega))
    rw [this]

set_option maxHeartbeats 4000000 in
set_option maxRecDepth 100000 in
theorem walnobody_walk (n : Int) (A : Option Addr) (nb cb : Nat) (w : World) (hn : I64' n) :
    Calls Try.prog 7 #[.int .i64 n, .slice A nb cb] w fun e w' => e = .returned (.bool true) ∧ Below w.heap.size w w' := by
  have hnn := near_in (n := n) (show (0 : Int) ≤ 40 by omega)
  obtain ⟨N, hN⟩ : ∃ N : Nat, near n 0 40 = (N : Int) := ⟨(near n 0 40).toNat, by omega⟩
  have hN4 : N ≤ 40 := by omega
  have hNN : (near (N : Int) 0 256).toNat = N := by unfold near; split <;> (try split) <;> omega
  have h33 : (near 3 0 256).toNat = 3 := by decide
  have HNN := hide hNN
  have H33 := hide h33
  have HD3 := hide dead_three
  obtain ⟨Z, hZ1, hZ2, hZ3⟩ := make_zs 32 (by omega)
  have HZ := hide (And.intro hZ1 hZ2)
  have hmk : ∀ W : World, (Instr.makeSlice 32 (.int .i64 32) (.int .i64 32)).run Try.prog W = .ok (.slice (some ⟨W.heap.size, 0, none⟩) 32 32) (W.alloc (.cells Z 5)) := hZ3
  clear hnn hNN h33 hZ1 hZ2 hZ3
  go_enter Try.func7, Try.ntmps7
  go_wp2_with fail
  refine (alive12 _).mono ?_
  rintro e w1 ⟨rfl, hb1⟩
  have HB1 := hide hb1
  have HG := hide (oddl_new w1)
  clear hb1
  go_wp2_with fail
  refine (near_any n 0 40 _).mono ?_
  rintro e w' ⟨rfl, rfl⟩
  rw [hN]
  have HB2 := hide (HB1.out.alloc HB1.out.size (.cells oddLCells 57))
  go_wp2_with fail
  refine (dlnew_any (N : Int) _ (by unfold I64'; omega)).mono ?_
  rintro e w3 ⟨d, Q, rfl, hd, hq, hb3⟩
  rw [HNN.out] at hd
  have hs3 := hb3.size
  have HG3 := hide (oddl_keep HG.out (w' := w3) (hb3.block _ (oddl_lt HG.out)))
  have HB3 := hide (HB2.out.trans (hb3.mono HB2.out.size))
  have HQ := hide hq
  have HD := hide hd
  have HGQ := hide (show ¬ Q w1.heap.size from fun h => Nat.lt_irrefl _ (Nat.lt_of_lt_of_le (oddl_lt HG.out) (hq _ h)))
  have HQB := hide (show ∀ b, Q b → w.heap.size ≤ b from fun b h => Nat.le_trans HB2.out.size (hq b h))
  clear hd hq hb3 hs3 HG HB2
  go_wp2_with fail
  refine (open_fresh _ hN4 HD.out).mono ?_
  rintro e w4 ⟨v4, rfl, ht4⟩
  have HG4 := hide (oddl_keep HG3.out (w' := w4) (ht4.block _ (oddl_lt HG3.out) HGQ.out))
  have HB4 := hide (HB3.out.trans (touch_base ht4 HB3.out.size HQB.out))
  clear ht4 HG3 HB3 HQ HGQ HQB HD
  go_wp2_with fail
  refine (wopen_nil _).mono ?_
  rintro e w5 ⟨rfl, hb5⟩
  have HG5 := hide (oddl_keep HG4.out (w' := w5) (hb5.block _ (oddl_lt HG4.out)))
  have HB5 := hide (HB4.out.trans (hb5.mono HB4.out.size))
  clear hb5 HG4 HB4
  go_wp2_with fail
  refine (dlnew_any 3 _ (by unfold I64'; omega)).mono ?_
  rintro e w6 ⟨g, R, rfl, hd, hq, hb6⟩
  rw [H33.out] at hd
  have HG6 := hide (oddl_keep HG5.out (w' := w6) (hb6.block _ (oddl_lt HG5.out)))
  have HB6 := hide (HB5.out.trans (hb6.mono HB5.out.size))
  have HR6 := hide (show ∀ b, R b → w.heap.size ≤ b ∧ b ≠ w1.heap.size from fun b h => by have := hq b h; have := HB5.out.size; have := oddl_lt HG5.out; omega)
  have HD6 := hide hd
  clear hd hq hb6 HG5 HB5
  go_wp2_with fail
  refine (dlarm_any 0 _ HD6.out (Dk.ok_fresh (by omega)) (by unfold I64'; omega)).mono ?_
  rintro e w7 ⟨rfl, R7, hd, hq, ht7⟩
  have hs7 := ht7.size
  have HG7 := hide (oddl_keep HG6.out (w' := w7) (ht7.block _ (oddl_lt HG6.out) fun h => (HR6.out _ h).2 rfl))
  have HB7 := hide (HB6.out.trans (touch_base ht7 HB6.out.size fun b hb => (HR6.out b hb).1))
  have HR7 := hide (show ∀ b, R7 b → w.heap.size ≤ b ∧ b ≠ w1.heap.size from fun b h => by
    rcases hq b h with h | h
    · exact HR6.out b h
    · have := HB6.out.size; have := oddl_lt HG6.out; omega)
  have HD7 := hide hd
  clear hd hq ht7 hs7 HG6 HB6 HR6 HD6
  have hrz := row_zs (Blk.new w7 5 Z) HZ.out.1 HZ.out.2 (by omega)
  have hl7 := dskl_lt HD7.out
  have hw7 : Below w7.heap.size w7 (w7.alloc (.cells Z 5)) := (Below.refl _ _).alloc (Nat.le_refl _) _
  have HWR := hide (dlwrite_any 0 (some ⟨w7.heap.size, 0, none⟩) 32 32 (zs 32) _ (dskl_keep HD7.out (w' := w7.alloc (.cells Z 5)) fun b _ hb => hw7.block b hb) (Dk.ok_arm (Dk.ok_fresh (m := 3) (by omega)) (by omega)) (by unfold I64'; omega) hrz (zs_octs _) (fun b hb _ h => by have := hl7 b h; omega))
  have HG7' := hide (oddl_keep HG7.out (w' := w7.alloc (.cells Z 5)) (hw7.block _ (oddl_lt HG7.out)))
  have HB7' := hide (HB7.out.trans (hw7.mono HB7.out.size))
  clear hrz hl7 hw7
  go_wp2_with fail
  refine HWR.out.mono ?_
  rintro e w8 ⟨rfl, R8, hd, hq, ht8⟩
  have HG8 := hide (oddl_keep HG7'.out (w' := w8) (ht8.block _ (oddl_lt HG7'.out) fun h => (HR7.out _ h).2 rfl))
  have HB8 := hide (HB7'.out.trans (touch_base ht8 HB7'.out.size fun b hb => (HR7.out b hb).1))
  have HD8 := hide hd
  clear hd hq ht8 HG7 HB7 HG7' HB7' HR7 HD7 HWR
  go_wp2_with fail
  refine (wopen_no _ HD8.out (Dk.ok_write (Dk.ok_arm (Dk.ok_fresh (m := 3) (by omega)) (by omega)) 0 (zs_octs _)) (.inl HD3.out)).mono ?_
  rintro e w9 ⟨rfl, hb9⟩
  have HG9 := hide (oddl_keep HG8.out (w' := w9) (hb9.block _ (oddl_lt HG8.out)))
  have HB9 := hide (HB8.out.trans (hb9.mono HB8.out.size))
  clear hb9 HG8 HB8 HD8
  have hr0 := Since.refl w9
  go_wp2_with fail
  all_goals refine (wnil_append _ _ _ _).mono ?_
  all_goals rintro e w10 ⟨rfl, hb10⟩
  all_goals have HG10 := hide (oddl_keep HG9.out (w' := w10) (hb10.block _ (oddl_lt HG9.out)))
  all_goals have HB10 := hide (HB9.out.trans (hb10.mono HB9.out.size))
  all_goals clear hb10 HG9 HB9
  all_goals go_wp2_with fail
  all_goals refine (wodd_append _ _ _ _ HG10.out).mono ?_
  all_goals rintro e w11 ⟨rfl, hb11⟩
  all_goals have HG11 := hide (oddl_keep HG10.out (w' := w11) (hb11.block _ (oddl_lt HG10.out)))
  all_goals have HB11 := hide (HB10.out.trans (hb11.mono HB10.out.size))
  all_goals clear hb11 HG10 HB10
  all_goals go_wp2_with fail
  all_goals refine (wnil_sync _).mono ?_
  all_goals rintro e w12 ⟨rfl, hb12⟩
  all_goals have HG12 := hide (oddl_keep HG11.out (w' := w12) (hb12.block _ (oddl_lt HG11.out)))
  all_goals have HB12 := hide (HB11.out.trans (hb12.mono HB11.out.size))
  all_goals clear hb12 HG11 HB11
  all_goals go_wp2_with fail
  all_goals refine (wodd_swap _ _ _ _ HG12.out).mono ?_
  all_goals rintro e w13 ⟨rfl, hb13⟩
  all_goals have HG13 := hide (oddl_keep HG12.out (w' := w13) (hb13.block _ (oddl_lt HG12.out)))
  all_goals have HB13 := hide (HB12.out.trans (hb13.mono HB12.out.size))
  all_goals clear hb13 HG12 HB12
  all_goals go_wp2_with fail
  all_goals refine (wnil_room _).mono ?_
  all_goals rintro e w14 ⟨rfl, hb14⟩
  all_goals have HG14 := hide (oddl_keep HG13.out (w' := w14) (hb14.block _ (oddl_lt HG13.out)))
  all_goals have HB14 := hide (HB13.out.trans (hb14.mono HB13.out.size))
  all_goals clear hb14 HG13 HB13
  all_goals go_wp2_with fail
  all_goals refine (wnil_records _).mono ?_
  all_goals intro e w15 hrec
  all_goals obtain ⟨A15, c15, rfl, -, hb15⟩ := hrec.parts
  all_goals have HG15 := hide (oddl_keep HG14.out (w' := w15) (hb15.block _ (oddl_lt HG14.out)))
  all_goals have HB15 := hide (HB14.out.trans (hb15.mono HB14.out.size))
  all_goals clear hb15 HG14 HB14
  all_goals go_wp2_with fail
  all_goals refine (wnil_durable _).mono ?_
  all_goals rintro e w16 ⟨rfl, hb16⟩
  all_goals have HG16 := hide (oddl_keep HG15.out (w' := w16) (hb16.block _ (oddl_lt HG15.out)))
  all_goals have HB16 := hide (HB15.out.trans (hb16.mono HB15.out.size))
  all_goals clear hb16 HG15 HB15
  all_goals go_wp2_with fail
  all_goals refine (wodd_pending _ HG16.out).mono ?_
  all_goals rintro e w17 ⟨rfl, hb17⟩
  all_goals have HG17 := hide (oddl_keep HG16.out (w' := w17) (hb17.block _ (oddl_lt HG16.out)))
  all_goals have HB17 := hide (HB16.out.trans (hb17.mono HB16.out.size))
  all_goals clear hb17 HG16 HB16
  all_goals go_wp2_with fail
  all_goals refine (wnil_disk _).mono ?_
  all_goals rintro e w18 ⟨rfl, hb18⟩
  all_goals have HG18 := hide (oddl_keep HG17.out (w' := w18) (hb18.block _ (oddl_lt HG17.out)))
  all_goals have HB18 := hide (HB17.out.trans (hb18.mono HB17.out.size))
  all_goals clear hb18 HG17 HB17
  all_goals go_wp2_with fail
  all_goals refine (wodd_disk _ HG18.out).mono ?_
  all_goals rintro e w19 ⟨rfl, hb19⟩
  all_goals have HG19 := hide (oddl_keep HG18.out (w' := w19) (hb19.block _ (oddl_lt HG18.out)))
  all_goals have HB19 := hide (HB18.out.trans (hb19.mono HB18.out.size))
  all_goals clear hb19 HG18 HB18
  all_goals go_wp2
  all_goals go_ret
  all_goals exact ⟨by first | rfl | simp, HB19.out⟩
end Go.Proofs.Ythoedknnchaiaaa
