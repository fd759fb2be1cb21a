/-
  The walk of DiskClones.
-/
import Derived.Test.YtcdllbjhcjpleaaDiskPair
import Derived.Test.YtcdllbjhcjpleaaApp
import Derived.Test.YtcdllbjhcjpleaaAppE
import Derived.Deep.DeepCutAuto
import Derived.Deep.Cut
import Derived.Deep.CutRange
namespace Go.Proofs.Ytcdllbjhcjpleaa
open Go.RowKit
set_option linter.unusedVariables false

/-- A second disk and its octets were made: k stands behind both. -/
def Twin (k : Dk) (w w' : World) (e2 g2 : Value) : Prop :=
  ∃ S d g a c, e2 = .pointer (some ⟨d, 0, none⟩) ∧ g2 = .pointer (some ⟨g, 0, none⟩) ∧ PairS S d g a c k w' ∧ (∀ n, S n → w.heap.size ≤ n) ∧ Since w w'

set_option maxHeartbeats 4000000 in
set_option maxRecDepth 10000 in
theorem diskclones_walk (n : Int) (A1 : Option Addr) (n1 c1 : Nat) (l1 : List DOp) (A2 : Option Addr) (n2 c2 : Nat) (l2 : List DOp) (A3 : Option Addr) (n3 c3 : Nat) (l3 : List DOp) (w : World) (hl1 : DOps w (· < w.heap.size) A1 n1 c1 l1) (hl2 : DOps w (· < w.heap.size) A2 n2 c2 l2) (hl3 : DOps w (· < w.heap.size) A3 n3 c3 l3) :
    Calls Try.prog 4 #[.int .i64 n, .slice A1 n1 c1, .slice A2 n2 c2, .slice A3 n3 c3] w fun e w' => e = .returned (.bool true) ∧ Below w.heap.size w w' := by
  have hb := near_in (n := n) (show (0 : Int) ≤ 20 by omega)
  obtain ⟨m, hm⟩ : ∃ m : Nat, near n 0 20 = (m : Int) := ⟨(near n 0 20).toNat, by omega⟩
  have hm20 : m ≤ 20 := by omega
  have hmm : near (m : Int) 0 256 = (m : Int) := by unfold near; rw [if_neg (by omega), if_neg (by omega)]
  have HL1 := hide hl1
  have HL2 := hide hl2
  have HL3 := hide hl3
  have HC1 := hide (show n1 ≤ c1 ∧ c1 ≤ 9223372036854775807 from ⟨hl1.1.2.1, hl1.1.2.2.1⟩)
  have HC2 := hide (show n2 ≤ c2 ∧ c2 ≤ 9223372036854775807 from ⟨hl2.1.2.1, hl2.1.2.2.1⟩)
  have HC3 := hide (show n3 ≤ c3 ∧ c3 ≤ 9223372036854775807 from ⟨hl3.1.2.1, hl3.1.2.2.1⟩)
  have HMM := hide hmm
  have HOK0 := hide (Dk.ok_fresh (m := m) (by omega))
  clear hb hmm hl1 hl2 hl3
  go_enter Try.func4, Try.ntmps4
  go_wp2_with fail
  refine (alive11 _).mono ?_
  rintro e w1 ⟨rfl, hb1⟩
  have HB1 := hide hb1
  clear hb1
  go_wp2_with fail
  refine (near_any n 0 20 _).mono ?_
  rintro e w' ⟨rfl, rfl⟩
  rw [hm]
  go_wp2_with fail
  refine (dnew_any (m : Int) _ ⟨by omega, by omega⟩).mono ?_
  rintro e w2 ⟨d, P, rfl, hd, hp, hb2⟩
  rw [HMM.out, Int.toNat_natCast] at hd
  have HB2 := hide (HB1.out.trans (hb2.mono HB1.out.size))
  have HD2 := hide hd
  have HP2 := hide (show ∀ n, P n → w.heap.size ≤ n from fun n hn => Nat.le_trans HB1.out.size (hp n hn))
  clear hd hp hb2
  go_wp2_with fail
  refine (begin_any (m : Int) m _ HMM.out (by omega)).mono ?_
  rintro e w3 ⟨g, a, cur, rfl, hg, ha, hbk, hb3⟩
  have HB3 := hide (HB2.out.trans (hb3.mono HB2.out.size))
  have hPl := dsk_lt HD2.out
  have HP3 := hide (show PairS (fun n => w.heap.size ≤ n ∧ n < w3.heap.size) d g a (32 * m) (Dk.fresh m) w3 from
    ⟨P, cur, ⟨dsk_keep HD2.out fun b _ hb => hb3.block b hb, hbk⟩, fun n hn => ⟨HP2.out n hn, Nat.lt_of_lt_of_le (hPl n hn) hb3.size⟩, fun h => by have := hPl _ h; omega, fun h => by have := hPl _ h; omega, ⟨Nat.le_trans HB2.out.size hg, hbk.1.lt⟩, ⟨Nat.le_trans HB2.out.size ha, hbk.2.1.lt⟩, fun n hn => hn.2⟩)
  clear hg ha hbk hb3 hPl HD2 HP2
  go_wp2_with fail
  refine (few11_any A1 n1 c1 _ HC1.out.1 HC1.out.2).mono ?_
  rintro e w' ⟨rfl, rfl⟩
  go_wp2_with fail
  refine (HP3.out.run HOK0.out A1 (min n1 50) c1 _ (DOps.front (k := min n1 50) (HL1.out.keep (w' := w3) fun b hb hlt => HB3.out.block b hlt) (by omega)) (fun b hb _ hs => by omega)).mono ?_
  rintro e w4 ⟨rfl, S4, hp4, hs4, ht4⟩
  have HB4 := hide (show Below w.heap.size w w4 from HB3.out.trans (ht4.below HB3.out.size fun n hn h => by omega))
  have hok4 := ok_run HOK0.out (l1.take (min n1 50)) (w := w) (Q := (· < w.heap.size)) fun o ho => HL1.out.2 o (List.mem_of_mem_take ho)
  have HP4 := hide hp4
  have HS4 := hide (show ∀ n, S4 n → w.heap.size ≤ n from fun n hn => (hs4 n hn).elim (fun h => h.1) fun h => Nat.le_trans HB3.out.size h)
  have HOK4 := hide hok4
  clear hp4 hs4 ht4 hok4 HP3 HOK0
  generalize (Dk.fresh m).run (l1.take (min n1 50)) = k at *
  go_upto_region 7 with fail
  go_cut [11, 12] (fun s11 s12 wx => Hid (Twin k w4 wx s11 s12))
  case first =>
    obtain ⟨P, cur, h1, h2, h3, h4, h5, h6, h7⟩ := HP4.out
    have PC := hide (fun (w' : World) (h : Since w4 w') => dclone_any w' (Told.later h1 h).1 HOK4.out)
    have y0 : ∀ w', Since w4 w' → w'.cell? ⟨g, 0, none⟩ = some (.slice (some ⟨a, 0, none⟩) k.b.length (32 * m)) := fun w' h => Told.c0 (Told.later h1 h)
    have y1 : ∀ w', Since w4 w' → w'.cell? ⟨g, 1, none⟩ = some (.int .i64 k.fuel) := fun w' h => ((Told.later h1 h).2.1.cell 1).trans rfl
    have y2 : ∀ w', Since w4 w' → w'.cell? ⟨g, 2, none⟩ = some (.bool k.dead) := fun w' h => Told.c2 (Told.later h1 h)
    have y3 : ∀ w', Since w4 w' → w'.cell? ⟨g, 3, none⟩ = some (.int .i64 k.written) := fun w' h => Told.c3 (Told.later h1 h)
    have HROW := hide (fun (w' : World) (h : Since w4 w') => (Told.later h1 h).2.row)
    have HL8 := hide (show k.b.length ≤ 8192 by have := HOK4.out.1; have := HOK4.out.2.1; omega)
    have TW := hide (fun (d2 gX aA capA : Nat) (P2 : Nat → Prop) (curA : Array Value) (wF : World) (hd2 : Dsk wF P2 d2 k) (hP4 : ∀ n, P2 n → w4.heap.size ≤ n) (hPx : ¬ P2 gX) (hPa : ¬ P2 aA) (hX : Blk wF gX 35 #[.slice (some ⟨aA, 0, none⟩) k.b.length capA, .int .i64 k.fuel, .bool k.dead, .int .i64 k.written]) (hA : Blk wF aA 5 curA) (hga : aA ≠ gX) (h3 : k.b.length ≤ capA) (h4 : capA ≤ 9223372036854775807) (h5 : curA.size = capA) (h6 : curA.toList.take k.b.length = octs k.b) (ha1 : w4.heap.size ≤ aA) (hgx : w4.heap.size ≤ gX) (hs : Since w4 wF) =>
      show Hid (Twin k w4 wF (.pointer (some ⟨d2, 0, none⟩)) (.pointer (some ⟨gX, 0, none⟩))) from
      ⟨fun n => P2 n ∨ n = gX ∨ n = aA, d2, gX, aA, capA, rfl, rfl, ⟨P2, curA, ⟨hd2, hX, hA, hga, h3, h4, h5, h6⟩, fun n hn => .inl hn, hPx, hPa, .inr (.inl rfl), .inr (.inr rfl), fun n hn => by
        rcases hn with h | rfl | rfl
        · exact dsk_lt hd2 n h
        · exact hX.lt
        · exact hA.lt⟩, fun n hn => by
        rcases hn with h | rfl | rfl
        · exact hP4 n h
        · exact hgx
        · exact ha1, hs⟩)
    have hr0 := (Since.refl w4).drew
    clear h1 h2 h3 h4 h5 h6 h7
    refine wp_region_held_drew (S := (fun w' => Since w4 w')) (by kernel_rfl) hr0 (fun hHeld => ?_)
    refine wpAnyH_taken (i := 0) (v := ?_) rfl rfl (by kernel_rfl) (by kernel_rfl) (by kernel_rfl) (fun _ _ _ h => h) (Or.inl ⟨by rfl, ?_⟩) (by assumption) ?_
    rotate_left 1
    · intro w hSw
      (try dsimp only at hSw)
      go_simp
      try with_reducible rfl
    simp only [List.setIfInBounds_toArray, List.set_cons_zero, List.set_cons_succ]
    refine wpAnyH_taken (i := 3) (v := ?_) rfl rfl (by kernel_rfl) (by kernel_rfl) (by kernel_rfl) (fun _ _ _ h => h) (Or.inl ⟨by rfl, ?_⟩) (by assumption) ?_
    rotate_left 1
    · intro w hSw
      (try dsimp only at hSw)
      go_simp
      try with_reducible rfl
    simp only [List.setIfInBounds_toArray, List.set_cons_zero, List.set_cons_succ]
    refine wpAnyH_taken (i := 4) (v := ?_) rfl rfl (by kernel_rfl) (by kernel_rfl) (by kernel_rfl) (fun _ _ _ h => h) (Or.inl ⟨by rfl, ?_⟩) (by assumption) ?_
    rotate_left 1
    · intro w hSw
      (try dsimp only at hSw)
      go_simp
      try with_reducible rfl
    simp only [List.setIfInBounds_toArray, List.set_cons_zero, List.set_cons_succ]
    refine wpAnyH_taken (i := 5) (v := ?_) rfl rfl (by kernel_rfl) (by kernel_rfl) (by kernel_rfl) (fun _ _ _ h => h) (Or.inl ⟨by rfl, ?_⟩) (by assumption) ?_
    rotate_left 1
    · intro w hSw
      (try dsimp only at hSw)
      go_simp
      try with_reducible rfl
    simp only [List.setIfInBounds_toArray, List.set_cons_zero, List.set_cons_succ]
    refine wpAnyH_taken (i := 6) (v := ?_) rfl rfl (by kernel_rfl) (by kernel_rfl) (by kernel_rfl) (fun _ _ _ h => h) (Or.inl ⟨by rfl, ?_⟩) (by assumption) ?_
    rotate_left 1
    · intro w hSw
      (try dsimp only at hSw)
      go_simp
      try with_reducible rfl
    simp only [List.setIfInBounds_toArray, List.set_cons_zero, List.set_cons_succ]
    refine wpAnyH_taken (i := 8) (v := ?_) rfl rfl (by kernel_rfl) (by kernel_rfl) (by kernel_rfl) (fun _ _ _ h => h) (Or.inl ⟨by rfl, ?_⟩) (by assumption) ?_
    rotate_left 1
    · intro w hSw
      (try dsimp only at hSw)
      go_simp
      try with_reducible rfl
    simp only [List.setIfInBounds_toArray, List.set_cons_zero, List.set_cons_succ]
    refine wpAnyH_taken (i := 9) (v := ?_) rfl rfl (by kernel_rfl) (by kernel_rfl) (by kernel_rfl) (fun _ _ _ h => h) (Or.inl ⟨by rfl, ?_⟩) (by assumption) ?_
    rotate_left 1
    · intro w hSw
      (try dsimp only at hSw)
      go_simp
      try with_reducible rfl
    simp only [List.setIfInBounds_toArray, List.set_cons_zero, List.set_cons_succ]
    refine wpAnyH_taken (i := 10) (v := ?_) rfl rfl (by kernel_rfl) (by kernel_rfl) (by kernel_rfl) (fun _ _ _ h => h) (Or.inl ⟨by rfl, ?_⟩) (by assumption) ?_
    rotate_left 1
    · intro w hSw
      (try dsimp only at hSw)
      go_simp
      try with_reducible rfl
    simp only [List.setIfInBounds_toArray, List.set_cons_zero, List.set_cons_succ]
    refine wpAnyH_taken (i := 11) (v := ?_) rfl rfl (by kernel_rfl) (by kernel_rfl) (by kernel_rfl) (fun _ _ _ h => h) (Or.inl ⟨by rfl, ?_⟩) (by assumption) ?_
    rotate_left 1
    · intro w hSw
      (try dsimp only at hSw)
      go_simp
      try with_reducible rfl
    simp only [List.setIfInBounds_toArray, List.set_cons_zero, List.set_cons_succ]
    refine wpAnyH_taken (i := 12) (v := ?_) rfl rfl (by kernel_rfl) (by kernel_rfl) (by kernel_rfl) (fun _ _ _ h => h) (Or.inl ⟨by rfl, ?_⟩) (by assumption) ?_
    rotate_left 1
    · intro w hSw
      (try dsimp only at hSw)
      go_simp
      try with_reducible rfl
    simp only [List.setIfInBounds_toArray, List.set_cons_zero, List.set_cons_succ]
    refine wpAnyH_taken (i := 13) (v := ?_) rfl rfl (by kernel_rfl) (by kernel_rfl) (by kernel_rfl) (fun _ _ _ h => h) (Or.inl ⟨by rfl, ?_⟩) (by assumption) ?_
    rotate_left 1
    · intro w hSw
      (try dsimp only at hSw)
      go_simp
      try with_reducible rfl
    simp only [List.setIfInBounds_toArray, List.set_cons_zero, List.set_cons_succ]
    refine wpAnyH_taken (i := 14) (v := ?_) rfl rfl (by kernel_rfl) (by kernel_rfl) (by kernel_rfl) (fun _ _ _ h => h) (Or.inl ⟨by rfl, ?_⟩) (by assumption) ?_
    rotate_left 1
    · intro w hSw
      (try dsimp only at hSw)
      go_simp
      try with_reducible rfl
    simp only [List.setIfInBounds_toArray, List.set_cons_zero, List.set_cons_succ]
    refine wpAnyH_taken (i := 15) (v := ?_) rfl rfl (by kernel_rfl) (by kernel_rfl) (by kernel_rfl) (fun _ _ _ h => h) (Or.inl ⟨by rfl, ?_⟩) (by assumption) ?_
    rotate_left 1
    · intro w hSw
      (try dsimp only at hSw)
      go_simp
      try with_reducible rfl
    simp only [List.setIfInBounds_toArray, List.set_cons_zero, List.set_cons_succ]
    refine wpAnyH_taken (i := 16) (v := ?_) rfl rfl (by kernel_rfl) (by kernel_rfl) (by kernel_rfl) (fun _ _ _ h => h) (Or.inl ⟨by rfl, ?_⟩) (by assumption) ?_
    rotate_left 1
    · intro w hSw
      (try dsimp only at hSw)
      go_simp
      try with_reducible rfl
    simp only [List.setIfInBounds_toArray, List.set_cons_zero, List.set_cons_succ]
    refine wpAnyH_taken (i := 17) (v := ?_) rfl rfl (by kernel_rfl) (by kernel_rfl) (by kernel_rfl) (fun _ _ _ h => h) (Or.inl ⟨by rfl, ?_⟩) (by assumption) ?_
    rotate_left 1
    · intro w hSw
      (try dsimp only at hSw)
      go_simp
      try with_reducible rfl
    simp only [List.setIfInBounds_toArray, List.set_cons_zero, List.set_cons_succ]
    refine wpAnyH_taken (i := 18) (v := ?_) rfl rfl (by kernel_rfl) (by kernel_rfl) (by kernel_rfl) (fun _ _ _ h => h) (Or.inl ⟨by rfl, ?_⟩) (by assumption) ?_
    rotate_left 1
    · intro w hSw
      (try dsimp only at hSw)
      go_simp
      try with_reducible rfl
    simp only [List.setIfInBounds_toArray, List.set_cons_zero, List.set_cons_succ]
    refine wpAnyH_taken (i := 19) (v := ?_) rfl rfl (by kernel_rfl) (by kernel_rfl) (by kernel_rfl) (fun _ _ _ h => h) (Or.inl ⟨by rfl, ?_⟩) (by assumption) ?_
    rotate_left 1
    · intro w hSw
      (try dsimp only at hSw)
      go_simp
      try with_reducible rfl
    simp only [List.setIfInBounds_toArray, List.set_cons_zero, List.set_cons_succ]
    generalize w4.drew = w5 at *
    refine wpAnyH_ready (rs := [1, 2]) (by kernel_rfl) (by simp) ?_
    refine AllReadyH.cons rfl (fun K hK => ?_) ?_
    · go_simp
      go_wp2_with (first | (go_at_call 12; refine (PC.out _ (by assumption)).mono ?_; rintro e wC ⟨d2, P2, rfl, hd2, hp2, hbC⟩))
      have hPq : ∀ n, P2 n → w4.heap.size ≤ n := fun n hn => Nat.le_trans (Below.size (show Below w4.heap.size w4 w5 from by assumption)) (hp2 n hn)
      refine hK.out _ _ ?_ (fun hHeld => ?_)
      · exact Since.next (by assumption) hbC
      clear hK K
      refine wpAnyH_ready (rs := [2]) (by kernel_rfl) (by simp) ?_
      refine AllReadyH.cons rfl (fun K hK => ?_) AllReadyH.nil
      go_simp
      have hge : w4.heap.size ≤ wC.heap.size := Below.size (show Below w4.heap.size w4 wC from by assumption)
      have hE := own_mono (World.ownsRow_lit (base := wC.heap.size) (e := 5) (size := 1) wC #[] 0 (Nat.le_refl _) (by unfold maxLen; omega) rfl) hge
      have hPg : ¬ P2 wC.heap.size := fun h => Nat.lt_irrefl _ (dsk_lt hd2 _ h)
      have hd2 := dsk_keep (w' := wC.alloc (.cells #[] 5)) hd2 fun b hb hlt => Below.heap_alloc wC _ b hlt
      have hgl : wC.heap.size < (wC.alloc (.cells #[] 5)).heap.size := by simp
      refine hK.out _ _ ?_ (fun hHeld => ?_)
      · exact Since.alloc (by assumption) _
      clear hK K
      generalize wC.alloc (.cells #[] 5) = wB at *
      generalize wC.heap.size = ge at *
      refine wpAnyH_ready (rs := [7]) (by kernel_rfl) (by simp) ?_
      refine AllReadyH.cons rfl (fun K hK => ?_) AllReadyH.nil
      obtain ⟨aA, capA, curA, wA, hrunA, ha1, hA, ha3, ha4, ha5, ha6, hgr, hor⟩ := append_empty hE (HROW.out _ (by assumption)) HL8.out (Below.size (show Below w4.heap.size w4 wB from by assumption)) 33
      rw [if_pos (by rfl)]
      refine append_op _ _ _ rfl rfl rfl rfl hrunA ?_
      simp only [List.setIfInBounds_toArray, List.set_cons_zero, List.set_cons_succ]
      refine hK.out _ _ ?_ (fun hHeld => ?_)
      · exact since_grown (by assumption) hgr hge
      clear hK K hrunA
      have hal := hA.lt
      have hPa : ¬ P2 aA := fun h => by
        rcases hor with e | e
        · exact hPg (e ▸ h)
        · have := dsk_lt hd2 _ h; omega
      have hd2 := dsk_keep hd2 fun b hb hlt => (Touch.of_grown hgr).block b hlt fun e => hPg (by injection e with e; exact e ▸ hb)
      refine wpAnyH_taken (i := 20) (v := ?_) rfl rfl (by kernel_rfl) (by kernel_rfl) (by kernel_rfl) (fun _ _ _ h => h) (Or.inl ⟨by rfl, ?_⟩) (by assumption) ?_
      rotate_left 1
      · intro w hSw
        (try dsimp only at hSw)
        go_simp
        try with_reducible rfl
      simp only [List.setIfInBounds_toArray, List.set_cons_zero, List.set_cons_succ]
      refine wpAnyH_taken (i := 22) (v := ?_) rfl rfl (by kernel_rfl) (by kernel_rfl) (by kernel_rfl) (fun _ _ _ h => h) (Or.inl ⟨by rfl, ?_⟩) (by assumption) ?_
      rotate_left 1
      · intro w hSw
        (try dsimp only at hSw)
        go_simp
        try with_reducible rfl
      simp only [List.setIfInBounds_toArray, List.set_cons_zero, List.set_cons_succ]
      refine wpAnyH_ready (rs := [21]) (by kernel_rfl) (by simp) ?_
      refine AllReadyH.cons rfl (fun K hK => ?_) AllReadyH.nil
      go_simp
      have hX := Blk.new wA 35 #[.slice (some ⟨aA, 0, none⟩) k.b.length capA, .int .i64 k.fuel, .bool k.dead, .int .i64 k.written]
      have hA := hA.alloc (.cells #[.slice (some ⟨aA, 0, none⟩) k.b.length capA, .int .i64 k.fuel, .bool k.dead, .int .i64 k.written] 35)
      have hga : aA ≠ wA.heap.size := Nat.ne_of_lt hal
      have hgx : w4.heap.size ≤ wA.heap.size := Below.size (show Below w4.heap.size w4 wA from by assumption)
      have hPx : ¬ P2 wA.heap.size := fun h => Nat.lt_irrefl _ (dsk_lt hd2 _ h)
      have hd2 := dsk_keep (w' := wA.alloc (.cells #[.slice (some ⟨aA, 0, none⟩) k.b.length capA, .int .i64 k.fuel, .bool k.dead, .int .i64 k.written] 35)) hd2 fun b hb hlt => Below.heap_alloc wA _ b hlt
      refine hK.out _ _ ?_ (fun hHeld => ?_)
      · exact Since.alloc (by assumption) _
      clear hK K
      generalize wA.alloc (.cells #[.slice (some ⟨aA, 0, none⟩) k.b.length capA, .int .i64 k.fuel, .bool k.dead, .int .i64 k.written] 35) = wX at *
      generalize wA.heap.size = gX at *
      refine wpAnyH_taken (i := 23) (v := ?_) rfl rfl (by kernel_rfl) (by kernel_rfl) (by kernel_rfl) (fun _ _ _ h => h) (Or.inl ⟨by rfl, ?_⟩) (by assumption) ?_
      rotate_left 1
      · intro w hSw
        (try dsimp only at hSw)
        go_simp
        try with_reducible rfl
      simp only [List.setIfInBounds_toArray, List.set_cons_zero, List.set_cons_succ]
      refine wpAnyH_done (by kernel_rfl) ?_ _
      go_wp2_with fail
      go_meet
      exact TW.out _ _ _ _ _ _ _ hd2 hPq hPx hPa hX hA hga ha3 ha4 ha5 ha6 ha1 hgx (by assumption)
    refine AllReadyH.cons rfl (fun K hK => ?_) AllReadyH.nil
    go_simp
    have hge : w4.heap.size ≤ w5.heap.size := Below.size (show Below w4.heap.size w4 w5 from by assumption)
    have hE := own_mono (World.ownsRow_lit (base := w5.heap.size) (e := 5) (size := 1) w5 #[] 0 (Nat.le_refl _) (by unfold maxLen; omega) rfl) hge
    have hgl : w5.heap.size < (w5.alloc (.cells #[] 5)).heap.size := by simp
    refine hK.out _ _ ?_ (fun hHeld => ?_)
    · exact Since.alloc (by assumption) _
    clear hK K
    generalize w5.alloc (.cells #[] 5) = wB at *
    generalize w5.heap.size = ge at *
    refine wpAnyH_ready (rs := [1]) (by kernel_rfl) (by simp) ?_
    refine AllReadyH.cons rfl (fun K hK => ?_) AllReadyH.nil
    go_simp
    go_wp2_with (first | (go_at_call 12; refine (PC.out _ (by assumption)).mono ?_; rintro e wC ⟨d2, P2, rfl, hd2, hp2, hbC⟩))
    have hPq : ∀ n, P2 n → w4.heap.size ≤ n := fun n hn => Nat.le_trans (Below.size (show Below w4.heap.size w4 wB from by assumption)) (hp2 n hn)
    refine hK.out _ _ ?_ (fun hHeld => ?_)
    · exact Since.next (by assumption) hbC
    clear hK K
    have hE := own_below hE hbC
    have hPg : ¬ P2 ge := fun h => by have := hp2 _ h; omega
    have hgl : ge < wC.heap.size := Nat.lt_of_lt_of_le hgl hbC.size
    refine wpAnyH_ready (rs := [7]) (by kernel_rfl) (by simp) ?_
    refine AllReadyH.cons rfl (fun K hK => ?_) AllReadyH.nil
    obtain ⟨aA, capA, curA, wA, hrunA, ha1, hA, ha3, ha4, ha5, ha6, hgr, hor⟩ := append_empty hE (HROW.out _ (by assumption)) HL8.out (Below.size (show Below w4.heap.size w4 wC from by assumption)) 33
    rw [if_pos (by rfl)]
    refine append_op _ _ _ rfl rfl rfl rfl hrunA ?_
    simp only [List.setIfInBounds_toArray, List.set_cons_zero, List.set_cons_succ]
    refine hK.out _ _ ?_ (fun hHeld => ?_)
    · exact since_grown (by assumption) hgr hge
    clear hK K hrunA
    have hal := hA.lt
    have hPa : ¬ P2 aA := fun h => by
      rcases hor with e | e
      · exact hPg (e ▸ h)
      · have := dsk_lt hd2 _ h; omega
    have hd2 := dsk_keep hd2 fun b hb hlt => (Touch.of_grown hgr).block b hlt fun e => hPg (by injection e with e; exact e ▸ hb)
    refine wpAnyH_taken (i := 20) (v := ?_) rfl rfl (by kernel_rfl) (by kernel_rfl) (by kernel_rfl) (fun _ _ _ h => h) (Or.inl ⟨by rfl, ?_⟩) (by assumption) ?_
    rotate_left 1
    · intro w hSw
      (try dsimp only at hSw)
      go_simp
      try with_reducible rfl
    simp only [List.setIfInBounds_toArray, List.set_cons_zero, List.set_cons_succ]
    refine wpAnyH_taken (i := 22) (v := ?_) rfl rfl (by kernel_rfl) (by kernel_rfl) (by kernel_rfl) (fun _ _ _ h => h) (Or.inl ⟨by rfl, ?_⟩) (by assumption) ?_
    rotate_left 1
    · intro w hSw
      (try dsimp only at hSw)
      go_simp
      try with_reducible rfl
    simp only [List.setIfInBounds_toArray, List.set_cons_zero, List.set_cons_succ]
    refine wpAnyH_ready (rs := [21]) (by kernel_rfl) (by simp) ?_
    refine AllReadyH.cons rfl (fun K hK => ?_) AllReadyH.nil
    go_simp
    have hX := Blk.new wA 35 #[.slice (some ⟨aA, 0, none⟩) k.b.length capA, .int .i64 k.fuel, .bool k.dead, .int .i64 k.written]
    have hA := hA.alloc (.cells #[.slice (some ⟨aA, 0, none⟩) k.b.length capA, .int .i64 k.fuel, .bool k.dead, .int .i64 k.written] 35)
    have hga : aA ≠ wA.heap.size := Nat.ne_of_lt hal
    have hgx : w4.heap.size ≤ wA.heap.size := Below.size (show Below w4.heap.size w4 wA from by assumption)
    have hPx : ¬ P2 wA.heap.size := fun h => Nat.lt_irrefl _ (dsk_lt hd2 _ h)
    have hd2 := dsk_keep (w' := wA.alloc (.cells #[.slice (some ⟨aA, 0, none⟩) k.b.length capA, .int .i64 k.fuel, .bool k.dead, .int .i64 k.written] 35)) hd2 fun b hb hlt => Below.heap_alloc wA _ b hlt
    refine hK.out _ _ ?_ (fun hHeld => ?_)
    · exact Since.alloc (by assumption) _
    clear hK K
    generalize wA.alloc (.cells #[.slice (some ⟨aA, 0, none⟩) k.b.length capA, .int .i64 k.fuel, .bool k.dead, .int .i64 k.written] 35) = wX at *
    generalize wA.heap.size = gX at *
    refine wpAnyH_taken (i := 23) (v := ?_) rfl rfl (by kernel_rfl) (by kernel_rfl) (by kernel_rfl) (fun _ _ _ h => h) (Or.inl ⟨by rfl, ?_⟩) (by assumption) ?_
    rotate_left 1
    · intro w hSw
      (try dsimp only at hSw)
      go_simp
      try with_reducible rfl
    simp only [List.setIfInBounds_toArray, List.set_cons_zero, List.set_cons_succ]
    refine wpAnyH_done (by kernel_rfl) ?_ _
    go_wp2_with fail
    go_meet
    exact TW.out _ _ _ _ _ _ _ hd2 hPq hPx hPa hX hA hga ha3 ha4 ha5 ha6 ha1 hgx (by assumption)
  case rest =>
    obtain ⟨T5, d2, g2, a2, c9, rfl, rfl, hp5, hs5, hsi⟩ := hcut.out
    have hS4 := HP4.out.lt
    have HPC := hide (HP4.out.later hsi)
    have HQC := hide hp5
    have HBC := hide (HB4.out.trans (Below.mono hsi HB4.out.size))
    have HDJ := hide (show (∀ n, S4 n → ¬ T5 n) ∧ (∀ n, T5 n → w.heap.size ≤ n) from ⟨fun n h1 h2 => by have := hS4 n h1; have := hs5 n h2; omega, fun n hn => Nat.le_trans HB4.out.size (hs5 n hn)⟩)
    clear hcut hp5 hs5 hsi hS4 HP4 HB1 HB2 HB3 HB4
    obtain ⟨P, cur, h1, h2, h3, h4, h5, h6, h7⟩ := HPC.out
    go_wp2_with fail
    refine (dall_any _ h1.1 HOK4.out).mono ?_
    rintro e w6 ⟨A6, c6, rfl, hown, hb6⟩
    have HLN := hide (show k.b.length ≤ 8192 by have := HOK4.out.1; have := HOK4.out.2.1; omega)
    generalize hLL : k.b.length = L at *
    have hinit := hide (show L = 0 ∨ ∃ b6 cur l', A6 = some ⟨b6, 0, none⟩ ∧ wc.heap.size ≤ b6 ∧ Blk w6 b6 5 cur ∧ L ≤ cur.size ∧ cur.toList.take L = octs l' ∧ l'.length = L from by
      rcases hown.2 with ⟨_, h⟩ | ⟨b6, cap, cur, hv, hb, hg, hn, hc, hs, ht⟩
      · exact .inl h
      · injection hv with hA _ _
        rw [Nat.mul_one] at ht hs
        exact .inr ⟨b6, cur, k.b, hA, hb, hg, by omega, ht, hLL⟩)
    have HB6 := hide hb6
    clear h1 h2 h3 h4 h5 h6 h7 hown hb6 hLL
    have hwc6 : wc.heap.size ≤ w6.heap.size := HB6.out.size
    go_wp2
    go_loopw [14] (fun s14 wr => ∃ i : Nat, i ≤ L ∧ s14 = .int .i64 i ∧ Hid (L = 0 ∨ ∃ b6 cur l', A6 = some ⟨b6, 0, none⟩ ∧ wc.heap.size ≤ b6 ∧ Blk wr b6 5 cur ∧ L ≤ cur.size ∧ cur.toList.take L = octs l' ∧ l'.length = L) ∧ Hid (Below wc.heap.size wc wr)) (fun s14 _ => L - (intOf s14).toNat)
    case atStart => exact ⟨0, Nat.zero_le _, rfl, hinit, HB6⟩
    case round =>
      obtain ⟨i, hi, rfl, hro, hbr⟩ := hrel
      have hLn := HLN.out
      by_cases hlt : i < L
      · obtain ⟨b6, cur6, l6, rfl, hb6, hk6, hc6, ht6, hl6⟩ := hro.out.resolve_left (by omega)
        have qc : wr.cell? ⟨b6, i, none⟩ = some (.int .u8 (l6.getD i 0)) := by
          have h := octs_at l6 i (by omega)
          rw [← ht6, List.getElem?_take, if_pos hlt] at h
          rw [hk6.cell i, ← h]
          simp
        have qf := hk6.frozen i
        obtain ⟨u, hu⟩ : ∃ u, IntKind.u8.wrap (l6.getD i 0 + 1) = u := ⟨_, rfl⟩
        have H1 := hide (show L = 0 ∨ ∃ b cur l', some (⟨b6, 0, none⟩ : Addr) = some ⟨b, 0, none⟩ ∧ wc.heap.size ≤ b ∧ Blk (wr.setCell ⟨b6, i, none⟩ (.int .u8 u)) b 5 cur ∧ L ≤ cur.size ∧ cur.toList.take L = octs l' ∧ l'.length = L from
          .inr ⟨b6, _, l6.set i u, rfl, hb6, hk6.store i (.int .u8 u), by rw [Array.size_setIfInBounds]; exact hc6, cur_set u ht6, by rw [List.length_set]; exact hl6⟩)
        have H2 := hide (hbr.out.setCell (p := ⟨b6, i, none⟩) hb6 (.int .u8 u))
        have hib : (i : Int) + 1 ≤ 9223372036854775807 := by omega
        generalize l6.getD i 0 = v at *
        clear hro hk6 ht6 hl6 hc6
        go_wp2
        go_round
        case rel => exact ⟨i + 1, by omega, by go_num, H1, H2⟩
        case measure => simp [intOf]; omega
      · obtain rfl : i = L := by omega
        obtain ⟨i5, hi5, hz0, hz1, hz2⟩ := info_parts info5
        have hmk := fun W => run_make (P := Try.prog) W 33 5 i5 (.int .u8 0) Try.underlying33 hi5 hz0 .i64 .i64 32 32 (by omega) (by omega) (by rw [hz2]; omega) (by omega)
        rw [hz1, show (32 : Int).toNat * 1 = 32 from rfl, show (32 : Int).toNat = 32 from rfl] at hmk
        obtain ⟨cur0, hcur0⟩ : ∃ cur, cur = madeCells #[.int .u8 0] 32 := ⟨_, rfl⟩
        have hmk' : ∀ W : World, (Instr.makeSlice 33 (.int .i64 32) (.int .i64 32)).run Try.prog W = .ok (.slice (some ⟨W.heap.size, 0, none⟩) 32 32) (W.alloc (.cells cur0 5)) := fun W => by rw [hcur0]; exact hmk W
        clear hmk hcur0 hi5 hz0 hz1 hz2 hro hinit hLn
        have I0 : I64' 0 := ⟨by omega, by omega⟩
        have I1 : I64' 1 := ⟨by omega, by omega⟩
        have J0 := hide I0
        have J1 := hide I1
        clear I0 I1
        go_wp2_with fail
        refine (dnil_arm 1 _ J1.out).mono ?_
        rintro e w7 ⟨rfl, hb7⟩
        have hb7' : Below (wr.alloc (.cells oddCells 39)).heap.size (wr.alloc (.cells oddCells 39)) w7 := hb7
        have hal : Below wr.heap.size wr (wr.alloc (.cells oddCells 39)) := (Below.refl _ _).alloc (Nat.le_refl _) _
        have hsr : wc.heap.size ≤ wr.heap.size := hbr.out.size
        have hlS := HPC.out.lt
        have hlT := HQC.out.lt
        have hlw := HBC.out.size
        have HT := hide (show Trio S4 T5 d g a (32 * m) d2 g2 a2 c9 wr.heap.size k k w w7 from
          ⟨((HPC.out.later hbr.out).later hal).later hb7', ((HQC.out.later hbr.out).later hal).later hb7', odd_keep (odd_new wr) (hb7'.block wr.heap.size (by simp)), fun h => by have := hlS _ h; omega, fun h => by have := hlT _ h; omega, HDJ.out.1, HS4.out, HDJ.out.2, by omega, ((HBC.out.trans (hbr.out.mono hlw)).trans (hal.mono (by omega))).trans (hb7'.mono (by simp; omega))⟩)
        clear hb7 hb7' hal hsr hlS hlT hlw HPC HQC HBC HDJ HS4 hbr HB6 hwc6
        generalize wr.heap.size = go at *
        go_wp2_with fail
        obtain ⟨-, -, ho, -⟩ := HT.out
        refine (dodd_revive _ ho).mono ?_
        rintro e w8 ⟨rfl, ho8, ht8⟩
        have HT := hide (HT.out.odd ho8 ht8)
        clear ho ho8 ht8
        go_wp2_with fail
        refine (dnil_read 0 _ J0.out).mono ?_
        rintro e w9 ⟨A9, c9', rfl, -, hbn⟩
        have HT := hide (HT.out.later hbn)
        clear hbn
        go_wp2_with fail
        refine (few11_any A2 n2 c2 _ HC2.out.1 HC2.out.2).mono ?_
        rintro e w' ⟨rfl, rfl⟩
        go_wp2_with fail
        obtain ⟨hp, -, -, -, -, -, hsw, -, -, hbw⟩ := HT.out
        refine (hp.run HOK4.out A2 (min n2 50) c2 _ (DOps.front (k := min n2 50) (HL2.out.keep (w' := w9) fun b hb hlt => hbw.block b hlt) (by omega)) (fun b hb _ hs => by have := hsw b hs; omega)).mono ?_
        rintro e w10 ⟨rfl, hr⟩
        obtain ⟨S', HT'⟩ := HT.out.ran1 hr
        have HT := hide HT'
        clear hp hsw hbw hr HT'
        go_wp2_with fail
        refine (few11_any A3 n3 c3 _ HC3.out.1 HC3.out.2).mono ?_
        rintro e w' ⟨rfl, rfl⟩
        go_wp2_with fail
        obtain ⟨-, hp, -, -, -, -, -, hsw, -, hbw⟩ := HT.out
        refine (hp.run HOK4.out A3 (min n3 50) c3 _ (DOps.front (k := min n3 50) (HL3.out.keep (w' := w10) fun b hb hlt => hbw.block b hlt) (by omega)) (fun b hb _ hs => by have := hsw b hs; omega)).mono ?_
        rintro e w11 ⟨rfl, hr⟩
        obtain ⟨T', HT'⟩ := HT.out.ran2 hr
        have HT := hide HT'
        clear hp hsw hbw hr HT'
        go_wp2_with fail
        have HT := hide (HT.out.later ((Below.refl _ _).alloc (Nat.le_refl _) (.cells cur0 5)))
        refine (dnil_write 0 _ 32 32 _ J0.out).mono ?_
        rintro e wn ⟨rfl, hbn⟩
        have HT := hide (HT.out.later hbn)
        clear hbn
        go_wp2_with fail
        have HT := hide (HT.out.later ((Below.refl _ _).alloc (Nat.le_refl _) (.cells cur0 5)))
        obtain ⟨-, -, ho, -⟩ := HT.out
        refine (dodd_write 0 _ 32 32 _ ho J0.out).mono ?_
        rintro e wn ⟨rfl, hbn⟩
        have HT := hide (HT.out.later hbn)
        clear hbn ho
        go_wp2_with fail
        refine (dnil_len _).mono ?_
        rintro e wn ⟨rfl, hbn⟩
        have HT := hide (HT.out.later hbn)
        clear hbn
        go_wp2_with fail
        obtain ⟨-, -, ho, -⟩ := HT.out
        refine (dodd_len _ ho).mono ?_
        rintro e wn ⟨rfl, hbn⟩
        have HT := hide (HT.out.later hbn)
        clear hbn
        go_wp2_with fail
        refine (dnil_dead _).mono ?_
        rintro e wn ⟨rfl, hbn⟩
        have HT := hide (HT.out.later hbn)
        clear hbn
        go_wp2_with fail
        refine (dnil_written _).mono ?_
        rintro e wn ⟨rfl, hbn⟩
        have HT := hide (HT.out.later hbn)
        clear hbn
        go_wp2_with fail
        refine (dnil_all _).mono ?_
        rintro e wn ⟨A12, c12, rfl, -, hbn⟩
        have HT := hide (HT.out.later hbn)
        clear hbn
        go_wp2_with fail
        refine (dnil_clone _).mono ?_
        rintro e wn ⟨rfl, hbn⟩
        have HT := hide (HT.out.later hbn)
        clear hbn
        go_wp2_with fail
        clear ho
        obtain ⟨-, -, ho, -⟩ := HT.out
        refine (dodd_clone _ ho).mono ?_
        rintro e wn ⟨rfl, hbn⟩
        have HT := hide (HT.out.later hbn)
        clear hbn
        go_wp2
        go_ret
        obtain ⟨-, -, -, -, -, -, -, -, -, hbo⟩ := HT.out
        exact ⟨by simp, hbo⟩
end Go.Proofs.Ytcdllbjhcjpleaa
