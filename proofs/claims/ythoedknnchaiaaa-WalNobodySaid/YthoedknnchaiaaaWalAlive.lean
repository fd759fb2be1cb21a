/-
  A log upon its disk, alone: what each call makes of both.
-/
import Derived.Test.YthoedknnchaiaaaWalK
import Derived.Test.YthoedknnchaiaaaWalP
import Derived.Test.YthoedknnchaiaaaLater
import Derived.Test.YthoedknnchaiaaaPlain
import Derived.Test.YthoedknnchaiaaaOctB
namespace Go.Proofs.Ythoedknnchaiaaa
open Go.RowKit
set_option linter.unusedVariables false

/-- A log at l upon the disk at d, all in blocks from B on. -/
structure One (B : Nat) (w : World) (P Q : Nat → Prop) (l d : Nat) (k : Dk) (m : Lm) : Prop where
  log : LogM w P l d k m
  dsk : DskL w Q d k
  inv : Inv k m
  pq : ∀ b, P b → ¬ Q b
  pb : ∀ b, P b → B ≤ b
  qb : ∀ b, Q b → B ≤ b
theorem One.below {B : Nat} {w w' : World} {P Q : Nat → Prop} {l d : Nat} {k : Dk} {m : Lm} (s : One B w P Q l d k m) (hb : Below w.heap.size w w') : One B w' P Q l d k m :=
  ⟨log_keep s.log hb.size fun i _ hi => hb.block i hi, dskl_keep s.dsk fun i _ hi => hb.block i hi, s.inv, s.pq, s.pb, s.qb⟩
theorem One.n127 {B : Nat} {w : World} {P Q : Nat → Prop} {l d : Nat} {k : Dk} {m : Lm} (s : One B w P Q l d k m) : m.n ≤ 127 := by have := s.inv.ok.2.1; omega
def OneDid (B l d : Nat) (k : Dk) (m : Lm) (v : Value) (w w' : World) (e : Ending) : Prop := e = .returned v ∧ (∃ P Q, One B w' P Q l d k m) ∧ Below B w w'
/-- Only blocks of P, Q, from B on, were turned. -/
theorem touch_base {B : Nat} {w w' : World} {P : Nat → Prop} (ht : Touch P w w') (hB : B ≤ w.heap.size) (hp : ∀ b, P b → B ≤ b) : Below B w w' := ht.below hB fun b hb h => by have := hp b h; omega
theorem LDid.one {B l d : Nat} {P Q : Nat → Prop} {k : Dk} {m : Lm} {v : Value} {w w' : World} {e : Ending} (h : LDid LogM DskL P Q l d k m v w w' e) (hi : Inv k m) (hB : B ≤ w.heap.size) (hp : ∀ b, P b → B ≤ b) (hq : ∀ b, Q b → B ≤ b) : OneDid B l d k m v w w' e := by
  obtain ⟨he, P', Q', hl, hd, hpq, h1, h2, ht⟩ := h
  exact ⟨he, ⟨P', Q', hl, hd, hi, hpq, fun b hb => (h1 b hb).elim (hp b) fun h => by omega, fun b hb => (h2 b hb).elim (hq b) fun h => by omega⟩, touch_base ht hB fun b hb => hb.elim (hp b) (hq b)⟩

theorem one_append {B : Nat} {P Q R : Nat → Prop} {l d : Nat} {k : Dk} {m : Lm} (A : Option Addr) (n c : Nat) (x : List Int) (w : World) (s : One B w P Q l d k m) (hB : B ≤ w.heap.size) (hx : Row w R A n c (octs x)) (ho : Octs x) (hr : ∀ i, R i → i < w.heap.size → ¬ P i) (hc : n ≤ 140737488355000) :
    Calls Try.prog 15 #[.pointer (some ⟨l, 0, none⟩), .slice A n c] w fun e w' => OneDid B l d k (appendL m x).1 (.int .i64 (appendL m x).2) w w' e := by
  refine (wappend_any A n c x w s.log s.dsk s.inv.ok s.inv hx ho hr hc).mono ?_
  rintro e w' ⟨he, P', hl, hp, ht⟩
  have ql := dskl_lt s.dsk
  refine ⟨he, ⟨P', Q, hl, dskl_keep s.dsk fun b hb hlt => ht.block b hlt fun h => s.pq b h hb, s.inv.append ho, fun b hb hq => ?_, fun b hb => (hp b hb).elim (s.pb b) fun h => by omega, s.qb⟩, touch_base ht hB s.pb⟩
  rcases hp b hb with h | h
  · exact s.pq b h hq
  · have := ql b hq; omega
theorem one_sync {B : Nat} {P Q : Nat → Prop} {l d : Nat} {k : Dk} {m : Lm} (w : World) (s : One B w P Q l d k m) (hB : B ≤ w.heap.size) :
    Calls Try.prog 16 #[.pointer (some ⟨l, 0, none⟩)] w fun e w' => OneDid B l d (syncL k m).1 (syncL k m).2.1 (.int .i64 (syncL k m).2.2) w w' e :=
  (wsync_any w s.log s.dsk s.pq s.inv).mono fun e w' h => h.one s.inv.sync hB s.pb s.qb
theorem one_swap {B : Nat} {P Q R : Nat → Prop} {l d : Nat} {k : Dk} {m : Lm} (A : Option Addr) (n c : Nat) (x : List Int) (w : World) (s : One B w P Q l d k m) (hB : B ≤ w.heap.size) (hx : Row w R A n c (octs x)) (ho : Octs x) (hr : ∀ i, R i → i < w.heap.size → ¬ P i ∧ ¬ Q i) (hc : n ≤ 140737488355000) :
    Calls Try.prog 25 #[.pointer (some ⟨l, 0, none⟩), .slice A n c] w fun e w' => OneDid B l d (swapL k m x).1 (swapL k m x).2.1 (.int .i64 (swapL k m x).2.2) w w' e :=
  (wswap_any A n c x w s.log s.dsk s.pq s.inv hx ho).mono fun e w' h => h.one (s.inv.swap ho) hB s.pb s.qb
theorem Inv.arm {k : Dk} {m : Lm} (h : Inv k m) {a : Int} (ha : a ≤ 9223372036854775807) : Inv (k.arm a) m :=
  ⟨Dk.ok_arm h.ok ha, h.n1, h.fit, h.octs, h.dur, h.room, fun hd => (h.good (by rw [← hd, arm_dead])).arm ha⟩
theorem one_arm {B : Nat} {P Q : Nat → Prop} {l d : Nat} {k : Dk} {m : Lm} (a : Int) (w : World) (s : One B w P Q l d k m) (hB : B ≤ w.heap.size) (ha : I64' a) :
    Calls Try.prog 20 #[.pointer (some ⟨d, 0, none⟩), .int .i64 a] w fun e w' => OneDid B l d (k.arm a) m (.tuple #[]) w w' e := by
  refine (dlarm_any a w s.dsk s.inv.ok ha).mono ?_
  rintro e w' ⟨he, Q', hd, hq, ht⟩
  have pl := log_lt s.log
  refine ⟨he, ⟨P, Q', log_arm a (log_keep s.log ht.size fun b hb hlt => ht.block b hlt (s.pq b hb)), hd, s.inv.arm ha.2, fun b hb h => ?_, s.pb, fun b hb => (hq b hb).elim (s.qb b) fun h => by omega⟩, touch_base ht hB s.qb⟩
  rcases hq b h with h | h
  · exact s.pq b hb h
  · have := pl b hb; omega
/-- A new log. -/
theorem one_new (n : Int) (w : World) (hn : I64' n) : Calls Try.prog 9 #[.int .i64 n] w fun e w' => ∃ l d, e = .returned (.pointer (some ⟨l, 0, none⟩)) ∧ (∃ P Q, One w.heap.size w' P Q l d (Dk.fresh (2 * (near n 1 64).toNat + 1)) ⟨(near n 1 64).toNat, [], 0⟩) ∧ Below w.heap.size w w' := by
  have hnn := near_in (n := n) (show (1 : Int) ≤ 64 by omega)
  refine (wnew_any n w hn).mono ?_
  rintro e w' ⟨l, d, P, Q, he, hl, hd, hpq, hp, hq, hb⟩
  exact ⟨l, d, he, ⟨P, Q, hl, hd, .of_good (good_new _ (by omega) (by omega)), hpq, hp, hq⟩, hb⟩
theorem Quiet.ok {k : Dk} {n : Nat} (h : Quiet k n) (hd : k.dead = false) : (openL k n).2.2 = true := by
  rcases h with h | h
  · exact laid_free hd h
  · show k.laidOk _ (zs (tail0 _)) = true
    rw [h]
    rfl
theorem open_quiet {k : Dk} {m : Lm} (h : Good k m) : Quiet k m.n := by
  right
  have hx : Fit (m.recs.take m.dur) := fun x hm => h.fit x (List.mem_of_mem_take hm)
  obtain ⟨e1, e2⟩ := frames_whole hx (32 * m.n - m.at_)
  rw [h.cont, e2, List.drop_left' rfl, tail0_zs]
theorem revive_quiet (k : Dk) (n : Nat) : Quiet k.revive n := .inl (by show (-1 : Int) < 0; omega)
/-- A log that is opened upon a disk that has one. -/
theorem one_open {B : Nat} {Q : Nat → Prop} {d : Nat} {k : Dk} {s : Nat} (w : World) (hd : DskL w Q d k) (hk : k.ok (2 * s + 1)) (hs : 1 ≤ s) (ha : k.dead = false) (hu : Quiet k s) (hq : ∀ b, Q b → B ≤ b) (hB : B ≤ w.heap.size) :
    Calls Try.prog 21 #[.pointer (some ⟨d, 0, none⟩)] w fun e w' => ∃ l, e = .returned (.tuple #[.pointer (some ⟨l, 0, none⟩), .bool true]) ∧ (∃ P' Q', One B w' P' Q' l d (openL k s).1 (openL k s).2.1 ∧ (∀ b, P' b → w.heap.size ≤ b) ∧ ∀ b, Q' b → Q b ∨ w.heap.size ≤ b) ∧ Touch Q w w' := by
  have ho := hu.ok ha
  refine (wopen_any w hd hk hs ha hu).mono ?_
  rintro e w' ⟨l, P', Q', he, hl, hd', hpq, hp, hq', ht⟩
  exact ⟨l, he, ⟨P', Q', ⟨hl, hd', .of_good (open_any hk hs ha ho).1, hpq, fun b hb => by have := hp b hb; omega, fun b hb => (hq' b hb).elim (hq b) fun h => by omega⟩, hp, hq'⟩, ht⟩
/-- Its disk, a clone. -/
theorem one_disk {B : Nat} {P Q : Nat → Prop} {l d : Nat} {k : Dk} {m : Lm} (w : World) (s : One B w P Q l d k m) : Calls Try.prog 19 #[.pointer (some ⟨l, 0, none⟩)] w fun e w' => DMade DskL k w w' e := wdisk_any w s.log s.dsk s.inv.ok
theorem one_records {B : Nat} {P Q : Nat → Prop} {l d : Nat} {k : Dk} {m : Lm} (w : World) (s : One B w P Q l d k m) : Calls Try.prog 17 #[.pointer (some ⟨l, 0, none⟩)] w fun e w' => LRecs m.recs w w' e := wrecords_any w s.log s.inv
theorem LRecs.parts {ls : List (List Int)} {w w' : World} {e : Ending} (h : LRecs ls w w' e) : ∃ A c, e = .returned (.slice A ls.length c) ∧ Parts w' A ls.length ls ∧ Below w.heap.size w w' := by
  obtain ⟨A, c, he, hp, -, -, hb⟩ := h
  exact ⟨A, c, he, hp, hb⟩
/-- Where nothing stops the disk, a sync does it all. -/
theorem sync_free {k : Dk} {m : Lm} (hd : k.dead = false) (hf : k.fuel < 0) : (syncL k m).2 = ({ m with dur := m.recs.length }, 0) ∧ (syncL k m).1.dead = false ∧ (syncL k m).1.fuel < 0 := by
  have hl : k.laidOk m.at_ m.pend = true := laid_free hd hf
  have h0 : ¬ (k.dead = true ∨ k.laidOk m.at_ m.pend = false) := by rw [hd, hl]; simp
  unfold syncL
  rw [if_neg h0]
  exact ⟨rfl, laid_alive hl hd, laid_free_fuel hd hf⟩
end Go.Proofs.Ythoedknnchaiaaa

/-
  The statements' alive of layer 12: it is true.
-/
namespace Go.Proofs.Ythoedknnchaiaaa
open Go.RowKit
set_option linter.unusedVariables false

/-- One octet, in new memory. -/
theorem oct_new (w : World) (z : Int) : Row (w.alloc (.cells #[.int .u8 z] 5)) (fun b => w.heap.size ≤ b) (some ⟨w.heap.size, 0, none⟩) 1 1 (octs [z]) := by
  have h := World.ownsRow_lit (base := w.heap.size) (e := 5) (size := 1) w #[.int .u8 z] 1 (Nat.le_refl _) (by unfold maxLen; omega) rfl
  exact Row.of_own h
theorem oct_octs {z : Int} (h0 : 0 ≤ z) (h1 : z < 256) : Octs [z] := by
  intro n hn
  rw [List.mem_singleton.1 hn]
  exact ⟨h0, h1⟩
theorem alive_used : (⟨2, [[1], [2]], 1⟩ : Lm).used = 16 := by
  unfold Lm.used
  have h1 : ∀ z : Int, (frameOf [z]).length = 8 := fun z => by rw [frameOf_len]; rfl
  simp [allF, h1]
theorem alive_one : appendL ⟨2, [], 0⟩ [1] = (⟨2, [[1]], 0⟩, 0) := by
  unfold appendL Lm.used
  rw [if_neg (by decide), if_neg (by decide), if_neg (by simp [allF])]
  rfl
theorem alive_two : appendL ⟨2, [[1]], 1⟩ [2] = (⟨2, [[1], [2]], 1⟩, 0) := by
  have h1 : ∀ z : Int, (frameOf [z]).length = 8 := fun z => by rw [frameOf_len]; rfl
  unfold appendL Lm.used
  rw [if_neg (by decide), if_neg (by decide), if_neg (by simp [allF, h1])]
  rfl

set_option maxHeartbeats 2000000 in
set_option maxRecDepth 100000 in
theorem alive12 (w : World) : Calls Try.prog 8 #[] w fun e w' => e = .returned (.bool true) ∧ Below w.heap.size w w' := by
  have hn2 : (near 2 1 64).toNat = 2 := by decide
  have SF := sync_free (k := Dk.fresh 5) (m := ⟨2, [[1]], 0⟩) rfl (by show (-1 : Int) < 0; omega)
  have HSF := hide SF
  have HN := hide hn2
  clear SF hn2
  go_enter Try.func8, Try.ntmps8
  go_wp2_with fail
  refine (one_new 2 _ (by unfold I64'; omega)).mono ?_
  rintro e w1 ⟨l, d, rfl, ⟨P, Q, h1⟩, hb1⟩
  rw [HN.out] at h1
  have H1 := hide h1
  have HB1 := hide hb1
  clear h1 hb1
  go_wp2_with fail
  have hl1 := log_lt H1.out.log
  have hu1 : Below w1.heap.size w1 (w1.alloc (.cells #[.int .u8 1] 5)) := (Below.refl _ _).alloc (Nat.le_refl _) _
  have HA := hide (one_append (some ⟨w1.heap.size, 0, none⟩) 1 1 [1] _ (H1.out.below hu1) (Nat.le_trans HB1.out.size hu1.size) (oct_new w1 1) (oct_octs (by omega) (by omega)) (fun b hb _ hp => by have := hl1 b hp; omega) (by omega))
  have HU := hide (HB1.out.trans (hu1.mono HB1.out.size))
  rw [alive_one] at HA
  clear hl1 hu1
  refine HA.out.mono ?_
  rintro e w2 ⟨rfl, ⟨P2, Q2, h2⟩, hb2⟩
  have H2 := hide h2
  have HB2 := hide (HU.out.trans hb2)
  clear h2 hb2 HA HU H1 HB1
  go_wp2_with fail
  refine (one_sync _ H2.out HB2.out.size).mono ?_
  rintro e w3 ⟨rfl, ⟨P3, Q3, h3⟩, hb3⟩
  have hd3 := HSF.out.2.1
  rw [HSF.out.1] at h3 ⊢
  obtain ⟨K, hK⟩ : ∃ K, K = (syncL (Dk.fresh 5) ⟨2, [[1]], 0⟩).1 := ⟨_, rfl⟩
  rw [← hK] at h3 hd3
  have H3 := hide h3
  have HD3 := hide hd3
  have HB3 := hide (HB2.out.trans hb3)
  clear h3 hb3 H2 HB2 hd3 hK
  simp only [List.length_cons, List.length_nil] at H3
  have hl3 := log_lt H3.out.log
  have hu3 : Below w3.heap.size w3 (w3.alloc (.cells #[.int .u8 2] 5)) := (Below.refl _ _).alloc (Nat.le_refl _) _
  have HA := hide (one_append (some ⟨w3.heap.size, 0, none⟩) 1 1 [2] _ (H3.out.below hu3) (Nat.le_trans HB3.out.size hu3.size) (oct_new w3 2) (oct_octs (by omega) (by omega)) (fun b hb _ hp => by have := hl3 b hp; omega) (by omega))
  have HU := hide (HB3.out.trans (hu3.mono HB3.out.size))
  rw [show ((0 : Nat) + 1) = 1 from rfl, alive_two] at HA
  clear hl3 hu3
  go_wp2_with fail
  refine HA.out.mono ?_
  rintro e w4 ⟨rfl, ⟨P4, Q4, h4⟩, hb4⟩
  have HG := hide (h4.inv.good HD3.out)
  have HOP := hide (open_good HG.out)
  have H4 := hide h4
  have HB4 := hide (HU.out.trans hb4)
  clear h4 hb4 HA HU H3 HB3
  go_wp2_with fail
  refine (one_disk _ H4.out).mono ?_
  rintro e w5 ⟨g, Q5, rfl, hd5, hq5, hb5⟩
  have H5 := hide (H4.out.below hb5)
  have HB5 := hide (HB4.out.trans (hb5.mono HB4.out.size))
  have HD5 := hide hd5
  have HQ5 := hide hq5
  have HS5 := hide hb5.size
  have HX5 := hide hb5
  clear hd5 hq5 hb5
  go_wp2_with fail
  refine (one_open (B := w4.heap.size) (s := 2) _ HD5.out HG.out.ok (by omega) HD3.out (open_quiet HG.out) HQ5.out HS5.out).mono ?_
  rintro e w6 ⟨x, rfl, ⟨P6, Q6, h6, hp6, hq6⟩, ht6⟩
  rw [HOP.out] at h6
  have HB6 := hide (touch_base ht6 HS5.out HQ5.out)
  have H46 := hide (H4.out.below (HX5.out.trans HB6.out))
  have H6 := hide (show One w4.heap.size w6 P6 Q6 x g K ⟨2, [[1]], 1⟩ from h6)
  have HB := hide (HB5.out.trans (HB6.out.mono HB4.out.size))
  clear h6 hp6 hq6 ht6 HB6 H4 HX5 HD5 H5 HB5 HQ5
  go_wp2_with fail
  refine (wdurable_any _ H46.out.log H46.out.inv).mono ?_
  rintro e w7 ⟨rfl, hb7⟩
  have HW7 := hide (show Since w6 w7 from hb7)
  have H47 := hide (H46.out.below HW7.out)
  clear hb7
  simp only [Int.natCast_one]
  go_wp2_with fail
  refine (wpending_any _ H47.out.log H47.out.inv).mono ?_
  rintro e w8 ⟨rfl, hb8⟩
  have HW8 := hide (HW7.out.next hb8)
  have H48 := hide (H47.out.below hb8)
  clear hb8
  rw [show (((⟨2, [[1], [2]], 1⟩ : Lm).recs.length : Int) - ((⟨2, [[1], [2]], 1⟩ : Lm).dur : Int)) = 1 from rfl]
  go_wp2_with fail
  refine (wroom_any _ H48.out.log H48.out.dsk H48.out.inv.ok H48.out.inv).mono ?_
  rintro e w9 ⟨rfl, hb9⟩
  have HW9 := hide (HW8.out.next hb9)
  clear hb9
  rw [alive_used, show (32 * (((⟨2, [[1], [2]], 1⟩ : Lm).n : Nat) : Int) - ((16 : Nat) : Int)) = 48 from rfl]
  go_wp2_with fail
  refine (one_records _ (H6.out.below HW9.out)).mono ?_
  intro e w10 hr
  obtain ⟨A10, c10, rfl, hp10, hb10⟩ := hr.parts
  have HW10 := hide (HW9.out.next hb10)
  have HP10 := hide hp10
  clear hr hp10 hb10
  have hpo := parts_one (oct_new w10 1) (oct_octs (z := 1) (by omega) (by omega)) 32
  have HPO := hide hpo
  have hs2 : Since w10 ((w10.alloc (.cells #[.int .u8 1] 5)).alloc (.cells #[.slice (some ⟨w10.heap.size, 0, none⟩) 1 1] 32)) := ((Since.refl _).alloc _).alloc _
  have HS2 := hide hs2
  have hss : (w10.alloc (.cells #[.int .u8 1] 5)).heap.size = w10.heap.size + 1 := by simp
  rw [hss] at HPO
  clear hpo hs2 hss
  go_wp2_with fail
  refine (octets_same A10 (some ⟨w10.heap.size + 1, 0, none⟩) 1 c10 1 [[1]] _ (HP10.out.below HS2.out) HPO.out).mono ?_
  rintro e w11 ⟨rfl, q, rfl⟩
  have HEND := hide (HB.out.trans (Below.mono (below_drewN (show Below w6.heap.size w6 _ from HW10.out.next HS2.out) q) HB.out.size))
  go_wp2
  go_ret
  exact ⟨rfl, HEND.out⟩
end Go.Proofs.Ythoedknnchaiaaa
