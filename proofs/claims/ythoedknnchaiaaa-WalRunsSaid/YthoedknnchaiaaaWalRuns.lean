/-
  The walk of WalRuns.
-/
import Derived.Test.YthoedknnchaiaaaWalStep
import Derived.Test.YthoedknnchaiaaaWalAlive
namespace Go.Proofs.Ythoedknnchaiaaa
open Go.RowKit
set_option linter.unusedVariables false

/-- Both side by side, in memory from B on. -/
def SitB (B : Nat) (w : World) (l lr : Nat) : Prop := ∃ (P Q R : Nat → Prop) (d g a c : Nat) (k h : Dk) (m : Lm), Sit w P Q R l d lr g a c k h m ∧ ∀ b, P b ∨ Q b ∨ R b → B ≤ b
theorem SitB.since {B : Nat} {w w' : World} {l lr : Nat} (s : SitB B w l lr) (hs : Since w w') : SitB B w' l lr := by
  obtain ⟨P, Q, R, d, g, a, c, k, h, m, h1, h2⟩ := s
  exact ⟨P, Q, R, d, g, a, c, k, h, m, h1.since hs, h2⟩
theorem toldB_any {B : Nat} {l lr : Nat} (w : World) (s : SitB B w l lr) : Calls Try.prog 14 #[.pointer (some ⟨l, 0, none⟩), .pointer (some ⟨lr, 0, none⟩)] w fun e w' => e = .returned (.bool true) ∧ Since w w' := by
  obtain ⟨P, Q, R, d, g, a, c, k, h, m, h1, h2⟩ := s
  exact told12_any w h1
theorem stepB_any {B : Nat} {l lr : Nat} (x : WOp) (w : World) (s : SitB B w l lr) (hx : x.at w (· < B)) (hB : B ≤ w.heap.size) :
    Calls Try.prog 13 #[.pointer (some ⟨l, 0, none⟩), .pointer (some ⟨lr, 0, none⟩), x.val] w fun e w' => ∃ l' lr', e = .returned (.tuple #[.pointer (some ⟨l', 0, none⟩), .pointer (some ⟨lr', 0, none⟩), .bool true]) ∧ SitB B w' l' lr' ∧ Below B w w' := by
  obtain ⟨P, Q, R, d, g, a, c, k, h, m, h1, h2⟩ := s
  refine (step12_any (X := (· < B)) x w h1 hx fun b hb _ hp => by have := h2 b hp; omega).mono ?_
  rintro e w' ⟨l', d', lr', g', a', c', he, P', Q', R', h', hs, hp, hq, hr, ht⟩
  refine ⟨l', lr', he, ⟨P', Q', R', d', g', a', c', _, h', _, hs, fun b hb => ?_⟩, touch_base ht hB h2⟩
  rcases hb with hb | hb | hb
  · exact (hp b hb).elim (fun h => h2 b (.inl h)) fun h => by omega
  · exact (hq b hb).elim (fun h => h2 b (.inr (.inl h))) fun h => by omega
  · exact (hr b hb).elim (fun h => h2 b (.inr (.inr h))) fun h => by omega
theorem wop_at {w : World} {P : Nat → Prop} {A : Option Addr} {n c : Nat} {l : List WOp} (h : WOps w P A n c l) {i : Nat} (hi : i < n) :
    ∃ (b o : Nat) (x : WOp), A = some ⟨b, o, none⟩ ∧ x.at w P ∧ w.cell? ⟨b, o + i * 3, none⟩ = some (.int .i64 x.kind) ∧ w.cell? ⟨b, o + i * 3 + 1, none⟩ = some (.int .i64 x.n) ∧ w.cell? ⟨b, o + i * 3 + 2, none⟩ = some (.slice x.A x.m x.c) := by
  obtain ⟨b, o, e, hp, hlt, hc⟩ := h.1.some_ (by omega) (by omega)
  have hl := h.len
  have hil : i < l.length := by omega
  have hcell : ∀ j, j < 3 → w.cell? ⟨b, o + (i * 3 + j), none⟩ = (l[i]'hil).cells[j]? := fun j hj => by
    rw [hc (i * 3 + j) (by omega), wops, flat_get _ 3 (fun _ => rfl) l i j hj, List.getElem?_eq_getElem hil]
    rfl
  exact ⟨b, o, l[i]'hil, e, h.2 _ (List.getElem_mem hil), hcell 0 (by decide), by rw [Nat.add_assoc]; exact hcell 1 (by decide), by rw [Nat.add_assoc]; exact hcell 2 (by decide)⟩
theorem WOps.front {w : World} {Q : Nat → Prop} {A : Option Addr} {n c : Nat} {l : List WOp} (h : WOps w Q A n c l) {k : Nat} (hk : k ≤ n) : WOps w Q A k c (l.take k) := by
  refine ⟨?_, fun o ho => h.2 o (List.mem_of_mem_take ho)⟩
  have h1 := h.1.front hk
  rwa [wops, flat_take _ 3 (fun _ => rfl)] at h1

set_option maxHeartbeats 4000000 in
set_option maxRecDepth 100000 in
theorem walruns_walk (n : Int) (A : Option Addr) (nl cl : Nat) (l : List WOp) (w : World) (hn : I64' n) (hl : WOps w (· < w.heap.size) A nl cl l) :
    Calls Try.prog 3 #[.int .i64 n, .slice A nl cl] w fun e w' => e = .returned (.bool true) ∧ Below w.heap.size w w' := by
  have hnn := near_in (n := n) (show (1 : Int) ≤ 64 by omega)
  obtain ⟨N, hN⟩ : ∃ N : Nat, near n 1 64 = (N : Int) := ⟨(near n 1 64).toNat, by omega⟩
  have hN1 : 1 ≤ N ∧ N ≤ 64 := by omega
  have HL := hide hl
  have hcl : nl ≤ cl := hl.1.2.1
  have hclb : cl ≤ 9223372036854775807 := hl.1.2.2.1
  have HNN := hide hN
  clear hl hnn
  go_enter Try.func3, Try.ntmps3
  go_wp2_with fail
  refine (alive12 _).mono ?_
  rintro e w1 ⟨rfl, hb1⟩
  have HB1 := hide hb1
  clear hb1
  go_wp2_with fail
  refine (wnew_any n _ hn).mono ?_
  rintro e w2 ⟨lg, d, P, Q, rfl, h1, h2, hpq, hp, hq, hb2⟩
  rw [HNN.out, Int.toNat_natCast] at h1 h2
  have HP := hide hp
  have HQ := hide hq
  have H1 := hide h1
  have H2 := hide h2
  have HPQ := hide hpq
  have HB2 := hide (HB1.out.trans (hb2.mono HB1.out.size))
  clear hp hq h1 h2 hpq hb2
  go_wp2_with fail
  refine (near_any n 1 64 _).mono ?_
  rintro e w' ⟨rfl, rfl⟩
  rw [hN]
  go_wp2_with fail
  refine (refnew_any N _ (by omega)).mono ?_
  rintro e w3 ⟨lr, g, a, c, R, rfl, hr, hb3, hr3⟩
  have HB3 := hide (HB2.out.trans (hb3.mono HB2.out.size))
  have HS := hide (show SitB w.heap.size w3 lg lr by
    have pl := log_lt H1.out
    have ql := dskl_lt H2.out
    have b1 := HB1.out.size
    have b2 := HB2.out.size
    exact ⟨P, Q, R, d, g, a, c, _, _, _, ⟨log_keep H1.out hb3.size fun i _ hi => hb3.block i hi, dskl_keep H2.out fun i _ hi => hb3.block i hi, hr, Dk.like.refl _, .of_good (good_new N (by omega) (by omega)), Dk.ok_fresh (by omega), HPQ.out,
      fun b hb h => by have := pl b hb; have := hr3 b h; omega, fun b hb h => by have := ql b hb; have := hr3 b h; omega⟩,
      fun b hb => by
        rcases hb with hb | hb | hb
        · have := HP.out b hb; omega
        · have := HQ.out b hb; omega
        · have := hr3 b hb; omega⟩)
  clear hr hb3 hr3 H1 H2 HP HQ HPQ
  go_wp2_with fail
  refine (few12_any A nl cl _ hcl hclb).mono ?_
  rintro e w' ⟨rfl, rfl⟩
  have HL2 := hide (WOps.front HL.out (k := min nl 40) (by omega))
  have hm40 : min nl 40 ≤ 40 := by omega
  have hmc : min nl 40 ≤ cl := by omega
  generalize min nl 40 = n2 at *
  go_wp2
  go_loopw [5, 6, 8] (fun s5 s6 s8 wr => ∃ (j l lr : Nat), j ≤ n2 ∧ s5 = .pointer (some ⟨l, 0, none⟩) ∧ s6 = .pointer (some ⟨lr, 0, none⟩) ∧ s8 = .int .i64 j ∧ Hid (SitB w.heap.size wr l lr) ∧ Hid (Below w.heap.size w wr)) (fun _ _ s8 _ => n2 - (intOf s8).toNat)
  case atStart => exact ⟨0, lg, lr, Nat.zero_le _, rfl, rfl, rfl, HS, HB3⟩
  case round =>
    obtain ⟨j, l5, lr5, hj, rfl, rfl, rfl, hs, hb⟩ := hrel
    by_cases hlt : j < n2
    · obtain ⟨b, o, x, rfl, hx, c0, c1, c2⟩ := wop_at (HL2.out.keep (w' := wr) fun b hb' _ => hb.out.block b hb') hlt
      have HX := hide hx
      have HST := hide (stepB_any x _ hs.out hx hb.out.size)
      unfold WOp.val at HST
      obtain ⟨xk, xn, xA, xm, xc, xb⟩ := x
      simp only at c0 c1 c2 HST
      clear hx
      go_wp2_with fail
      refine HST.out.mono ?_
      rintro e w5 ⟨l6, lr6, rfl, hs5, hb5⟩
      have HS5 := hide hs5
      have HB5 := hide (hb.out.trans hb5)
      clear hs5 hb5 HST c0 c1 c2
      go_wp2_with fail
      refine (toldB_any _ HS5.out).mono ?_
      rintro e w6 ⟨rfl, hs6⟩
      have HS6 := hide (HS5.out.since hs6)
      have HB6 := hide (HB5.out.trans (Below.mono (show Below w5.heap.size w5 w6 from hs6) HB5.out.size))
      clear hs6
      go_wp2
      go_roundw
      case rel => exact ⟨j + 1, l6, lr6, by omega, rfl, rfl, by go_num, HS6, HB6⟩
      case measure => simp [intOf]; omega
    · obtain rfl : j = n2 := by omega
      go_wp2_with fail
      refine (toldB_any _ hs.out).mono ?_
      rintro e w6 ⟨rfl, hs6⟩
      have HB6 := hide (hb.out.trans (Below.mono (show Below wr.heap.size wr w6 from hs6) hb.out.size))
      clear hs6
      go_wp2
      go_ret
      exact ⟨rfl, HB6.out⟩
end Go.Proofs.Ythoedknnchaiaaa
