/-
  The walk of StampLists.
-/
import Derived.Test.YtfidglkhpikdbaaStampAlive
import Derived.Deep.RegionWith
namespace Go.Proofs.Ytfidglkhpikdbaa
open Go.RowKit
set_option linter.unusedVariables false

theorem few07_any (A : Option Addr) (n c : Nat) (w : World) (hc : n ≤ c) (hcb : c ≤ 9223372036854775807) : Calls Try.prog 9 #[.slice A n c] w fun e w' => e = .returned (.slice A (min n 40) c) ∧ w = w' := by
  rcases Nat.lt_or_ge 40 n with h | h
  · have hs1 : ∀ W, (Instr.slice 28 (.slice A n c) none (some (.int .i64 40)) none).run Try.prog W = .ok (.slice A 40 c) W := fun W => front_runC W A n c 40 (by omega)
    have e : min n 40 = 40 := by omega
    have h' : (40 : Int) < (n : Int) := by omega
    have E := hide e
    clear e
    go_enter Try.func9, Try.ntmps9
    go_wp2
    go_ret
    exact ⟨by rw [E.out]; rfl, rfl⟩
  · have e : min n 40 = n := by omega
    have h' : ¬ ((40 : Int) < (n : Int)) := by omega
    rw [e]
    clear e
    go_enter Try.func9, Try.ntmps9
    go_wp2
    go_ret
    exact ⟨rfl, rfl⟩
theorem lastT_stepL {l : List Chg} {j : Nat} {x : Chg} (h : l[j]? = some x) : lastT (l.take (j + 1)) = max (lastT (l.take j)) x.t := by
  unfold lastT
  rw [List.take_add_one, h]
  simp
theorem lastT_ok (l : List Chg) (h : ∀ x ∈ l, x.ok) : 0 ≤ lastT l ∧ lastT l ≤ 9223372036854775807 := by
  have key : ∀ (l : List Chg) (m : Int), (∀ x ∈ l, x.ok) → 0 ≤ m → m ≤ 9223372036854775807 → 0 ≤ l.foldl (fun m x => max m x.t) m ∧ l.foldl (fun m x => max m x.t) m ≤ 9223372036854775807 := by
    intro l
    induction l with
    | nil => intro m _ h0 h1; exact ⟨h0, h1⟩
    | cons x l ih =>
      intro m hx h0 h1
      have := (hx x List.mem_cons_self).2.2.1
      obtain ⟨a1, a2⟩ := this
      exact ih (max m x.t) (fun y hy => hx y (List.mem_cons_of_mem _ hy)) (by omega) (by omega)
  exact key l 0 h (by omega) (by omega)

/-- A fresh list was made behind w1 that is just like what v reads as. -/
def KeptC (v : Value) (w1 : World) (k : Nat) (w' : World) (e : Ending) : Prop :=
  ∃ A c, e = .returned (.slice A k c) ∧ Hid (∀ w'', Since w' w'' → Calls Try.prog 12 #[v, .slice A k c] w'' fun e w3 => e = .returned (.bool true) ∧ Since w1 w3) ∧ Since w' w' ∧ Since w1 w'
theorem kept_of {w1 w w' : World} {e : Ending} {m : List Chg} {k d : Nat} {B : Option Addr} {Q : Nat → Prop} (h1 : Since w1 w) (hf : FreshC w m w' e) (hm : m.length = k) (hr : RowK w1 Q 9 B k d (chgs m)) : KeptC (.slice B k d) w1 k w' e := by
  obtain ⟨A, c, rfl, hown, hb⟩ := hf
  have hs : Since w1 w' := Since.next h1 hb
  subst hm
  refine ⟨A, c, rfl, hide fun w'' h => ?_, Since.refl _, hs⟩
  refine (changes_any _ _ _ _ _ _ _ _ m m w'' (hr.below (by omega) (Since.trans hs h) (fun _ _ h => h)) ((RowK.of_own hown).below (by omega) h (fun _ _ h => h))).mono ?_
  rintro e w3 ⟨rfl, hb3⟩
  exact ⟨by rw [decide_eq_true rfl], Since.next (Since.trans hs h) hb3⟩

set_option maxRecDepth 100000 in
set_option maxHeartbeats 4000000 in
theorem lists_walk (A : Option Addr) (n c : Nat) (l : List Chg) (x : Chg) (r s i : Int) (w : World) (h : RowK w (· < w.heap.size) 9 A n c (chgs l)) (hok : ∀ y ∈ l, y.ok) :
    Calls Try.prog 4 #[.slice A n c, x.val, .agg #[.int .i64 r, .int .i64 s], .int .i64 i] w fun e w' => e = .returned (.bool true) ∧ Below w.heap.size w w' := by
  obtain ⟨i9, hi, hz0, hz1, hz2⟩ := info_parts infoChg
  have hcap := h.2.1
  have hcb := h.2.2.1
  have hl : l.length = n := by have := h.1; rw [chgs_len] at this; omega
  obtain ⟨xr, xs, xt, xk, xa, xb, xn, xp, xq⟩ := x
  obtain ⟨W, hW⟩ : ∃ W, W = (w.alloc (.cells #[.int .i64 xr, .int .i64 xs, .int .i64 xt, .int .i64 xk, .int .i64 xa, .int .i64 xb, .int .i64 xn, .int .i64 xp, .int .i64 xq] 25)).alloc (.cells #[.int .i64 r, .int .i64 s] 23) := ⟨_, rfl⟩
  have hA : At W w.heap.size 0 ⟨xr, xs, xt, xk, xa, xb, xn, xp, xq⟩ := by
    rw [hW]
    exact (at_new w ⟨xr, xs, xt, xk, xa, xb, xn, xp, xq⟩ 25).below (B := w.heap.size + 1) (Below.alloc (Below.refl _ _) (by simp) _) (by omega)
  have hB : Blk W (w.heap.size + 1) 23 #[.int .i64 r, .int .i64 s] := by
    rw [hW]
    have := Blk.new (w.alloc (.cells #[.int .i64 xr, .int .i64 xs, .int .i64 xt, .int .i64 xk, .int .i64 xa, .int .i64 xb, .int .i64 xn, .int .i64 xp, .int .i64 xq] 25)) 23 #[.int .i64 r, .int .i64 s]
    rwa [show (w.alloc (.cells #[.int .i64 xr, .int .i64 xs, .int .i64 xt, .int .i64 xk, .int .i64 xa, .int .i64 xb, .int .i64 xn, .int .i64 xp, .int .i64 xq] 25)).heap.size = w.heap.size + 1 by simp] at this
  have HA := hide hA
  have HI := hide hB
  have HBW := hide (show Below w.heap.size w W by rw [hW]; exact ((Below.refl _ w).alloc (Nat.le_refl _) _).alloc (by simp) _)
  have hAl : w.heap.size < W.heap.size := by rw [hW]; simp; omega
  have HW := hide hW
  have hm : min n 40 ≤ n := by omega
  have hfr := h.front hm
  rw [chgs_take] at hfr
  have HR := hide hfr
  have hlm : (l.take (min n 40)).length = min n 40 := by rw [List.length_take, hl]; omega
  have hokm : ∀ y ∈ l.take (min n 40), y.ok := fun y hy => hok y (List.mem_of_mem_take hy)
  have hm40 : min n 40 ≤ 40 := by omega
  have HLM := hide hlm
  have HOK := hide hokm
  have hmc : min n 40 ≤ c := by omega
  have HF := hide (few07_any A n c · hcap hcb)
  clear hA hB hW h hfr hlm hokm hok hl
  generalize hq : l.take (min n 40) = q at *
  generalize min n 40 = m at *
  unfold Chg.val
  go_enter Try.func4, Try.ntmps4
  go_wp2_with fail
  rw [← HW.out]
  refine (alive07 _).mono ?_
  rintro e w1 ⟨rfl, hb1⟩
  have HS1 := hide (show Since W w1 from hb1)
  clear hb1
  go_wp2_with fail
  refine (HF.out _).mono ?_
  rintro e w' ⟨rfl, rfl⟩
  have HB1 := hide (HBW.out.trans (Below.mono HS1.out HBW.out.size))
  have HR1 := hide (HR.out.below (by omega) HB1.out (fun _ h _ => h))
  clear HF hcap hm hq
  go_wp2_with (at_builtin; refine wpList_append_rowK _ rfl _ _ 28 rfl w.heap.size 25 i9 _ 9 72 Try.underlying28 hi hz0 hz1 hz2 rfl (by decide) _ 0 [] rfl (World.ownsRow_lit w1 #[] 0 HB1.out.size (by unfold maxLen; omega) rfl) _ A m c (chgs q) rfl (HR1.out.alloc (by omega) _) (chgs_one _) ?h1 ?h2 ?h3 ?_)
  case h1 => unfold maxLen; omega
  case h2 => omega
  case h3 => have := HB1.out.size; simp; omega
  intro v2 w2 hown hgr _
  obtain ⟨A2, c2, rfl⟩ := own_formK hown
  have hs12 : Since w1 w2 := Below.grown (Below.alloc (Below.refl _ w1) (Nat.le_refl _) (.cells #[] 25)) hgr (by simp) (fun g hg => by simp only [Value.ownBlock] at hg; injection hg with hg; omega)
  have HS2 := hide (Since.trans HS1.out hs12)
  have HB2 := hide (HBW.out.trans (Below.mono HS2.out HBW.out.size))
  have HO2 := hide (RowK.of_own hown)
  have HR2 := hide (HR.out.below (by omega) HB2.out (fun _ h _ => h))
  clear hown hgr hs12 HR1 HR HB1 HS1 HW
  have hmc2 : m ≤ c2 := HO2.out.2.1
  have hc2b := HO2.out.2.2.1
  go_wp2
  go_loop [10, 11] (fun v k => ∃ (j : Nat) (t : Int), j ≤ m ∧ k = .int .i64 j ∧ v = .int .i64 t ∧ Hid (t = lastT (q.take j))) (fun _ k => m - (intOf k).toNat)
  case atStart => exact ⟨0, 0, Nat.zero_le _, rfl, rfl, hide rfl⟩
  case round =>
    obtain ⟨j, t, hj, rfl, rfl, ht⟩ := hrel
    by_cases hlt : j < m
    · obtain ⟨b, o, y, rfl, -, hb, hy, hat⟩ := chgs_at HR2.out hlt
      have hst := lastT_stepL hy
      rw [← ht.out] at hst
      obtain ⟨y0, y1, y2, y3, y4, y5, y6, y7, y8⟩ := hat
      have HST := hide hst
      clear hst hy y0 y1 y3 y4 y5 y6 y7 y8
      generalize y.t = u at *
      go_wp2
      go_round
      case rel => first | exact ⟨j + 1, max t u, by omega, by go_num, rfl, hide HST.out.symm⟩ | exact ⟨j + 1, if t < u then u else t, by omega, by go_num, rfl, hide (by rw [HST.out]; split <;> omega)⟩
      case measure => simp [intOf]; omega
    · obtain rfl : j = m := by omega
      have ht := ht.out
      rw [List.take_of_length_le (by rw [HLM.out]; exact Nat.le_refl _)] at ht
      have HT := hide ht
      clear ht hlt
      obtain ⟨x0, x1, x2, x3, x4, x5, x6, x7, x8⟩ := HA.out.later hAl HS2.out
      go_wp2_with fail
      refine (sput_any _ _ _ _ q ⟨xr, xs, xt, xk, xa, xb, xn, xp, xq⟩ _ HO2.out (by omega)).mono ?_
      rintro e w3 ⟨A3, c3, rfl, hown3, hb3⟩
      have hs23 : Since w2 w3 := hb3
      have HO3w := hide hs23
      have HO3 := hide (HO2.out.below (by omega) hs23 (fun _ _ h => h))
      have HP3 := hide (RowK.of_own hown3)
      have HS3 := hide (Since.trans HS2.out hs23)
      clear hown3 hb3 hs23 x0 x1 x2 x3 x4 x5 x6 x7 x8
      go_wp2_with fail
      refine (swithout_any _ _ _ _ q i _ HO3.out (by omega)).mono ?_
      rintro e w4 ⟨A4, c4, rfl, hown4, hb4⟩
      have hs34 : Since w3 w4 := hb4
      have HO4 := hide (HO3.out.below (by omega) hs34 (fun _ _ h => h))
      have HP4 := hide (HP3.out.below (by omega) hs34 (fun _ _ h => h))
      have HQ4 := hide (RowK.of_own hown4)
      have HS4 := hide (Since.trans HS3.out hs34)
      have HB4 := hide (HBW.out.trans (Below.mono HS4.out HBW.out.size))
      have HR4 := hide ((HR2.out.below (by omega) (Below.mono (Since.trans (show Since w2 w3 from HO3w.out) hs34) HB2.out.size) (fun _ h _ => h)))
      have HBx := hide (fun w' (h : Since w4 w') => HBW.out.trans (Below.mono (Since.trans HS4.out h) HBW.out.size))
      have kA := fun w' (h : Since w4 w') => (HA.out.later hAl (Since.trans HS4.out h))
      have kI := fun w' (h : Since w4 w') => ((HI.out.below (Since.trans HS4.out h) HI.out.lt) : Blk w' (w.heap.size + 1) 23 #[.int .i64 r, .int .i64 s])
      have x0 := fun w' h => (kA w' h).1
      have x1 := fun w' h => (kA w' h).2.1
      have x2 := fun w' h => (kA w' h).2.2.1
      have x3 := fun w' h => (kA w' h).2.2.2.1
      have x4 := fun w' h => (kA w' h).2.2.2.2.1
      have x5 := fun w' h => (kA w' h).2.2.2.2.2.1
      have x6 := fun w' h => (kA w' h).2.2.2.2.2.2.1
      have x7 := fun w' h => (kA w' h).2.2.2.2.2.2.2.1
      have x8 := fun w' h => (kA w' h).2.2.2.2.2.2.2.2
      have i0 : ∀ w', Since w4 w' → w'.cell? ⟨w.heap.size + 1, 0, none⟩ = some (.int .i64 r) := fun w' h => ((kI w' h).cell 0).trans rfl
      have i1 : ∀ w', Since w4 w' → w'.cell? ⟨w.heap.size + 1, 1, none⟩ = some (.int .i64 s) := fun w' h => ((kI w' h).cell 1).trans rfl
      have hr0 := (Since.refl w4).drew
      generalize hk3 : (putC q ⟨xr, xs, xt, xk, xa, xb, xn, xp, xq⟩).length = K3 at *
      generalize hk4 : (skip i 0 q).length = K4 at *
      have P1 := hide (fun w' (h : Since w4 w') => (refsput_any _ _ _ _ q ⟨xr, xs, xt, xk, xa, xb, xn, xp, xq⟩ w' (HR4.out.below (by omega) h (fun _ _ h => h)) (by omega)).mono fun e w2 hf => kept_of h hf hk3 HP4.out)
      have P2 := hide (fun w' (h : Since w4 w') => (refwithout_any _ _ _ _ q i w' (HR4.out.below (by omega) h (fun _ _ h => h)) (by omega)).mono fun e w2 hf => kept_of h hf hk4 HQ4.out)
      have P3 := hide (fun w' (h : Since w4 w') => (sfind_any _ _ _ _ q r s w' (HO4.out.below (by omega) h (fun _ _ h => h))).mono fun e w2 hh => And.intro hh.1 (Since.next h hh.2))
      have P4 := hide (fun w' (h : Since w4 w') => (refseek_any _ _ _ _ q r s w' (HR4.out.below (by omega) h (fun _ _ h => h))).mono fun e w2 hh => And.intro hh.1 (Since.next h hh.2))
      have P5 := hide (fun w' (h : Since w4 w') => (slast_any _ _ _ _ q w' (HO4.out.below (by omega) h (fun _ _ h => h)) HOK.out).mono fun e w2 hh => And.intro hh.1 (Since.next h hh.2))
      have P6 := hide (fun w' (h : Since w4 w') => (changes_any _ _ _ _ _ _ _ _ q q w' (HO4.out.below (by omega) h (fun _ _ h => h)) (HR4.out.below (by omega) h (fun _ _ h => h))).mono fun e w2 hh => And.intro hh.1 (Since.next h hh.2))
      rw [decide_eq_true rfl] at P6
      rw [← HT.out] at P5
      generalize seek r s 0 q = F at *
      clear kA kI hk3 hk4 HR4 HO4 HP4 HQ4 HS4 HB4 hs34 HS3 HP3 HO3 HO3w HR2 HO2 HB2 HS2 HI HA HBW HOK HT HLM hi hz0 hz1 hz2
      go_wp2_with fail
      go_region_held (fun w' => Since w4 w') (assumption) (first
        | (go_at_call 13; refine (P1.out _ (by assumption)).mono ?_; rintro e w7 ⟨A7, c7, rfl, hq7, hs77, hs7⟩)
        | (go_at_call_of 12 (Value.slice A3 K3 c3); refine (hq7.out _ (by assumption)).mono ?_; rintro e w8 ⟨rfl, hs8⟩)
        | (go_at_call 14; refine (P2.out _ (by assumption)).mono ?_; rintro e w9 ⟨A9, c9, rfl, hq9, hs99, hs9⟩)
        | (go_at_call_of 12 (Value.slice A4 K4 c4); refine (hq9.out _ (by assumption)).mono ?_; rintro e w10 ⟨rfl, hs10⟩)
        | (go_at_call 15; refine (P3.out _ (by assumption)).mono ?_; rintro e w11 ⟨rfl, hs11⟩)
        | (go_at_call 16; refine (P4.out _ (by assumption)).mono ?_; rintro e w12 ⟨rfl, hs12⟩)
        | (go_at_call 17; refine (P5.out _ (by assumption)).mono ?_; rintro e w13 ⟨rfl, hs13⟩)
        | (go_at_call_of 12 (Value.slice A2 j c2); refine (P6.out _ (by assumption)).mono ?_; rintro e w14 ⟨rfl, hs14⟩))
      all_goals go_wp2
      all_goals go_ret
      all_goals exact ⟨rfl, HBx.out _ hs14⟩
end Go.Proofs.Ytfidglkhpikdbaa
