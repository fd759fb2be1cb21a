/-
  The program's contracts of layer 9: Put, whose octets a closure puts. (Made by gen-changeput.py.)
-/
import Derived.Test.YtfmddljljdoapaaChangeCheck
import Derived.Test.YtfmddljljdoapaaOctPut
import Derived.Deep.RegionHeld3
namespace Go.Proofs.Ytfmddljljdoapaa
open Go.RowKit
set_option linter.unusedVariables false

/-- What the closure comes to: the captured slice is another, of its own. -/
def PutOne (B : Nat) (m : List Int) (w w' : World) (e : Ending) : Prop :=
  ∃ A c, e = .returned (.tuple #[]) ∧ Blk w' B 27 #[.slice A m.length c] ∧ w'.ownsRow w.heap.size 5 1 (.slice A m.length c) m.length (octs m) ∧ Touch (· = B) w w'
theorem PutOne.row {B : Nat} {m : List Int} {w w' : World} {e : Ending} (h : PutOne B m w w' e) {n : Nat} (hn : m.length = n) : ∃ A c, e = .returned (.tuple #[]) ∧ Blk w' B 27 #[.slice A n c] ∧ w'.ownsRow w.heap.size 5 1 (.slice A n c) n (octs m) ∧ Touch (· = B) w w' := by
  subst hn; exact h
theorem own_far {w : World} {base : Nat} {e : TypeId} {v : Value} {n : Nat} {xs : List Value} (h : w.ownsRow base e 1 v n xs) {p : Addr} (hp : p.block < base) (u : Value) : (w.setCell p u).ownsRow base e 1 v n xs := by
  refine ⟨h.1, ?_⟩
  rcases h.2 with h0 | ⟨g, cap, cur, e1, h2, h3, h4⟩
  · exact .inl h0
  · exact .inr ⟨g, cap, cur, e1, h2, (Below.heap_setCell w p u g (by omega)).trans h3, h4⟩
set_option maxHeartbeats 2000000 in
theorem cputone_any (P : Nat → Prop) (B : Nat) (A : Option Addr) (m c : Nat) (l : List Int) (n : Int) (k : Nat) (w : World) (hv : Blk w B 27 #[.slice A m c]) (h : Row w P A m c (octs l)) (ho : Octs l) (hm : m ≤ 1000) (hn : I64 n) (h1 : 1 ≤ k) (h8 : k ≤ 8) :
    Calls Try.prog 17 #[.int .i64 n, .int .i64 k, .pointer (some ⟨B, 0, none⟩)] w fun e w' => PutOne B (l ++ inOcts (IntKind.u64.wrap n) k) w w' e := by
  have c0 := (hv.cell 0).trans (show _ = some (Value.slice A m c) from rfl)
  have HV := hide hv
  have HR := hide h
  have HO := hide ho
  have hmm : 0 ≤ IntKind.u64.wrap n ∧ IntKind.u64.wrap n ≤ 18446744073709551615 := by rw [IntKind.wrap_u64]; omega
  have HM := hide hmm
  have HL := hide h.1
  clear hv h ho hmm hn
  go_enter Try.func17, Try.ntmps17
  go_wp2_with fail
  refine (put_yes P A m c l (IntKind.u64.wrap n) k _ HR.out HO.out (by omega) HM.out.1 HM.out.2 h1 h8).mono ?_
  rintro e w1 ⟨A1, d1, rfl, hown, hb⟩
  have hB : B < w.heap.size := HV.out.lt
  have HB1 := hide (HV.out.below hb hB)
  have e0 := (HB1.out.cell 0).trans (show _ = some (Value.slice A m c) from rfl)
  have f0 := HB1.out.frozen 0
  have HOW := hide hown
  have HBL := hide hb
  have HBB := hide hB
  clear hown hb hB
  go_wp2
  go_end0
  refine ⟨A1, d1, rfl, ?_, own_far HOW.out HBB.out _, Touch.setCell (show Touch (· = B) w w1 from (Touch.of_below HBL.out).mono (fun k _ hk => hk.elim)) (fun _ => rfl) _⟩
  rw [List.length_append]
  exact HB1.out.store 0 _

/-- The octets that the closure puts are the change's. -/
theorem bytesC_wrap {x : Chg} (h : mayC x = true) : [] ++ inOcts (IntKind.u64.wrap x.r) 1 ++ inOcts (IntKind.u64.wrap x.s) 2 ++ inOcts (IntKind.u64.wrap x.t) 4 ++ inOcts (IntKind.u64.wrap x.k) 1 ++ inOcts (IntKind.u64.wrap x.a) 1 ++ inOcts (IntKind.u64.wrap x.b) 1 ++ inOcts (IntKind.u64.wrap x.n) 8 ++ inOcts (IntKind.u64.wrap x.p) 1 ++ inOcts (IntKind.u64.wrap x.q) 2 ++ inOcts (IntKind.u64.wrap 67) 1 = bytesC x := by
  obtain ⟨⟨r0, r1, s0, s1⟩, t0, t1, k0, k1, a0, a1, b0, b1, p0, p1, q0, q1⟩ := mayC_ h
  have w0 : ∀ z : Int, 0 ≤ z → z ≤ 1073741824 → IntKind.u64.wrap z = z := fun z h1 h2 => by rw [IntKind.wrap_u64]; omega
  have one : ∀ z : Int, 0 ≤ z → z ≤ 255 → inOcts z 1 = [z] := fun z h1 h2 => by simp [inOcts]; omega
  rw [w0 x.r (by omega) (by omega), w0 x.s (by omega) (by omega), w0 x.t (by omega) (by omega), w0 x.k (by omega) (by omega), w0 x.a (by omega) (by omega), w0 x.b (by omega) (by omega), w0 x.p (by omega) (by omega), w0 x.q (by omega) (by omega), w0 67 (by omega) (by omega)]
  rw [one x.k k0 k1, one x.a a0 a1, one x.b b0 b1, one x.p p0 p1, one 67 (by omega) (by omega)]
  simp [bytesC]

set_option maxHeartbeats 8000000 in
theorem cput_any (x : Chg) (hx : x.ok) (w : World) : Calls Try.prog 7 #[x.val] w fun e w' => FreshE w (putM x) (putK x) w' e := by
  have hck := fun W => ccheck_any x hx W
  have HXO := hide hx
  cases hm : mayC x with
  | false =>
    rw [putM_no hm]
    have HKK := hide (putK_no hm)
    rw [HKK.out] at hck ⊢
    have HCK := hide hck
    obtain ⟨W, hW⟩ : ∃ W, W = w.alloc (.cells #[.int .i64 x.r, .int .i64 x.s, .int .i64 x.t, .int .i64 x.k, .int .i64 x.a, .int .i64 x.b, .int .i64 x.n, .int .i64 x.p, .int .i64 x.q] 25) := ⟨_, rfl⟩
    have HA := hide (show At W w.heap.size 0 x by rw [hW]; exact at_new w x _)
    have HBW := hide (show Below w.heap.size w W by rw [hW]; exact (Below.refl _ w).alloc (Nat.le_refl _) _)
    have HW := hide hW
    obtain ⟨x0, x1, x2, x3, x4, x5, x6, x7, x8⟩ := HA.out
    simp only [Nat.zero_add] at x0 x1 x2 x3 x4 x5 x6 x7 x8
    obtain ⟨r, s, t, k, a, b, n, p, q⟩ := x
    unfold Chg.val at *
    simp only at *
    clear hck hm hW hx
    go_enter Try.func7, Try.ntmps7
    go_wp2_with fail
    rw [← HW.out]
    refine (HCK.out _).mono ?_
    rintro e w1 ⟨rfl, hb⟩
    have HB1 := hide (HBW.out.trans (hb.mono HBW.out.size))
    clear hb x0 x1 x2 x3 x4 x5 x6 x7 x8
    go_wp2
    go_ret2
    exact ⟨none, 0, rfl, World.ownsRow_nil _ _ _ _, HB1.out⟩
  | true =>
    rw [putM_yes hm]
    have HKK := hide (putK_yes hm)
    rw [HKK.out] at hck ⊢
    have HCK := hide hck
    have HBY := hide (bytesC_wrap hm)
    have HLB := hide (bytesC_len x)
    obtain ⟨W, hW⟩ : ∃ W, W = w.alloc (.cells #[.int .i64 x.r, .int .i64 x.s, .int .i64 x.t, .int .i64 x.k, .int .i64 x.a, .int .i64 x.b, .int .i64 x.n, .int .i64 x.p, .int .i64 x.q] 25) := ⟨_, rfl⟩
    have HWs := hide (show W.heap.size = w.heap.size + 1 by rw [hW]; simp)
    have HA := hide (show At W w.heap.size 0 x by rw [hW]; exact at_new w x _)
    have HBW := hide (show Below w.heap.size w W by rw [hW]; exact (Below.refl _ w).alloc (Nat.le_refl _) _)
    have HW := hide hW
    obtain ⟨x0, x1, x2, x3, x4, x5, x6, x7, x8⟩ := HA.out
    simp only [Nat.zero_add] at x0 x1 x2 x3 x4 x5 x6 x7 x8
    generalize bytesC x = BY at *
    obtain ⟨ir, is, it, ik, ia, ib, inn, ip, iq⟩ := HXO.out
    have i67 : I64 67 := by unfold I64; omega
    obtain ⟨r, s, t, k, a, b, n, p, q⟩ := x
    unfold Chg.val at *
    simp only at *
    have HI := hide ir
    clear hck hm hW hx ir
    go_enter Try.func7, Try.ntmps7
    go_wp2_with fail
    rw [← HW.out]
    refine (HCK.out _).mono ?_
    rintro e w1 ⟨rfl, hb⟩
    have HB1 := hide (HBW.out.trans (hb.mono HBW.out.size))
    have HA1 := hide (HA.out.below hb (by rw [HWs.out]; omega))
    have HS1 := hide (show w.heap.size < w1.heap.size by have := hb.size; have := HWs.out; omega)
    clear hb x0 x1 x2 x3 x4 x5 x6 x7 x8
    obtain ⟨W2, hW2⟩ : ∃ W2, W2 = w1.alloc (.cells #[.slice none 0 0] 27) := ⟨_, rfl⟩
    have HV := hide (show Blk W2 w1.heap.size 27 #[.slice none 0 0] by rw [hW2]; exact Blk.new w1 _ _)
    have HA2 := hide (show At W2 w.heap.size 0 _ by rw [hW2]; exact HA1.out.below ((Below.refl w1.heap.size w1).alloc (Nat.le_refl _) _) HS1.out)
    have HB2 := hide (show Below w.heap.size w W2 by rw [hW2]; exact HB1.out.alloc HB1.out.size _)
    have HS2 := hide (show W2.heap.size = w1.heap.size + 1 by rw [hW2]; simp)
    have HW2 := hide hW2
    have HR := hide (Row.nil W2 (fun _ => True) none)
    have HQ := hide (show Octs [] from fun n hn => by cases hn)
    obtain ⟨x0, -⟩ := HA2.out
    rw [HW2.out] at x0
    clear hW2
    go_wp2_with fail
    rw [← HW2.out]
    refine (cputone_any _ w1.heap.size none 0 0 _ r 1 _ HV.out HR.out HQ.out (by omega) HI.out (by omega) (by omega)).mono ?_
    rintro e w3 hp
    obtain ⟨A3, d3, rfl, hv, hown, ht⟩ := hp.row (n := 1) (by simp [inOcts_len])
    have hb := ht.below (B := w1.heap.size) (Nat.le_of_lt HV.out.lt) (fun k hk e => by omega)
    have HO := hide (own_mono (base' := w.heap.size) hown (Nat.le_of_lt (Nat.lt_trans HS1.out HV.out.lt)))
    have HV := hide hv
    have HR := hide (Row.of_own hown)
    have HQ := hide (HQ.out.append (inOcts_octs (IntKind.u64.wrap r) 1))
    have HA2 := hide (HA2.out.below hb HS1.out)
    have HB2 := hide (HB2.out.trans (hb.mono (Nat.le_of_lt HS1.out)))
    clear hv hown ht hb hp
    clear x0
    obtain ⟨x0, x1, x2, x3, x4, x5, x6, x7, x8⟩ := HA2.out
    simp only [Nat.zero_add] at x0 x1 x2 x3 x4 x5 x6 x7 x8
    go_wp2_with fail
    refine (cputone_any _ w1.heap.size A3 1 d3 _ s 2 _ HV.out HR.out HQ.out (by omega) is (by omega) (by omega)).mono ?_
    rintro e w4 hp
    obtain ⟨A4, d4, rfl, hv, hown, ht⟩ := hp.row (n := 3) (by simp [inOcts_len])
    have hb := ht.below (B := w1.heap.size) (Nat.le_of_lt HV.out.lt) (fun k hk e => by omega)
    have HO := hide (own_mono (base' := w.heap.size) hown (Nat.le_of_lt (Nat.lt_trans HS1.out HV.out.lt)))
    have HV := hide hv
    have HR := hide (Row.of_own hown)
    have HQ := hide (HQ.out.append (inOcts_octs (IntKind.u64.wrap s) 2))
    have HA2 := hide (HA2.out.below hb HS1.out)
    have HB2 := hide (HB2.out.trans (hb.mono (Nat.le_of_lt HS1.out)))
    clear hv hown ht hb hp
    clear x0 x1 x2 x3 x4 x5 x6 x7 x8
    obtain ⟨x0, x1, x2, x3, x4, x5, x6, x7, x8⟩ := HA2.out
    simp only [Nat.zero_add] at x0 x1 x2 x3 x4 x5 x6 x7 x8
    go_wp2_with fail
    refine (cputone_any _ w1.heap.size A4 3 d4 _ t 4 _ HV.out HR.out HQ.out (by omega) it (by omega) (by omega)).mono ?_
    rintro e w5 hp
    obtain ⟨A5, d5, rfl, hv, hown, ht⟩ := hp.row (n := 7) (by simp [inOcts_len])
    have hb := ht.below (B := w1.heap.size) (Nat.le_of_lt HV.out.lt) (fun k hk e => by omega)
    have HO := hide (own_mono (base' := w.heap.size) hown (Nat.le_of_lt (Nat.lt_trans HS1.out HV.out.lt)))
    have HV := hide hv
    have HR := hide (Row.of_own hown)
    have HQ := hide (HQ.out.append (inOcts_octs (IntKind.u64.wrap t) 4))
    have HA2 := hide (HA2.out.below hb HS1.out)
    have HB2 := hide (HB2.out.trans (hb.mono (Nat.le_of_lt HS1.out)))
    clear hv hown ht hb hp
    clear x0 x1 x2 x3 x4 x5 x6 x7 x8
    obtain ⟨x0, x1, x2, x3, x4, x5, x6, x7, x8⟩ := HA2.out
    simp only [Nat.zero_add] at x0 x1 x2 x3 x4 x5 x6 x7 x8
    go_wp2_with fail
    refine (cputone_any _ w1.heap.size A5 7 d5 _ k 1 _ HV.out HR.out HQ.out (by omega) ik (by omega) (by omega)).mono ?_
    rintro e w6 hp
    obtain ⟨A6, d6, rfl, hv, hown, ht⟩ := hp.row (n := 8) (by simp [inOcts_len])
    have hb := ht.below (B := w1.heap.size) (Nat.le_of_lt HV.out.lt) (fun k hk e => by omega)
    have HO := hide (own_mono (base' := w.heap.size) hown (Nat.le_of_lt (Nat.lt_trans HS1.out HV.out.lt)))
    have HV := hide hv
    have HR := hide (Row.of_own hown)
    have HQ := hide (HQ.out.append (inOcts_octs (IntKind.u64.wrap k) 1))
    have HA2 := hide (HA2.out.below hb HS1.out)
    have HB2 := hide (HB2.out.trans (hb.mono (Nat.le_of_lt HS1.out)))
    clear hv hown ht hb hp
    clear x0 x1 x2 x3 x4 x5 x6 x7 x8
    obtain ⟨x0, x1, x2, x3, x4, x5, x6, x7, x8⟩ := HA2.out
    simp only [Nat.zero_add] at x0 x1 x2 x3 x4 x5 x6 x7 x8
    go_wp2_with fail
    refine (cputone_any _ w1.heap.size A6 8 d6 _ a 1 _ HV.out HR.out HQ.out (by omega) ia (by omega) (by omega)).mono ?_
    rintro e w7 hp
    obtain ⟨A7, d7, rfl, hv, hown, ht⟩ := hp.row (n := 9) (by simp [inOcts_len])
    have hb := ht.below (B := w1.heap.size) (Nat.le_of_lt HV.out.lt) (fun k hk e => by omega)
    have HO := hide (own_mono (base' := w.heap.size) hown (Nat.le_of_lt (Nat.lt_trans HS1.out HV.out.lt)))
    have HV := hide hv
    have HR := hide (Row.of_own hown)
    have HQ := hide (HQ.out.append (inOcts_octs (IntKind.u64.wrap a) 1))
    have HA2 := hide (HA2.out.below hb HS1.out)
    have HB2 := hide (HB2.out.trans (hb.mono (Nat.le_of_lt HS1.out)))
    clear hv hown ht hb hp
    clear x0 x1 x2 x3 x4 x5 x6 x7 x8
    obtain ⟨x0, x1, x2, x3, x4, x5, x6, x7, x8⟩ := HA2.out
    simp only [Nat.zero_add] at x0 x1 x2 x3 x4 x5 x6 x7 x8
    go_wp2_with fail
    refine (cputone_any _ w1.heap.size A7 9 d7 _ b 1 _ HV.out HR.out HQ.out (by omega) ib (by omega) (by omega)).mono ?_
    rintro e w8 hp
    obtain ⟨A8, d8, rfl, hv, hown, ht⟩ := hp.row (n := 10) (by simp [inOcts_len])
    have hb := ht.below (B := w1.heap.size) (Nat.le_of_lt HV.out.lt) (fun k hk e => by omega)
    have HO := hide (own_mono (base' := w.heap.size) hown (Nat.le_of_lt (Nat.lt_trans HS1.out HV.out.lt)))
    have HV := hide hv
    have HR := hide (Row.of_own hown)
    have HQ := hide (HQ.out.append (inOcts_octs (IntKind.u64.wrap b) 1))
    have HA2 := hide (HA2.out.below hb HS1.out)
    have HB2 := hide (HB2.out.trans (hb.mono (Nat.le_of_lt HS1.out)))
    clear hv hown ht hb hp
    clear x0 x1 x2 x3 x4 x5 x6 x7 x8
    obtain ⟨x0, x1, x2, x3, x4, x5, x6, x7, x8⟩ := HA2.out
    simp only [Nat.zero_add] at x0 x1 x2 x3 x4 x5 x6 x7 x8
    go_wp2_with fail
    refine (cputone_any _ w1.heap.size A8 10 d8 _ n 8 _ HV.out HR.out HQ.out (by omega) inn (by omega) (by omega)).mono ?_
    rintro e w9 hp
    obtain ⟨A9, d9, rfl, hv, hown, ht⟩ := hp.row (n := 18) (by simp [inOcts_len])
    have hb := ht.below (B := w1.heap.size) (Nat.le_of_lt HV.out.lt) (fun k hk e => by omega)
    have HO := hide (own_mono (base' := w.heap.size) hown (Nat.le_of_lt (Nat.lt_trans HS1.out HV.out.lt)))
    have HV := hide hv
    have HR := hide (Row.of_own hown)
    have HQ := hide (HQ.out.append (inOcts_octs (IntKind.u64.wrap n) 8))
    have HA2 := hide (HA2.out.below hb HS1.out)
    have HB2 := hide (HB2.out.trans (hb.mono (Nat.le_of_lt HS1.out)))
    clear hv hown ht hb hp
    clear x0 x1 x2 x3 x4 x5 x6 x7 x8
    obtain ⟨x0, x1, x2, x3, x4, x5, x6, x7, x8⟩ := HA2.out
    simp only [Nat.zero_add] at x0 x1 x2 x3 x4 x5 x6 x7 x8
    go_wp2_with fail
    refine (cputone_any _ w1.heap.size A9 18 d9 _ p 1 _ HV.out HR.out HQ.out (by omega) ip (by omega) (by omega)).mono ?_
    rintro e w10 hp
    obtain ⟨A10, d10, rfl, hv, hown, ht⟩ := hp.row (n := 19) (by simp [inOcts_len])
    have hb := ht.below (B := w1.heap.size) (Nat.le_of_lt HV.out.lt) (fun k hk e => by omega)
    have HO := hide (own_mono (base' := w.heap.size) hown (Nat.le_of_lt (Nat.lt_trans HS1.out HV.out.lt)))
    have HV := hide hv
    have HR := hide (Row.of_own hown)
    have HQ := hide (HQ.out.append (inOcts_octs (IntKind.u64.wrap p) 1))
    have HA2 := hide (HA2.out.below hb HS1.out)
    have HB2 := hide (HB2.out.trans (hb.mono (Nat.le_of_lt HS1.out)))
    clear hv hown ht hb hp
    clear x0 x1 x2 x3 x4 x5 x6 x7 x8
    obtain ⟨x0, x1, x2, x3, x4, x5, x6, x7, x8⟩ := HA2.out
    simp only [Nat.zero_add] at x0 x1 x2 x3 x4 x5 x6 x7 x8
    go_wp2_with fail
    refine (cputone_any _ w1.heap.size A10 19 d10 _ q 2 _ HV.out HR.out HQ.out (by omega) iq (by omega) (by omega)).mono ?_
    rintro e w11 hp
    obtain ⟨A11, d11, rfl, hv, hown, ht⟩ := hp.row (n := 21) (by simp [inOcts_len])
    have hb := ht.below (B := w1.heap.size) (Nat.le_of_lt HV.out.lt) (fun k hk e => by omega)
    have HO := hide (own_mono (base' := w.heap.size) hown (Nat.le_of_lt (Nat.lt_trans HS1.out HV.out.lt)))
    have HV := hide hv
    have HR := hide (Row.of_own hown)
    have HQ := hide (HQ.out.append (inOcts_octs (IntKind.u64.wrap q) 2))
    have HA2 := hide (HA2.out.below hb HS1.out)
    have HB2 := hide (HB2.out.trans (hb.mono (Nat.le_of_lt HS1.out)))
    clear hv hown ht hb hp
    clear x0 x1 x2 x3 x4 x5 x6 x7 x8
    obtain ⟨x0, x1, x2, x3, x4, x5, x6, x7, x8⟩ := HA2.out
    simp only [Nat.zero_add] at x0 x1 x2 x3 x4 x5 x6 x7 x8
    go_wp2_with fail
    refine (cputone_any _ w1.heap.size A11 21 d11 _ 67 1 _ HV.out HR.out HQ.out (by omega) i67 (by omega) (by omega)).mono ?_
    rintro e w12 hp
    obtain ⟨A12, d12, rfl, hv, hown, ht⟩ := hp.row (n := 22) (by simp [inOcts_len])
    have hb := ht.below (B := w1.heap.size) (Nat.le_of_lt HV.out.lt) (fun k hk e => by omega)
    have HO := hide (own_mono (base' := w.heap.size) hown (Nat.le_of_lt (Nat.lt_trans HS1.out HV.out.lt)))
    have HV := hide hv
    have HR := hide (Row.of_own hown)
    have HQ := hide (HQ.out.append (inOcts_octs (IntKind.u64.wrap 67) 1))
    have HA2 := hide (HA2.out.below hb HS1.out)
    have HB2 := hide (HB2.out.trans (hb.mono (Nat.le_of_lt HS1.out)))
    clear hv hown ht hb hp
    rw [HBY.out] at HO
    have cv := (HV.out.cell 0).trans (show _ = some (Value.slice A12 22 d12) from rfl)
    go_wp2
    go_ret2
    refine ⟨A12, d12, ?_, ?_, HB2.out⟩
    · rw [HLB.out]; rfl
    · rw [HLB.out]; exact HO.out
end Go.Proofs.Ytfmddljljdoapaa
