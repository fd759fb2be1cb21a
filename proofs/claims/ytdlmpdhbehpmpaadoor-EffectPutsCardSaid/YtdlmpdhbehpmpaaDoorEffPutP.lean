/-
  The program's contracts of layer 10: Put. (Made by gen-effput.py.)
-/
import Derived.Test.YtdlmpdhbehpmpaaDoorEffCheckP
import Derived.Test.YtdlmpdhbehpmpaaDoorEffPut
import Derived.Test.YtdlmpdhbehpmpaaDoorOctPut
namespace Go.Proofs.YtdlmpdhbehpmpaaDoor
open Go.RowKit
set_option linter.unusedVariables false

/-- The octets that Put puts are the effect's. -/
theorem bytesE_wrap {x : Eff} (h : codeE x = 0) : [] ++ inOcts (IntKind.u64.wrap x.k) 1 ++ inOcts (IntKind.u64.wrap x.a) 1 ++ inOcts (IntKind.u64.wrap x.n) 8 ++ inOcts (IntKind.u64.wrap x.p) 1 ++ inOcts (IntKind.u64.wrap x.q) 2 = bytesE x := by
  obtain ⟨k0, k1, a0, a1, p0, p1, q0, q1⟩ := codeE_zero.1 h
  have w0 : ∀ z : Int, 0 ≤ z → z ≤ 1073741824 → IntKind.u64.wrap z = z := fun z h1 h2 => by rw [IntKind.wrap_u64]; omega
  have one : ∀ z : Int, 0 ≤ z → z ≤ 255 → inOcts z 1 = [z] := fun z h1 h2 => by simp [inOcts]; omega
  rw [w0 x.k (by omega) (by omega), w0 x.a (by omega) (by omega), w0 x.p (by omega) (by omega), w0 x.q (by omega) (by omega)]
  rw [one x.k (by omega) (by omega), one x.a a0 a1, one x.p p0 p1]
  simp [bytesE]
theorem wrap_u64_in (z : Int) : 0 ≤ IntKind.u64.wrap z ∧ IntKind.u64.wrap z ≤ 18446744073709551615 := by rw [IntKind.wrap_u64]; omega

set_option maxHeartbeats 8000000 in
theorem eput_any (x : Eff) (hx : x.ok) (w : World) : Calls Tryd.prog 8 #[x.val] w fun e w' => FreshE w (putEM x) (codeE x) w' e := by
  have hck := fun W => echeck_all x W
  rcases codeE_three x with hm | hm | hm
  · rw [putEM_yes hm]
    rw [hm] at hck ⊢
    have HCK := hide hck
    have HBY := hide (bytesE_wrap hm)
    have HLB := hide (bytesE_len x)
    obtain ⟨W, hW⟩ : ∃ W, W = w.alloc (.cells #[.int .i64 x.k, .int .i64 x.a, .int .i64 x.n, .int .i64 x.p, .int .i64 x.q] 25) := ⟨_, rfl⟩
    have HWs := hide (show W.heap.size = w.heap.size + 1 by rw [hW]; simp)
    have HA := hide (show Eff.At W w.heap.size 0 x by rw [hW]; exact eff_at_new w x _)
    have HBW := hide (show Below w.heap.size w W by rw [hW]; exact (Below.refl _ w).alloc (Nat.le_refl _) _)
    have HW := hide hW
    obtain ⟨x0, x1, x2, x3, x4⟩ := HA.out
    simp only [Nat.zero_add] at x0 x1 x2 x3 x4
    generalize bytesE x = BY at *
    obtain ⟨k, a, n, p, q⟩ := x
    clear hck hm hW hx
    unfold Eff.val at *
    simp only at *
    go_enter Tryd.func8, Tryd.ntmps8
    go_wp2_with fail
    rw [← HW.out]
    refine (HCK.out _).mono ?_
    rintro e w1 ⟨rfl, hb⟩
    have HB1 := hide (HBW.out.trans (hb.mono HBW.out.size))
    have HA1 := hide (HA.out.below hb (by rw [HWs.out]; omega))
    have HS1 := hide (show w.heap.size < w1.heap.size by have := hb.size; have := HWs.out; omega)
    have HR := hide (Row.nil w1 (fun _ => True) none)
    have HQ := hide (show Octs [] from fun n hn => by cases hn)
    clear hb x0 x1 x2 x3 x4
    obtain ⟨x0, x1, x2, x3, x4⟩ := HA1.out
    simp only [Nat.zero_add] at x0 x1 x2 x3 x4
    go_wp2_with fail
    refine (put_yes _ none 0 0 _ (IntKind.u64.wrap k) 1 _ HR.out HQ.out (by omega) (wrap_u64_in k).1 (wrap_u64_in k).2 (by omega) (by omega)).mono ?_
    rintro e w2 hp
    obtain ⟨A0, d0, rfl, hown, hb⟩ := hp.row (k := 1) (by simp [inOcts_len])
    have HO := hide (own_mono (base' := w.heap.size) hown HB1.out.size)
    have HR := hide (Row.of_own hown)
    have HQ := hide (HQ.out.append (inOcts_octs (IntKind.u64.wrap k) 1))
    have HA1 := hide (HA1.out.below hb HS1.out)
    have HB1 := hide (HB1.out.trans (hb.mono HB1.out.size))
    have HS1 := hide (Nat.lt_of_lt_of_le HS1.out hb.size)
    clear hown hb hp x0 x1 x2 x3 x4
    obtain ⟨x0, x1, x2, x3, x4⟩ := HA1.out
    simp only [Nat.zero_add] at x0 x1 x2 x3 x4
    go_wp2_with fail
    refine (put_yes _ A0 1 d0 _ (IntKind.u64.wrap a) 1 _ HR.out HQ.out (by omega) (wrap_u64_in a).1 (wrap_u64_in a).2 (by omega) (by omega)).mono ?_
    rintro e w3 hp
    obtain ⟨A1, d1, rfl, hown, hb⟩ := hp.row (k := 2) (by simp [inOcts_len])
    have HO := hide (own_mono (base' := w.heap.size) hown HB1.out.size)
    have HR := hide (Row.of_own hown)
    have HQ := hide (HQ.out.append (inOcts_octs (IntKind.u64.wrap a) 1))
    have HA1 := hide (HA1.out.below hb HS1.out)
    have HB1 := hide (HB1.out.trans (hb.mono HB1.out.size))
    have HS1 := hide (Nat.lt_of_lt_of_le HS1.out hb.size)
    clear hown hb hp x0 x1 x2 x3 x4
    obtain ⟨x0, x1, x2, x3, x4⟩ := HA1.out
    simp only [Nat.zero_add] at x0 x1 x2 x3 x4
    go_wp2_with fail
    refine (put_yes _ A1 2 d1 _ (IntKind.u64.wrap n) 8 _ HR.out HQ.out (by omega) (wrap_u64_in n).1 (wrap_u64_in n).2 (by omega) (by omega)).mono ?_
    rintro e w4 hp
    obtain ⟨A2, d2, rfl, hown, hb⟩ := hp.row (k := 10) (by simp [inOcts_len])
    have HO := hide (own_mono (base' := w.heap.size) hown HB1.out.size)
    have HR := hide (Row.of_own hown)
    have HQ := hide (HQ.out.append (inOcts_octs (IntKind.u64.wrap n) 8))
    have HA1 := hide (HA1.out.below hb HS1.out)
    have HB1 := hide (HB1.out.trans (hb.mono HB1.out.size))
    have HS1 := hide (Nat.lt_of_lt_of_le HS1.out hb.size)
    clear hown hb hp x0 x1 x2 x3 x4
    obtain ⟨x0, x1, x2, x3, x4⟩ := HA1.out
    simp only [Nat.zero_add] at x0 x1 x2 x3 x4
    go_wp2_with fail
    refine (put_yes _ A2 10 d2 _ (IntKind.u64.wrap p) 1 _ HR.out HQ.out (by omega) (wrap_u64_in p).1 (wrap_u64_in p).2 (by omega) (by omega)).mono ?_
    rintro e w5 hp
    obtain ⟨A3, d3, rfl, hown, hb⟩ := hp.row (k := 11) (by simp [inOcts_len])
    have HO := hide (own_mono (base' := w.heap.size) hown HB1.out.size)
    have HR := hide (Row.of_own hown)
    have HQ := hide (HQ.out.append (inOcts_octs (IntKind.u64.wrap p) 1))
    have HA1 := hide (HA1.out.below hb HS1.out)
    have HB1 := hide (HB1.out.trans (hb.mono HB1.out.size))
    have HS1 := hide (Nat.lt_of_lt_of_le HS1.out hb.size)
    clear hown hb hp x0 x1 x2 x3 x4
    obtain ⟨x0, x1, x2, x3, x4⟩ := HA1.out
    simp only [Nat.zero_add] at x0 x1 x2 x3 x4
    go_wp2_with fail
    refine (put_yes _ A3 11 d3 _ (IntKind.u64.wrap q) 2 _ HR.out HQ.out (by omega) (wrap_u64_in q).1 (wrap_u64_in q).2 (by omega) (by omega)).mono ?_
    rintro e w6 hp
    obtain ⟨A4, d4, rfl, hown, hb⟩ := hp.row (k := 13) (by simp [inOcts_len])
    have HO := hide (own_mono (base' := w.heap.size) hown HB1.out.size)
    have HR := hide (Row.of_own hown)
    have HQ := hide (HQ.out.append (inOcts_octs (IntKind.u64.wrap q) 2))
    have HA1 := hide (HA1.out.below hb HS1.out)
    have HB1 := hide (HB1.out.trans (hb.mono HB1.out.size))
    have HS1 := hide (Nat.lt_of_lt_of_le HS1.out hb.size)
    clear hown hb hp x0 x1 x2 x3 x4
    go_wp2
    go_ret2
    unfold FreshE
    rw [HLB.out]
    have ho := HO.out
    rw [HBY.out] at ho
    exact ⟨_, _, rfl, ho, HB1.out⟩
  · rw [putEM_no (by rw [hm]; decide)]
    rw [hm] at hck ⊢
    have HCK := hide hck
    obtain ⟨W, hW⟩ : ∃ W, W = w.alloc (.cells #[.int .i64 x.k, .int .i64 x.a, .int .i64 x.n, .int .i64 x.p, .int .i64 x.q] 25) := ⟨_, rfl⟩
    have HWs := hide (show W.heap.size = w.heap.size + 1 by rw [hW]; simp)
    have HA := hide (show Eff.At W w.heap.size 0 x by rw [hW]; exact eff_at_new w x _)
    have HBW := hide (show Below w.heap.size w W by rw [hW]; exact (Below.refl _ w).alloc (Nat.le_refl _) _)
    have HW := hide hW
    obtain ⟨x0, x1, x2, x3, x4⟩ := HA.out
    simp only [Nat.zero_add] at x0 x1 x2 x3 x4
    obtain ⟨k, a, n, p, q⟩ := x
    clear hck hm hW hx
    unfold Eff.val at *
    simp only at *
    go_enter Tryd.func8, Tryd.ntmps8
    go_wp2_with fail
    rw [← HW.out]
    refine (HCK.out _).mono ?_
    rintro e w1 ⟨rfl, hb⟩
    have HB1 := hide (HBW.out.trans (hb.mono HBW.out.size))
    clear hb x0 x1 x2 x3 x4
    go_wp2
    go_ret2
    exact ⟨none, 0, rfl, World.ownsRow_nil _ _ _ _, HB1.out⟩
  · rw [putEM_no (by rw [hm]; decide)]
    rw [hm] at hck ⊢
    have HCK := hide hck
    obtain ⟨W, hW⟩ : ∃ W, W = w.alloc (.cells #[.int .i64 x.k, .int .i64 x.a, .int .i64 x.n, .int .i64 x.p, .int .i64 x.q] 25) := ⟨_, rfl⟩
    have HWs := hide (show W.heap.size = w.heap.size + 1 by rw [hW]; simp)
    have HA := hide (show Eff.At W w.heap.size 0 x by rw [hW]; exact eff_at_new w x _)
    have HBW := hide (show Below w.heap.size w W by rw [hW]; exact (Below.refl _ w).alloc (Nat.le_refl _) _)
    have HW := hide hW
    obtain ⟨x0, x1, x2, x3, x4⟩ := HA.out
    simp only [Nat.zero_add] at x0 x1 x2 x3 x4
    obtain ⟨k, a, n, p, q⟩ := x
    clear hck hm hW hx
    unfold Eff.val at *
    simp only at *
    go_enter Tryd.func8, Tryd.ntmps8
    go_wp2_with fail
    rw [← HW.out]
    refine (HCK.out _).mono ?_
    rintro e w1 ⟨rfl, hb⟩
    have HB1 := hide (HBW.out.trans (hb.mono HBW.out.size))
    clear hb x0 x1 x2 x3 x4
    go_wp2
    go_ret2
    exact ⟨none, 0, rfl, World.ownsRow_nil _ _ _ _, HB1.out⟩
end Go.Proofs.YtdlmpdhbehpmpaaDoor
