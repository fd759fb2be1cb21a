/-
  The walk of StampLies.
-/
import Derived.Test.YtfidglkhpikdbaaStampAlive
import Derived.Deep.DeepCutAuto
import Derived.Deep.Cut
import Derived.Deep.CutRange
import Derived.Deep.RegionWith
namespace Go.Proofs.Ytfidglkhpikdbaa
open Go.RowKit
set_option linter.unusedVariables false

theorem lessC_not (x y : Chg) (h : lessC x y = true) : lessC y x = false := by
  unfold lessC at *
  rw [decide_eq_true_iff] at h
  exact decide_eq_false (by omega)
theorem lessC_like (x y : Chg) : (x.t = y.t ∧ x.r = y.r ∧ x.s = y.s) ↔ (lessC x y = false ∧ lessC y x = false) := by
  unfold lessC
  rw [decide_eq_false_iff_not, decide_eq_false_iff_not]
  omega

set_option maxHeartbeats 4000000 in
theorem stamplies_walk (x y : Chg) (w : World) : Calls Try.prog 3 #[x.val, y.val] w fun e w' => e = .returned (.bool true) ∧ Below w.heap.size w w' := by
  obtain ⟨xr, xs, xt, xk, xa, xb, xn, xp, xq⟩ := x
  obtain ⟨yr, ys, yt, yk, ya, yb, yn, yp, yq⟩ := y
  obtain ⟨W, hW⟩ : ∃ W, W = (w.alloc (.cells #[.int .i64 xr, .int .i64 xs, .int .i64 xt, .int .i64 xk, .int .i64 xa, .int .i64 xb, .int .i64 xn, .int .i64 xp, .int .i64 xq] 25)).alloc (.cells #[.int .i64 yr, .int .i64 ys, .int .i64 yt, .int .i64 yk, .int .i64 ya, .int .i64 yb, .int .i64 yn, .int .i64 yp, .int .i64 yq] 25) := ⟨_, rfl⟩
  have hA : At W w.heap.size 0 ⟨xr, xs, xt, xk, xa, xb, xn, xp, xq⟩ := by
    rw [hW]
    exact (at_new w ⟨xr, xs, xt, xk, xa, xb, xn, xp, xq⟩ 25).below (B := w.heap.size + 1) (Below.alloc (Below.refl _ _) (by simp) _) (by omega)
  have hB : At W (w.heap.size + 1) 0 ⟨yr, ys, yt, yk, ya, yb, yn, yp, yq⟩ := by
    rw [hW]
    have := at_new (w.alloc (.cells #[.int .i64 xr, .int .i64 xs, .int .i64 xt, .int .i64 xk, .int .i64 xa, .int .i64 xb, .int .i64 xn, .int .i64 xp, .int .i64 xq] 25)) ⟨yr, ys, yt, yk, ya, yb, yn, yp, yq⟩ 25
    rwa [show (w.alloc (.cells #[.int .i64 xr, .int .i64 xs, .int .i64 xt, .int .i64 xk, .int .i64 xa, .int .i64 xb, .int .i64 xn, .int .i64 xp, .int .i64 xq] 25)).heap.size = w.heap.size + 1 by simp] at this
  have HA := hide hA
  have HBk := hide hB
  have HBW := hide (show Below w.heap.size w W by rw [hW]; exact ((Below.refl _ w).alloc (Nat.le_refl _) _).alloc (by simp) _)
  have hAl : w.heap.size < W.heap.size := by rw [hW]; simp; omega
  have hBl : w.heap.size + 1 < W.heap.size := by rw [hW]; simp
  have HW := hide hW
  clear hA hB hW
  unfold Chg.val
  go_enter Try.func3, Try.ntmps3
  go_wp2_with fail
  rw [← HW.out]
  refine (alive07 _).mono ?_
  rintro e w1 ⟨rfl, hb1⟩
  have HS1 := hide (show Since W w1 from hb1)
  have kA := fun w' (h : Since w1 w') => (HA.out.later hAl (Since.trans HS1.out h))
  have kB := fun w' (h : Since w1 w') => (HBk.out.later hBl (Since.trans HS1.out h))
  have x0 := fun w' h => (kA w' h).1
  have x1 := fun w' h => (kA w' h).2.1
  have x2 := fun w' h => (kA w' h).2.2.1
  have x3 := fun w' h => (kA w' h).2.2.2.1
  have x4 := fun w' h => (kA w' h).2.2.2.2.1
  have x5 := fun w' h => (kA w' h).2.2.2.2.2.1
  have x6 := fun w' h => (kA w' h).2.2.2.2.2.2.1
  have x7 := fun w' h => (kA w' h).2.2.2.2.2.2.2.1
  have x8 := fun w' h => (kA w' h).2.2.2.2.2.2.2.2
  have y0 := fun w' h => (kB w' h).1
  have y1 := fun w' h => (kB w' h).2.1
  have y2 := fun w' h => (kB w' h).2.2.1
  have y3 := fun w' h => (kB w' h).2.2.2.1
  have y4 := fun w' h => (kB w' h).2.2.2.2.1
  have y5 := fun w' h => (kB w' h).2.2.2.2.2.1
  have y6 := fun w' h => (kB w' h).2.2.2.2.2.2.1
  have y7 := fun w' h => (kB w' h).2.2.2.2.2.2.2.1
  have y8 := fun w' h => (kB w' h).2.2.2.2.2.2.2.2
  have hr0 := (Since.refl w1).drew
  have KA := hide kA
  have KB := hide kB
  have P1 := hide (fun w' (h : Since w1 w') => (sless_any ⟨xr, xs, xt, xk, xa, xb, xn, xp, xq⟩ ⟨yr, ys, yt, yk, ya, yb, yn, yp, yq⟩ w').mono fun e w2 hh => And.intro hh.1 (Since.next h hh.2))
  have P2 := hide (fun w' (h : Since w1 w') => (sless_any ⟨yr, ys, yt, yk, ya, yb, yn, yp, yq⟩ ⟨xr, xs, xt, xk, xa, xb, xn, xp, xq⟩ w').mono fun e w2 hh => And.intro hh.1 (Since.next h hh.2))
  clear kA kB hb1
  go_wp2_with fail
  go_cut [5, 6] (fun s5 s6 wx => s5 = .bool (lessC ⟨xr, xs, xt, xk, xa, xb, xn, xp, xq⟩ ⟨yr, ys, yt, yk, ya, yb, yn, yp, yq⟩) ∧ s6 = .bool (lessC ⟨yr, ys, yt, yk, ya, yb, yn, yp, yq⟩ ⟨xr, xs, xt, xk, xa, xb, xn, xp, xq⟩) ∧ Hid (Since w1 wx))
  case first =>
    go_region_held (fun w' => Since w1 w') (assumption) (first
      | (go_at_call_of 7 ([Value.agg #[Value.int IntKind.i64 yr, Value.int IntKind.i64 ys, Value.int IntKind.i64 yt, Value.int IntKind.i64 yk, Value.int IntKind.i64 ya, Value.int IntKind.i64 yb, Value.int IntKind.i64 yn, Value.int IntKind.i64 yp, Value.int IntKind.i64 yq]]); refine (P1.out _ (by assumption)).mono ?_; rintro e w5 ⟨rfl, hs5⟩)
      | (go_at_call_of 7 ([Value.agg #[Value.int IntKind.i64 xr, Value.int IntKind.i64 xs, Value.int IntKind.i64 xt, Value.int IntKind.i64 xk, Value.int IntKind.i64 xa, Value.int IntKind.i64 xb, Value.int IntKind.i64 xn, Value.int IntKind.i64 xp, Value.int IntKind.i64 xq]]); refine (P2.out _ (by assumption)).mono ?_; rintro e w5 ⟨rfl, hs5⟩))
    all_goals (go_wp2_with fail)
    all_goals go_meet
    all_goals exact ⟨rfl, rfl, hide hs5⟩
  case rest =>
    obtain ⟨rfl, rfl, hs⟩ := hcut
    clear x0 x1 x2 x3 x4 x5 x6 x7 x8 y0 y1 y2 y3 y4 y5 y6 y7 y8 hr0 P1 P2
    obtain ⟨x0, x1, x2, x3, x4, x5, x6, x7, x8⟩ := KA.out _ hs.out
    obtain ⟨y0, y1, y2, y3, y4, y5, y6, y7, y8⟩ := KB.out _ hs.out
    have hlk := lessC_like ⟨xr, xs, xt, xk, xa, xb, xn, xp, xq⟩ ⟨yr, ys, yt, yk, ya, yb, yn, yp, yq⟩
    have hnt := lessC_not ⟨xr, xs, xt, xk, xa, xb, xn, xp, xq⟩ ⟨yr, ys, yt, yk, ya, yb, yn, yp, yq⟩
    have HBx := hide (fun w' (h : Since w1 w') => HBW.out.trans (Below.mono (Since.trans HS1.out h) HBW.out.size))
    have PR := hide (fun w' => refsless_any ⟨xr, xs, xt, xk, xa, xb, xn, xp, xq⟩ ⟨yr, ys, yt, yk, ya, yb, yn, yp, yq⟩ w')
    have HSC := hide hs.out
    generalize hxy : lessC ⟨xr, xs, xt, xk, xa, xb, xn, xp, xq⟩ ⟨yr, ys, yt, yk, ya, yb, yn, yp, yq⟩ = xy at *
    generalize hyx : lessC ⟨yr, ys, yt, yk, ya, yb, yn, yp, yq⟩ ⟨xr, xs, xt, xk, xa, xb, xn, xp, xq⟩ = yx at *
    have hdec : (xy = true ∧ yx = false ∧ ¬ (xt = yt ∧ xr = yr ∧ xs = ys)) ∨ (xy = false ∧ yx = true ∧ ¬ (xt = yt ∧ xr = yr ∧ xs = ys)) ∨ (xy = false ∧ yx = false ∧ (xt = yt ∧ xr = yr ∧ xs = ys)) := by
      cases xy with
      | true =>
        obtain rfl := hnt rfl
        exact .inl ⟨rfl, rfl, fun h => by have := (hlk.1 h).1; cases this⟩
      | false =>
        cases yx with
        | true => exact .inr (.inl ⟨rfl, rfl, fun h => by have := (hlk.1 h).2; cases this⟩)
        | false => exact .inr (.inr ⟨rfl, rfl, hlk.2 ⟨rfl, rfl⟩⟩)
    clear hlk hnt hxy hyx hs
    rcases hdec with ⟨rfl, rfl, hne⟩ | ⟨rfl, rfl, hne⟩ | ⟨rfl, rfl, rfl, rfl, rfl⟩
    · have hcase : ¬ (xt = yt) ∨ (xt = yt ∧ ¬ (xr = yr)) ∨ (xt = yt ∧ xr = yr ∧ ¬ (xs = ys)) := by
        by_cases h1 : xt = yt
        · by_cases h2 : xr = yr
          · exact .inr (.inr ⟨h1, h2, fun h3 => hne ⟨h1, h2, h3⟩⟩)
          · exact .inr (.inl ⟨h1, h2⟩)
        · exact .inl h1
      clear hne
      rcases hcase with h1 | ⟨rfl, h1⟩ | ⟨rfl, rfl, h1⟩
      · have hd : (xt == yt) = false := beq_eq_false_iff_ne.mpr h1
        go_wp2_with fail
        refine (PR.out _).mono ?_
        rintro e w3 ⟨rfl, hb3⟩
        have HB3 := hide (HBx.out _ (Since.next HSC.out hb3))
        clear hb3
        go_wp2
        go_ret
        exact ⟨rfl, HB3.out⟩
      · have hq : ∀ W, (Op.equalIn 10000 23 (.agg #[.int .i64 xr, .int .i64 xs]) (.agg #[.int .i64 yr, .int .i64 ys])).run Try.prog W = .ok false W := fun W => by
          have := id_equal xr xs yr ys 9998 W
          rwa [decide_eq_false (fun h => h1 h.1)] at this
        go_wp2_with fail
        refine (PR.out _).mono ?_
        rintro e w3 ⟨rfl, hb3⟩
        have HB3 := hide (HBx.out _ (Since.next HSC.out hb3))
        clear hb3
        go_wp2
        go_ret
        exact ⟨rfl, HB3.out⟩
      · have hq : ∀ W, (Op.equalIn 10000 23 (.agg #[.int .i64 xr, .int .i64 xs]) (.agg #[.int .i64 xr, .int .i64 ys])).run Try.prog W = .ok false W := fun W => by
          have := id_equal xr xs xr ys 9998 W
          rwa [decide_eq_false (fun h => h1 h.2)] at this
        go_wp2_with fail
        refine (PR.out _).mono ?_
        rintro e w3 ⟨rfl, hb3⟩
        have HB3 := hide (HBx.out _ (Since.next HSC.out hb3))
        clear hb3
        go_wp2
        go_ret
        exact ⟨rfl, HB3.out⟩
    · have hcase : ¬ (xt = yt) ∨ (xt = yt ∧ ¬ (xr = yr)) ∨ (xt = yt ∧ xr = yr ∧ ¬ (xs = ys)) := by
        by_cases h1 : xt = yt
        · by_cases h2 : xr = yr
          · exact .inr (.inr ⟨h1, h2, fun h3 => hne ⟨h1, h2, h3⟩⟩)
          · exact .inr (.inl ⟨h1, h2⟩)
        · exact .inl h1
      clear hne
      rcases hcase with h1 | ⟨rfl, h1⟩ | ⟨rfl, rfl, h1⟩
      · have hd : (xt == yt) = false := beq_eq_false_iff_ne.mpr h1
        go_wp2_with fail
        refine (PR.out _).mono ?_
        rintro e w3 ⟨rfl, hb3⟩
        have HB3 := hide (HBx.out _ (Since.next HSC.out hb3))
        clear hb3
        go_wp2
        go_ret
        exact ⟨rfl, HB3.out⟩
      · have hq : ∀ W, (Op.equalIn 10000 23 (.agg #[.int .i64 xr, .int .i64 xs]) (.agg #[.int .i64 yr, .int .i64 ys])).run Try.prog W = .ok false W := fun W => by
          have := id_equal xr xs yr ys 9998 W
          rwa [decide_eq_false (fun h => h1 h.1)] at this
        go_wp2_with fail
        refine (PR.out _).mono ?_
        rintro e w3 ⟨rfl, hb3⟩
        have HB3 := hide (HBx.out _ (Since.next HSC.out hb3))
        clear hb3
        go_wp2
        go_ret
        exact ⟨rfl, HB3.out⟩
      · have hq : ∀ W, (Op.equalIn 10000 23 (.agg #[.int .i64 xr, .int .i64 xs]) (.agg #[.int .i64 xr, .int .i64 ys])).run Try.prog W = .ok false W := fun W => by
          have := id_equal xr xs xr ys 9998 W
          rwa [decide_eq_false (fun h => h1 h.2)] at this
        go_wp2_with fail
        refine (PR.out _).mono ?_
        rintro e w3 ⟨rfl, hb3⟩
        have HB3 := hide (HBx.out _ (Since.next HSC.out hb3))
        clear hb3
        go_wp2
        go_ret
        exact ⟨rfl, HB3.out⟩
    · go_wp2_with fail
      refine (PR.out _).mono ?_
      rintro e w3 ⟨rfl, hb3⟩
      have HB3 := hide (HBx.out _ (Since.next HSC.out hb3))
      clear hb3
      go_wp2
      go_ret
      exact ⟨rfl, HB3.out⟩
end Go.Proofs.Ytfidglkhpikdbaa
