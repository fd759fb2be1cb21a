/-
  The program's order of changes: cmp.Compare, cmp.Or, compare, Less.
-/
import Derived.Test.YtfidglkhpikdbaaStampMore
import Derived.Test.YtfidglkhpikdbaaLater
import Derived.Sort.Grow
import Derived.Deep.RegionHeld
namespace Go.Proofs.Ytfidglkhpikdbaa
open Go.RowKit
open Go.Sort (grow)
set_option linter.unusedVariables false

/-- -1, 0, 1. -/
def cmpI (x y : Int) : Int := if x < y then -1 else if y < x then 1 else 0
def cmpC (x y : Chg) : Int := if cmpI x.t y.t = 0 then (if cmpI x.r y.r = 0 then cmpI x.s y.s else cmpI x.r y.r) else cmpI x.t y.t
theorem cmpI_zero {x y : Int} : cmpI x y = 0 ↔ x = y := by
  unfold cmpI
  split
  · constructor <;> intro h <;> omega
  · split
    · constructor <;> intro h <;> omega
    · constructor <;> intro h <;> omega
theorem cmpI_neg {x y : Int} : cmpI x y < 0 ↔ x < y := by
  unfold cmpI
  split
  · constructor <;> intro h <;> omega
  · split
    · constructor <;> intro h <;> omega
    · constructor <;> intro h <;> omega
theorem cmpC_less (x y : Chg) : decide (cmpC x y < 0) = lessC x y := by
  unfold cmpC lessC
  rw [decide_eq_decide]
  by_cases h1 : x.t = y.t
  · rw [if_pos (cmpI_zero.2 h1)]
    by_cases h2 : x.r = y.r
    · rw [if_pos (cmpI_zero.2 h2), cmpI_neg]; omega
    · rw [if_neg (fun h => h2 (cmpI_zero.1 h)), cmpI_neg]; omega
  · rw [if_neg (fun h => h1 (cmpI_zero.1 h)), cmpI_neg]; omega

theorem ccompare_any (x y : Int) (w : World) : Calls Try.prog 26 #[.int .i64 x, .int .i64 y] w fun e w' => e = .returned (.int .i64 (cmpI x y)) ∧ w' = w := by
  unfold cmpI
  by_cases h1 : x < y
  · rw [if_pos h1]
    go_enter Try.func26, Try.ntmps26
    go_wp2
    go_ret
    exact ⟨rfl, rfl⟩
  · rw [if_neg h1]
    by_cases h2 : y < x
    · rw [if_pos h2]
      go_enter Try.func26, Try.ntmps26
      go_wp2
      go_ret
      exact ⟨rfl, rfl⟩
    · rw [if_neg h2]
      go_enter Try.func26, Try.ntmps26
      go_wp2
      go_ret
      exact ⟨rfl, rfl⟩

/-- The first of three that is not 0. -/
theorem cor_any (b : Nat) (x y z : Int) (w : World) (h0 : w.cell? ⟨b, 0, none⟩ = some (.int .i64 x)) (h1 : w.cell? ⟨b, 1, none⟩ = some (.int .i64 y)) (h2 : w.cell? ⟨b, 2, none⟩ = some (.int .i64 z)) :
    Calls Try.prog 25 #[.slice (some ⟨b, 0, none⟩) 3 3] w fun e w' => e = .returned (.int .i64 (if x = 0 then (if y = 0 then z else y) else x)) ∧ w' = w := by
  by_cases hx : x = 0
  · rw [if_pos hx]
    by_cases hy : y = 0
    · rw [if_pos hy]
      by_cases hz : z = 0
      · subst hx hy hz
        go_enter Try.func25, Try.ntmps25
        go_wp2
        refine wp_loop_rounds 4 ?_
        rw [rounds_succ]
        go_wp2
        rw [rounds_succ]
        go_wp2
        rw [rounds_succ]
        go_wp2
        rw [rounds_succ]
        go_wp2
        go_ret
        exact ⟨rfl, rfl⟩
      · subst hx hy
        go_enter Try.func25, Try.ntmps25
        go_wp2
        refine wp_loop_rounds 4 ?_
        rw [rounds_succ]
        go_wp2
        rw [rounds_succ]
        go_wp2
        rw [rounds_succ]
        go_wp2
        go_ret
        exact ⟨rfl, rfl⟩
    · rw [if_neg hy]
      subst hx
      go_enter Try.func25, Try.ntmps25
      go_wp2
      refine wp_loop_rounds 4 ?_
      rw [rounds_succ]
      go_wp2
      rw [rounds_succ]
      go_wp2
      go_ret
      exact ⟨rfl, rfl⟩
  · rw [if_neg hx]
    go_enter Try.func25, Try.ntmps25
    go_wp2
    refine wp_loop_rounds 4 ?_
    rw [rounds_succ]
    go_wp2
    go_ret
    exact ⟨rfl, rfl⟩

/-- w after some draws, with some blocks behind it. -/
def Grw (w w' : World) : Prop := ∃ q os, w' = grow (w.drewN q) os
theorem Grw.drew (w : World) : Grw w w.drew := ⟨1, #[], by rw [Go.Sort.grow_empty]; rfl⟩
theorem Grw.refl (w : World) : Grw w w := ⟨0, #[], by rw [Go.Sort.grow_empty]; rfl⟩
theorem Grw.more {w w' : World} (h : Grw w w') : Grw w w'.drew := by
  obtain ⟨q, os, rfl⟩ := h
  exact ⟨q + 1, os, rfl⟩
theorem new3_0 (v : World) (p q r : Value) (t : TypeId) : (v.alloc (.cells #[p, q, r] t)).drew.cell? ⟨v.heap.size, 0, none⟩ = some p := by show (v.alloc _).cell? _ = _; simp
theorem new3_1 (v : World) (p q r : Value) (t : TypeId) : (v.alloc (.cells #[p, q, r] t)).drew.cell? ⟨v.heap.size, 1, none⟩ = some q := by show (v.alloc _).cell? _ = _; simp
theorem new3_2 (v : World) (p q r : Value) (t : TypeId) : (v.alloc (.cells #[p, q, r] t)).drew.cell? ⟨v.heap.size, 2, none⟩ = some r := by show (v.alloc _).cell? _ = _; simp
theorem Grw.alloc {w w' : World} (h : Grw w w') (o : Obj) : Grw w (w'.alloc o) := by
  obtain ⟨q, os, rfl⟩ := h
  exact ⟨q, os ++ #[o], by rw [Go.Sort.alloc_eq_grow, Go.Sort.grow_grow]⟩
theorem Grw.behind {w w' : World} {o o2 : Obj} (h : Grw ((w.alloc o).alloc o2) w') : Grw w w' := by
  obtain ⟨q, os, rfl⟩ := h
  refine ⟨q, #[o] ++ (#[o2] ++ os), ?_⟩
  rw [Go.Sort.alloc_eq_grow, Go.Sort.alloc_eq_grow, ← Go.Sort.grow_grow, ← Go.Sort.grow_grow]
  rfl
theorem Grw.below {w w' : World} (h : Grw w w') : Below w.heap.size w w' := by
  obtain ⟨q, os, rfl⟩ := h
  refine ⟨rfl, rfl, rfl, ?_, fun i hi => ?_⟩
  · simp [grow]
  · show ((w.drewN q).heap ++ os)[i]? = _
    rw [Array.getElem?_append_left (by exact hi)]
    rfl
theorem Grw.cell {w w' : World} (h : Grw w w') {a : Addr} {v : Value} (hc : w.cell? a = some v) : w'.cell? a = some v :=
  (h.below.cell (World.block_lt_of_cell? w a hc)).trans hc

set_option maxHeartbeats 2000000 in
theorem scompare_any (x y : Chg) (w : World) : Calls Try.prog 20 #[x.val, y.val] w fun e w' => e = .returned (.int .i64 (cmpC x y)) ∧ Grw w w' := by
  obtain ⟨xr, xs, xt, xk, xa, xb, xn, xp, xq⟩ := x
  obtain ⟨yr, ys, yt, yk, ya, yb, yn, yp, yq⟩ := y
  obtain ⟨w1, hw1⟩ : ∃ w1, w1 = (w.alloc (.cells #[.int .i64 xr, .int .i64 xs, .int .i64 xt, .int .i64 xk, .int .i64 xa, .int .i64 xb, .int .i64 xn, .int .i64 xp, .int .i64 xq] 25)).alloc (.cells #[.int .i64 yr, .int .i64 ys, .int .i64 yt, .int .i64 yk, .int .i64 ya, .int .i64 yb, .int .i64 yn, .int .i64 yp, .int .i64 yq] 25) := ⟨_, rfl⟩
  have HW := hide (fun w' (h : Grw w1 w') => (show Grw w w' by rw [hw1] at h; exact h.behind))
  have A1 := (at_new w ⟨xr, xs, xt, xk, xa, xb, xn, xp, xq⟩ 25).later (by simp) ((Since.refl _).alloc (.cells #[.int .i64 yr, .int .i64 ys, .int .i64 yt, .int .i64 yk, .int .i64 ya, .int .i64 yb, .int .i64 yn, .int .i64 yp, .int .i64 yq] 25))
  have A2 := at_new (w.alloc (.cells #[.int .i64 xr, .int .i64 xs, .int .i64 xt, .int .i64 xk, .int .i64 xa, .int .i64 xb, .int .i64 xn, .int .i64 xp, .int .i64 xq] 25)) ⟨yr, ys, yt, yk, ya, yb, yn, yp, yq⟩ 25
  rw [World.size_alloc] at A2
  simp only [← hw1] at A1 A2
  have b0 : ∀ w', Grw w1 w' → w'.cell? ⟨w.heap.size, 0, none⟩ = some (.int .i64 xr) := fun w' h => h.cell (by simpa using A1.1)
  have b1 : ∀ w', Grw w1 w' → w'.cell? ⟨w.heap.size, 1, none⟩ = some (.int .i64 xs) := fun w' h => h.cell (by simpa using A1.2.1)
  have b2 : ∀ w', Grw w1 w' → w'.cell? ⟨w.heap.size, 2, none⟩ = some (.int .i64 xt) := fun w' h => h.cell (by simpa using A1.2.2.1)
  have c0 : ∀ w', Grw w1 w' → w'.cell? ⟨w.heap.size + 1, 0, none⟩ = some (.int .i64 yr) := fun w' h => h.cell (by simpa using A2.1)
  have c1 : ∀ w', Grw w1 w' → w'.cell? ⟨w.heap.size + 1, 1, none⟩ = some (.int .i64 ys) := fun w' h => h.cell (by simpa using A2.2.1)
  have c2 : ∀ w', Grw w1 w' → w'.cell? ⟨w.heap.size + 1, 2, none⟩ = some (.int .i64 yt) := fun w' h => h.cell (by simpa using A2.2.2.1)
  have hcmp : cmpC ⟨xr, xs, xt, xk, xa, xb, xn, xp, xq⟩ ⟨yr, ys, yt, yk, ya, yb, yn, yp, yq⟩ = (if cmpI xt yt = 0 then (if cmpI xr yr = 0 then cmpI xs ys else cmpI xr yr) else cmpI xt yt) := rfl
  have P1 := hide (fun w' => ccompare_any xt yt w')
  have P2 := hide (fun w' => ccompare_any xr yr w')
  have P3 := hide (fun w' => ccompare_any xs ys w')
  have hr0 := Grw.drew w1
  rw [hcmp]
  clear A1 A2 hcmp
  generalize cmpI xt yt = k1 at *
  generalize cmpI xr yr = k2 at *
  generalize cmpI xs ys = k3 at *
  have p4 := fun (b : Nat) (w' : World) h0 h1 h2 => cor_any b k1 k2 k3 w' h0 h1 h2
  generalize (if k1 = 0 then (if k2 = 0 then k3 else k2) else k1) = kr at p4 ⊢
  have P4 := hide p4
  clear p4
  unfold Chg.val
  go_enter Try.func20, Try.ntmps20
  go_wp2_with fail
  simp only [← hw1]
  clear hw1
  go_region_held (fun w' => Grw w1 w') (first | assumption | exact Grw.alloc (by assumption) _) (first
    | (go_at_call_of 26 xt; refine (P1.out _).mono ?_; rintro e w5 ⟨rfl, rfl⟩)
    | (go_at_call_of 26 xr; refine (P2.out _).mono ?_; rintro e w5 ⟨rfl, rfl⟩)
    | (go_at_call_of 26 xs; refine (P3.out _).mono ?_; rintro e w5 ⟨rfl, rfl⟩)
    | (go_at_call 25; refine (P4.out _ _ (new3_0 _ _ _ _ _) (new3_1 _ _ _ _ _) (new3_2 _ _ _ _ _)).mono ?_; rintro e w5 ⟨rfl, rfl⟩))
  all_goals go_wp2
  all_goals go_ret
  all_goals exact ⟨rfl, HW.out _ (by first | assumption | exact Grw.alloc (by assumption) _ | exact (Grw.alloc (Grw.refl _) _).more)⟩

theorem sless_any (x y : Chg) (w : World) : Calls Try.prog 7 #[x.val, y.val] w fun e w' => e = .returned (.bool (lessC x y)) ∧ Below w.heap.size w w' := by
  have hc := fun W => scompare_any x y W
  have E := hide (cmpC_less x y)
  obtain ⟨xr, xs, xt, xk, xa, xb, xn, xp, xq⟩ := x
  obtain ⟨yr, ys, yt, yk, ya, yb, yn, yp, yq⟩ := y
  unfold Chg.val at *
  generalize cmpC ⟨xr, xs, xt, xk, xa, xb, xn, xp, xq⟩ ⟨yr, ys, yt, yk, ya, yb, yn, yp, yq⟩ = k at *
  have HB := hide (((Below.refl w.heap.size w).alloc (Nat.le_refl _) (.cells #[.int .i64 xr, .int .i64 xs, .int .i64 xt, .int .i64 xk, .int .i64 xa, .int .i64 xb, .int .i64 xn, .int .i64 xp, .int .i64 xq] 25)).alloc (by simp) (.cells #[.int .i64 yr, .int .i64 ys, .int .i64 yt, .int .i64 yk, .int .i64 ya, .int .i64 yb, .int .i64 yn, .int .i64 yp, .int .i64 yq] 25))
  go_enter Try.func7, Try.ntmps7
  go_wp2_with (go_at_call 20; refine (hc _).mono ?_; rintro e w5 ⟨rfl, hg⟩)
  go_ret
  exact ⟨by rw [← E.out]; rfl, HB.out.trans (hg.below.mono (by simp; omega))⟩
end Go.Proofs.Ytfidglkhpikdbaa
