/-
  The program's contracts of layer 8: the numbers of replicas, Join, Covers, Has, Next.
-/
import Derived.Test.YtakjlcnojgboeaaVec
import Derived.Test.YtakjlcnojgboeaaStampPut
import Derived.Handy
import Derived.Deep.RegionHeld
import Derived.Deep.RegionWith
namespace Go.Proofs.Ytakjlcnojgboeaa
open Go.RowKit
set_option linter.unusedVariables false

theorem isrep_yes (r : Int) (w : World) (h0 : 0 ≤ r) (h4 : r < 4) : Calls Try.prog 13 #[.int .i64 r] w fun e w' => e = .returned (.bool true) ∧ w' = w := by
  go_enter Try.func13, Try.ntmps13
  go_wp2
  go_ret
  exact ⟨rfl, rfl⟩
theorem isrep_no (r : Int) (w : World) (h : r < 0 ∨ 4 ≤ r) : Calls Try.prog 13 #[.int .i64 r] w fun e w' => e = .returned (.bool false) ∧ w' = w := by
  rcases Int.lt_or_le r 0 with h0 | h0
  · clear h
    go_enter Try.func13, Try.ntmps13
    go_wp2
    go_ret
    exact ⟨rfl, rfl⟩
  · have hd : decide (r < 4) = false := decide_eq_false (by omega)
    clear h
    go_enter Try.func13, Try.ntmps13
    go_wp2
    go_ret
    exact ⟨rfl, rfl⟩

theorem rep_cases {r : Int} (h0 : 0 ≤ r) (h4 : r < 4) : r = 0 ∨ r = 1 ∨ r = 2 ∨ r = 3 := by omega
theorem has_false {v : Vec} {r s : Int} (h : r < 0 ∨ 4 ≤ r ∨ s < 1) : hasV v r s = false := decide_eq_false (by omega)

theorem vhas_any (v : Vec) (r s : Int) (w : World) : Calls Try.prog 11 #[v.val, .agg #[.int .i64 r, .int .i64 s]] w fun e w' => e = .returned (.bool (hasV v r s)) ∧ Below w.heap.size w w' := by
  have HB := hide (show Below w.heap.size w ((w.alloc (.cells #[.int .i64 v.a, .int .i64 v.b, .int .i64 v.c, .int .i64 v.d] 22)).alloc (.cells #[.int .i64 r, .int .i64 s] 32)) from
    ((Below.refl _ w).alloc (Nat.le_refl _) _).alloc (by simp) _)
  obtain ⟨va, vb, vc, vd⟩ := v
  by_cases hr : r < 0 ∨ 4 ≤ r
  · rw [has_false (by omega)]
    have q1 := fun k' : Nat => fun W => Calls.quiet_of_same (n := k') (isrep_no r (World.drewN W k') hr)
    clear hr
    go_enter Try.func11, Try.ntmps11
    unfold Vec.val
    go_wp2_with fail
    go_quiet ((with_reducible exact q1 _ _))
    go_wp2
    go_ret
    exact ⟨rfl, below_drewN HB.out nq⟩
  · have q1 := fun k' : Nat => fun W => Calls.quiet_of_same (n := k') (isrep_yes r (World.drewN W k') (by omega) (by omega))
    by_cases hs : s < 1
    · rw [has_false (by omega)]
      have hs2 : ¬ (1 : Int) ≤ s := by omega
      have hd : decide ((1 : Int) ≤ s) = false := decide_eq_false hs2
      clear hr
      go_enter Try.func11, Try.ntmps11
      unfold Vec.val
      go_wp2_with fail
      go_quiet ((with_reducible exact q1 _ _))
      go_wp2
      go_ret
      exact ⟨rfl, below_drewN HB.out nq⟩
    · have hs2 : (1 : Int) ≤ s := by omega
      have hd : decide ((1 : Int) ≤ s) = true := decide_eq_true hs2
      rcases rep_cases (r := r) (by omega) (by omega) with rfl | rfl | rfl | rfl
      all_goals clear hr hs
      all_goals go_enter Try.func11, Try.ntmps11
      all_goals unfold Vec.val
      all_goals go_wp2_with fail
      · go_quiet ((with_reducible exact q1 _ _))
        go_wp2
        go_ret
        exact ⟨by unfold hasV Vec.at_; simp [hs2], below_drewN HB.out nq⟩
      · go_quiet ((with_reducible exact q1 _ _))
        go_wp2
        go_ret
        exact ⟨by unfold hasV Vec.at_; simp [hs2], below_drewN HB.out nq⟩
      · go_quiet ((with_reducible exact q1 _ _))
        go_wp2
        go_ret
        exact ⟨by unfold hasV Vec.at_; simp [hs2], below_drewN HB.out nq⟩
      · go_quiet ((with_reducible exact q1 _ _))
        go_wp2
        go_ret
        exact ⟨by unfold hasV Vec.at_; simp [hs2], below_drewN HB.out nq⟩

theorem four_equal (a b c d a2 b2 c2 d2 : Int) (W : World) : (Op.equalIn 10000 22 (.agg #[.int .i64 a, .int .i64 b, .int .i64 c, .int .i64 d]) (.agg #[.int .i64 a2, .int .i64 b2, .int .i64 c2, .int .i64 d2])).run Try.prog W = .ok (decide (a = a2 ∧ b = b2 ∧ c = c2 ∧ d = d2)) W := by
  have u3 := Try.underlying3
  have a3 := Try.isAgg3
  have z3 := Try.sizeOf3
  rw [show (10000 : Nat) = 9999 + 1 from rfl, Op.equalIn]
  simp only [Sem.run_bind, run_underlying Try.underlying22, Result.andThen_ok]
  simp only [Std.Legacy.Range.forIn_eq_forIn_range', Std.Legacy.Range.size, Nat.sub_zero, Nat.add_sub_cancel, Nat.div_one, List.range'_succ, List.range'_zero, List.forIn_cons, List.forIn_nil]
  go_simp
  by_cases h1 : a = a2
  · by_cases h2 : b = b2
    · by_cases h3 : c = c2
      · by_cases h4 : d = d2
        · simp [h1, h2, h3, h4]
        · simp [h1, h2, h3, h4]
      · simp [h1, h2, h3]
    · simp [h1, h2]
  · simp [h1]
theorem four_cells {w : World} {g : Nat} {a b c d : Value} (h : Blk w g 22 #[a, b, c, d]) :
    w.cell? ⟨g, 0, none⟩ = some a ∧ w.cell? ⟨g, 1, none⟩ = some b ∧ w.cell? ⟨g, 2, none⟩ = some c ∧ w.cell? ⟨g, 3, none⟩ = some d :=
  ⟨(h.cell 0).trans rfl, (h.cell 1).trans rfl, (h.cell 2).trans rfl, (h.cell 3).trans rfl⟩
/-- The first k parts are the greater ones. -/
def jn (v u : Vec) (k : Nat) : Array Value := #[.int .i64 (if 0 < k then max v.a u.a else v.a), .int .i64 (if 1 < k then max v.b u.b else v.b), .int .i64 (if 2 < k then max v.c u.c else v.c), .int .i64 (if 3 < k then max v.d u.d else v.d)]
def Vec.arr (v : Vec) : Array Value := #[.int .i64 v.a, .int .i64 v.b, .int .i64 v.c, .int .i64 v.d]

theorem vjoin_any (v u : Vec) (w : World) : Calls Try.prog 6 #[v.val, u.val] w fun e w' => e = .returned (joinV v u).val ∧ Below w.heap.size w w' := by
  obtain ⟨W, hW⟩ : ∃ W, W = ((w.alloc (.cells v.arr 22)).alloc (.cells u.arr 22)).alloc (.cells #[.int .i64 0, .int .i64 0, .int .i64 0, .int .i64 0] 22) := ⟨_, rfl⟩
  have HX := hide (show Blk W w.heap.size 22 v.arr by rw [hW]; exact ((Blk.new w _ _).alloc _).alloc _)
  have HY := hide (show Blk W (w.heap.size + 1) 22 u.arr by rw [hW]; have := (Blk.new (w.alloc (.cells v.arr 22)) 22 u.arr).alloc (.cells #[.int .i64 0, .int .i64 0, .int .i64 0, .int .i64 0] 22); simpa using this)
  have HZ := hide (show Blk W (w.heap.size + 1 + 1) 22 #[.int .i64 0, .int .i64 0, .int .i64 0, .int .i64 0] by rw [hW]; have := Blk.new ((w.alloc (.cells v.arr 22)).alloc (.cells u.arr 22)) 22 #[.int .i64 0, .int .i64 0, .int .i64 0, .int .i64 0]; simpa using this)
  have HB := hide (show Below w.heap.size w W by rw [hW]; exact (((Below.refl _ w).alloc (Nat.le_refl _) _).alloc (by simp) _).alloc (by simp; omega) _)
  have HW := hide hW
  clear hW
  obtain ⟨va, vb, vc, vd⟩ := v
  obtain ⟨ua, ub, uc, ud⟩ := u
  go_enter Try.func6, Try.ntmps6
  unfold Vec.val
  go_wp2
  go_loopw [6] (fun i wr => ∃ k : Nat, k ≤ 4 ∧ i = .int .i64 k ∧ Hid (Blk wr w.heap.size 22 (jn ⟨va, vb, vc, vd⟩ ⟨ua, ub, uc, ud⟩ k)) ∧ Hid (Blk wr (w.heap.size + 1) 22 #[.int .i64 ua, .int .i64 ub, .int .i64 uc, .int .i64 ud]) ∧ Hid (Blk wr (w.heap.size + 1 + 1) 22 #[.int .i64 0, .int .i64 0, .int .i64 0, .int .i64 0]) ∧ Hid (Below w.heap.size w wr)) (fun i _ => 4 - (intOf i).toNat)
  case atStart => exact ⟨0, by omega, rfl, by have := HX.out; rw [HW.out] at this; exact this, by have := HY.out; rw [HW.out] at this; exact this, by have := HZ.out; rw [HW.out] at this; exact this, by have := HB.out; rw [HW.out] at this; exact this⟩
  case round =>
    obtain ⟨k, hk, rfl, hx, hy, hz, hb⟩ := hrel
    rcases (show k = 0 ∨ k = 1 ∨ k = 2 ∨ k = 3 ∨ k = 4 by omega) with rfl | rfl | rfl | rfl | rfl
    · have xk := (hx.out.cell 0).trans (show _ = some (Value.int .i64 va) from rfl)
      have yk := (hy.out.cell 0).trans (show _ = some (Value.int .i64 ua) from rfl)
      have fk := hx.out.frozen 0
      by_cases hlt : va < ua
      · have HX2 := hide (show jn ⟨va, vb, vc, vd⟩ ⟨ua, ub, uc, ud⟩ 1 = (jn ⟨va, vb, vc, vd⟩ ⟨ua, ub, uc, ud⟩ 0).setIfInBounds 0 (.int .i64 ua) by
          have : max va ua = ua := by omega
          simp [jn, this])
        go_wp2
        go_region
        all_goals go_wp2
        all_goals go_roundw
        case rel => exact ⟨1, by omega, rfl, hide (by rw [HX2.out]; exact hx.out.store 0 _), hide (hy.out.far (by simp) _), hide (hz.out.far (by simp; omega) _), hide ((hb.out.setCell (Nat.le_refl _) _).drew)⟩
        case measure => simp [intOf]
      · have HX2 := hide (show jn ⟨va, vb, vc, vd⟩ ⟨ua, ub, uc, ud⟩ 1 = (jn ⟨va, vb, vc, vd⟩ ⟨ua, ub, uc, ud⟩ 0).setIfInBounds 0 (.int .i64 va) by
          have : max va ua = va := by omega
          simp [jn, this])
        go_wp2
        go_region
        all_goals go_wp2
        all_goals go_roundw
        case rel => exact ⟨1, by omega, rfl, hide (by rw [HX2.out]; exact hx.out.store 0 _), hide (hy.out.far (by simp) _), hide (hz.out.far (by simp; omega) _), hide ((hb.out.setCell (Nat.le_refl _) _).drew)⟩
        case measure => simp [intOf]
    · have xk := (hx.out.cell 1).trans (show _ = some (Value.int .i64 vb) from rfl)
      have yk := (hy.out.cell 1).trans (show _ = some (Value.int .i64 ub) from rfl)
      have fk := hx.out.frozen 1
      by_cases hlt : vb < ub
      · have HX2 := hide (show jn ⟨va, vb, vc, vd⟩ ⟨ua, ub, uc, ud⟩ 2 = (jn ⟨va, vb, vc, vd⟩ ⟨ua, ub, uc, ud⟩ 1).setIfInBounds 1 (.int .i64 ub) by
          have : max vb ub = ub := by omega
          simp [jn, this])
        go_wp2
        go_region
        all_goals go_wp2
        all_goals go_roundw
        case rel => exact ⟨2, by omega, rfl, hide (by rw [HX2.out]; exact hx.out.store 1 _), hide (hy.out.far (by simp) _), hide (hz.out.far (by simp; omega) _), hide ((hb.out.setCell (Nat.le_refl _) _).drew)⟩
        case measure => simp [intOf]
      · have HX2 := hide (show jn ⟨va, vb, vc, vd⟩ ⟨ua, ub, uc, ud⟩ 2 = (jn ⟨va, vb, vc, vd⟩ ⟨ua, ub, uc, ud⟩ 1).setIfInBounds 1 (.int .i64 vb) by
          have : max vb ub = vb := by omega
          simp [jn, this])
        go_wp2
        go_region
        all_goals go_wp2
        all_goals go_roundw
        case rel => exact ⟨2, by omega, rfl, hide (by rw [HX2.out]; exact hx.out.store 1 _), hide (hy.out.far (by simp) _), hide (hz.out.far (by simp; omega) _), hide ((hb.out.setCell (Nat.le_refl _) _).drew)⟩
        case measure => simp [intOf]
    · have xk := (hx.out.cell 2).trans (show _ = some (Value.int .i64 vc) from rfl)
      have yk := (hy.out.cell 2).trans (show _ = some (Value.int .i64 uc) from rfl)
      have fk := hx.out.frozen 2
      by_cases hlt : vc < uc
      · have HX2 := hide (show jn ⟨va, vb, vc, vd⟩ ⟨ua, ub, uc, ud⟩ 3 = (jn ⟨va, vb, vc, vd⟩ ⟨ua, ub, uc, ud⟩ 2).setIfInBounds 2 (.int .i64 uc) by
          have : max vc uc = uc := by omega
          simp [jn, this])
        go_wp2
        go_region
        all_goals go_wp2
        all_goals go_roundw
        case rel => exact ⟨3, by omega, rfl, hide (by rw [HX2.out]; exact hx.out.store 2 _), hide (hy.out.far (by simp) _), hide (hz.out.far (by simp; omega) _), hide ((hb.out.setCell (Nat.le_refl _) _).drew)⟩
        case measure => simp [intOf]
      · have HX2 := hide (show jn ⟨va, vb, vc, vd⟩ ⟨ua, ub, uc, ud⟩ 3 = (jn ⟨va, vb, vc, vd⟩ ⟨ua, ub, uc, ud⟩ 2).setIfInBounds 2 (.int .i64 vc) by
          have : max vc uc = vc := by omega
          simp [jn, this])
        go_wp2
        go_region
        all_goals go_wp2
        all_goals go_roundw
        case rel => exact ⟨3, by omega, rfl, hide (by rw [HX2.out]; exact hx.out.store 2 _), hide (hy.out.far (by simp) _), hide (hz.out.far (by simp; omega) _), hide ((hb.out.setCell (Nat.le_refl _) _).drew)⟩
        case measure => simp [intOf]
    · have xk := (hx.out.cell 3).trans (show _ = some (Value.int .i64 vd) from rfl)
      have yk := (hy.out.cell 3).trans (show _ = some (Value.int .i64 ud) from rfl)
      have fk := hx.out.frozen 3
      by_cases hlt : vd < ud
      · have HX2 := hide (show jn ⟨va, vb, vc, vd⟩ ⟨ua, ub, uc, ud⟩ 4 = (jn ⟨va, vb, vc, vd⟩ ⟨ua, ub, uc, ud⟩ 3).setIfInBounds 3 (.int .i64 ud) by
          have : max vd ud = ud := by omega
          simp [jn, this])
        go_wp2
        go_region
        all_goals go_wp2
        all_goals go_roundw
        case rel => exact ⟨4, by omega, rfl, hide (by rw [HX2.out]; exact hx.out.store 3 _), hide (hy.out.far (by simp) _), hide (hz.out.far (by simp; omega) _), hide ((hb.out.setCell (Nat.le_refl _) _).drew)⟩
        case measure => simp [intOf]
      · have HX2 := hide (show jn ⟨va, vb, vc, vd⟩ ⟨ua, ub, uc, ud⟩ 4 = (jn ⟨va, vb, vc, vd⟩ ⟨ua, ub, uc, ud⟩ 3).setIfInBounds 3 (.int .i64 vd) by
          have : max vd ud = vd := by omega
          simp [jn, this])
        go_wp2
        go_region
        all_goals go_wp2
        all_goals go_roundw
        case rel => exact ⟨4, by omega, rfl, hide (by rw [HX2.out]; exact hx.out.store 3 _), hide (hy.out.far (by simp) _), hide (hz.out.far (by simp; omega) _), hide ((hb.out.setCell (Nat.le_refl _) _).drew)⟩
        case measure => simp [intOf]
    · obtain ⟨x0, x1, x2, x3⟩ := four_cells hx.out
      obtain ⟨z0, z1, z2, z3⟩ := four_cells hz.out
      have f0 := hz.out.frozen 0
      have f1 := hz.out.frozen 1
      have f2 := hz.out.frozen 2
      have f3 := hz.out.frozen 3
      simp only [Nat.reduceLT, if_true] at x0 x1 x2 x3
      go_wp2
      have HV := four_cells ((((hz.out.store 0 (.int .i64 (max va ua))).store 1 (.int .i64 (max vb ub))).store 2 (.int .i64 (max vc uc))).store 3 (.int .i64 (max vd ud)))
      have HBV := ((((hb.out.setCell (p := ⟨w.heap.size + 1 + 1, 0, none⟩) (by simp; omega) (.int .i64 (max va ua))).setCell (p := ⟨w.heap.size + 1 + 1, 1, none⟩) (by simp; omega) (.int .i64 (max vb ub))).setCell (p := ⟨w.heap.size + 1 + 1, 2, none⟩) (by simp; omega) (.int .i64 (max vc uc))).setCell (p := ⟨w.heap.size + 1 + 1, 3, none⟩) (by simp; omega) (.int .i64 (max vd ud)))
      clear x0 x1 x2 x3 z0 z1 z2 z3 f0 f1 f2 f3
      generalize (((wr.setCell ⟨w.heap.size + 1 + 1, 0, none⟩ (.int .i64 (max va ua))).setCell ⟨w.heap.size + 1 + 1, 1, none⟩ (.int .i64 (max vb ub))).setCell ⟨w.heap.size + 1 + 1, 2, none⟩ (.int .i64 (max vc uc))).setCell ⟨w.heap.size + 1 + 1, 3, none⟩ (.int .i64 (max vd ud)) = w3 at *
      obtain ⟨c0, c1, c2, c3⟩ := HV
      refine bodyPost_ret (v := (joinV ⟨va, vb, vc, vd⟩ ⟨ua, ub, uc, ud⟩).val) (by simp [results, Try.results6, go_sem, c0, c1, c2, c3, joinV, Vec.val]) rfl ?_
      exact ⟨rfl, HBV⟩

theorem vec_join_same (v u : Vec) : decide ((joinV v u).a = v.a ∧ (joinV v u).b = v.b ∧ (joinV v u).c = v.c ∧ (joinV v u).d = v.d) = coversV v u := by
  unfold joinV coversV
  rw [decide_eq_decide]
  simp only
  omega
theorem vcovers_any (v u : Vec) (w : World) : Calls Try.prog 7 #[v.val, u.val] w fun e w' => e = .returned (.bool (coversV v u)) ∧ Below w.heap.size w w' := by
  obtain ⟨W, hW⟩ : ∃ W, W = (w.alloc (.cells v.arr 22)).alloc (.cells u.arr 22) := ⟨_, rfl⟩
  have HX := hide (show Blk W w.heap.size 22 v.arr by rw [hW]; exact (Blk.new w _ _).alloc _)
  have HY := hide (show Blk W (w.heap.size + 1) 22 u.arr by rw [hW]; have := Blk.new (w.alloc (.cells v.arr 22)) 22 u.arr; simpa using this)
  have HB := hide (show Below w.heap.size w W by rw [hW]; exact ((Below.refl _ w).alloc (Nat.le_refl _) _).alloc (by simp) _)
  have HW := hide hW
  have JN := hide (fun W' => vjoin_any v u W')
  have HE := hide (vec_join_same v u)
  clear hW
  generalize hJ : joinV v u = J at *
  clear hJ
  obtain ⟨va, vb, vc, vd⟩ := v
  obtain ⟨ua, ub, uc, ud⟩ := u
  obtain ⟨ja, jb, jc, jd⟩ := J
  unfold Vec.val at *
  simp only at JN HE
  generalize hK : coversV ⟨va, vb, vc, vd⟩ ⟨ua, ub, uc, ud⟩ = K at *
  clear hK
  have hq : ∀ W, (Op.equalIn 10000 22 (.agg #[.int .i64 ja, .int .i64 jb, .int .i64 jc, .int .i64 jd]) (.agg #[.int .i64 va, .int .i64 vb, .int .i64 vc, .int .i64 vd])).run Try.prog W = .ok K W := fun W => by
    rw [← HE.out]
    exact four_equal ja jb jc jd va vb vc vd W
  have x0 := fun w' (h : Since W w') => ((HX.out.below h HX.out.lt).cell 0).trans (show _ = some (Value.int .i64 va) from rfl)
  have x1 := fun w' (h : Since W w') => ((HX.out.below h HX.out.lt).cell 1).trans (show _ = some (Value.int .i64 vb) from rfl)
  have x2 := fun w' (h : Since W w') => ((HX.out.below h HX.out.lt).cell 2).trans (show _ = some (Value.int .i64 vc) from rfl)
  have x3 := fun w' (h : Since W w') => ((HX.out.below h HX.out.lt).cell 3).trans (show _ = some (Value.int .i64 vd) from rfl)
  have y0 := fun w' (h : Since W w') => ((HY.out.below h HY.out.lt).cell 0).trans (show _ = some (Value.int .i64 ua) from rfl)
  have y1 := fun w' (h : Since W w') => ((HY.out.below h HY.out.lt).cell 1).trans (show _ = some (Value.int .i64 ub) from rfl)
  have y2 := fun w' (h : Since W w') => ((HY.out.below h HY.out.lt).cell 2).trans (show _ = some (Value.int .i64 uc) from rfl)
  have y3 := fun w' (h : Since W w') => ((HY.out.below h HY.out.lt).cell 3).trans (show _ = some (Value.int .i64 ud) from rfl)
  have hr0 := (Since.refl W).drew
  have HFIN := hide (fun w' (h : Since W w') => (HB.out.trans (Below.mono h HB.out.size) : Below w.heap.size w w'))
  go_enter Try.func7, Try.ntmps7
  go_wp2_with fail
  rw [show (w.alloc (Obj.cells #[.int .i64 va, .int .i64 vb, .int .i64 vc, .int .i64 vd] 22)).alloc (Obj.cells #[.int .i64 ua, .int .i64 ub, .int .i64 uc, .int .i64 ud] 22) = W from HW.out.symm]
  clear HW HX HY HB HE
  go_region_held (fun w' => Since W w') (assumption) (first
    | (go_at_call 6; refine (JN.out _).mono ?_; rintro e w5 ⟨rfl, hs5⟩; have hs6 := Since.trans (by assumption) hs5))
  all_goals go_wp2
  all_goals go_ret
  all_goals exact ⟨rfl, HFIN.out _ (by assumption)⟩

theorem vnext_any (v : Vec) (r : Int) (w : World) (hm : -9223372036854775808 ≤ v.at_ r) : Calls Try.prog 12 #[v.val, .int .i64 r] w fun e w' => e = .returned (.agg #[.int .i64 (nextV v r).1, .int .i64 (nextV v r).2]) ∧ Below w.heap.size w w' := by
  have HB := hide (show ∀ cs, Below w.heap.size w ((w.alloc (.cells v.arr 22)).alloc (.cells cs 32)) from fun cs =>
    ((Below.refl _ w).alloc (Nat.le_refl _) _).alloc (by simp) _)
  by_cases hr : r < 0 ∨ 4 ≤ r
  · have hn : nextV v r = (0, 0) := if_neg (by omega)
    rw [hn]
    have NO := hide (fun W => isrep_no r W hr)
    obtain ⟨va, vb, vc, vd⟩ := v
    clear hr hm hn
    go_enter Try.func12, Try.ntmps12
    unfold Vec.val
    go_wp2_with fail
    refine (NO.out _).mono ?_
    rintro e w5 ⟨rfl, rfl⟩
    go_wp2
    go_returns
    exact ⟨rfl, HB.out _⟩
  · have YES := hide (fun W => isrep_yes r W (by omega) (by omega))
    by_cases hx : 65535 ≤ v.at_ r
    · have hn : nextV v r = (0, 0) := if_neg (by omega)
      rw [hn]
      obtain ⟨va, vb, vc, vd⟩ := v
      rcases rep_cases (r := r) (by omega) (by omega) with rfl | rfl | rfl | rfl
      all_goals clear hr hn hm
      all_goals simp only [Vec.at_, if_true, Int.reduceEq, if_false] at hx
      all_goals go_enter Try.func12, Try.ntmps12
      all_goals unfold Vec.val
      all_goals go_wp2_with fail
      all_goals refine (YES.out _).mono ?_
      all_goals rintro e w5 ⟨rfl, rfl⟩
      all_goals go_wp2
      all_goals go_returns
      all_goals exact ⟨rfl, HB.out _⟩
    · have hn : nextV v r = (r, v.at_ r + 1) := if_pos (by omega)
      rw [hn]
      have hxx : ¬ 65535 ≤ v.at_ r := hx
      obtain ⟨va, vb, vc, vd⟩ := v
      rcases rep_cases (r := r) (by omega) (by omega) with rfl | rfl | rfl | rfl
      all_goals clear hr hn hxx
      all_goals simp only [Vec.at_, if_true, Int.reduceEq, if_false] at hx hm
      all_goals go_enter Try.func12, Try.ntmps12
      all_goals unfold Vec.val
      all_goals go_wp2_with fail
      all_goals refine (YES.out _).mono ?_
      all_goals rintro e w5 ⟨rfl, rfl⟩
      all_goals go_wp2
      all_goals go_returns
      all_goals exact ⟨by simp [Vec.at_], HB.out _⟩
end Go.Proofs.Ytakjlcnojgboeaa
