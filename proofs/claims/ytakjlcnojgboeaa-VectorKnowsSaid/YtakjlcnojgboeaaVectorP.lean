/-
  The program's contracts of layer 8: Of, Lacking (the others: VectorI).
-/
import Derived.Test.YtakjlcnojgboeaaVectorI
import Derived.Test.YtakjlcnojgboeaaStampMore
namespace Go.Proofs.Ytakjlcnojgboeaa
open Go.RowKit
set_option linter.unusedVariables false

theorem seqOf_step (r : Int) {l : List Chg} {j : Nat} {x : Chg} (h : l[j]? = some x) : seqOf r (l.take (j + 1)) = if x.r = r then max (seqOf r (l.take j)) x.s else seqOf r (l.take j) := by
  unfold seqOf
  rw [List.take_add_one, h]
  simp
theorem ofV_far {l : List Chg} {j : Nat} {x : Chg} (h : l[j]? = some x) (hr : x.r < 0 ∨ 4 ≤ x.r) : ofV (l.take (j + 1)) = ofV (l.take j) := by
  unfold ofV
  rw [seqOf_step 0 h, seqOf_step 1 h, seqOf_step 2 h, seqOf_step 3 h, if_neg (by omega), if_neg (by omega), if_neg (by omega), if_neg (by omega)]

theorem vof_any (P : Nat → Prop) (A : Option Addr) (n c : Nat) (l : List Chg) (w : World) (h : RowK w P 9 A n c (chgs l)) (ho : ∀ x ∈ l, x.ok) : Calls Try.prog 9 #[.slice A n c] w fun e w' => e = .returned (ofV l).val ∧ Below w.heap.size w w' := by
  have hl : l.length = n := by have := h.1; rw [chgs_len] at this; omega
  have hcap := h.2.1
  have hcb := h.2.2.1
  obtain ⟨W, hW⟩ : ∃ W, W = (w.alloc (.cells #[.int .i64 0, .int .i64 0, .int .i64 0, .int .i64 0] 22)).alloc (.cells #[.int .i64 0, .int .i64 0, .int .i64 0, .int .i64 0] 22) := ⟨_, rfl⟩
  have HX := hide (show Blk W w.heap.size 22 #[.int .i64 0, .int .i64 0, .int .i64 0, .int .i64 0] by rw [hW]; exact (Blk.new w _ _).alloc _)
  have HY := hide (show Blk W (w.heap.size + 1) 22 #[.int .i64 0, .int .i64 0, .int .i64 0, .int .i64 0] by rw [hW]; have := Blk.new (w.alloc (.cells #[.int .i64 0, .int .i64 0, .int .i64 0, .int .i64 0] 22)) 22 #[.int .i64 0, .int .i64 0, .int .i64 0, .int .i64 0]; simpa using this)
  have HB := hide (show Below w.heap.size w W by rw [hW]; exact ((Below.refl _ w).alloc (Nat.le_refl _) _).alloc (by simp) _)
  have HW := hide hW
  have H := hide (h.inb (by omega))
  have HL := hide hl
  obtain ⟨M, hM⟩ : ∃ M, M = ofV l := ⟨_, rfl⟩
  rw [← hM]
  have HM := hide hM
  obtain ⟨ma, mb, mc, md⟩ := M
  clear h hl hW ho hM
  go_enter Try.func9, Try.ntmps9
  go_wp2
  go_loopw [9] (fun i wr => ∃ j : Nat, j ≤ n ∧ i = .int .i64 j ∧ Hid (Blk wr w.heap.size 22 #[.int .i64 0, .int .i64 0, .int .i64 0, .int .i64 0]) ∧ Hid (Blk wr (w.heap.size + 1) 22 (ofV (l.take j)).arr) ∧ Hid (Below w.heap.size w wr)) (fun i _ => n - (intOf i).toNat)
  case atStart => exact ⟨0, by omega, rfl, by have := HX.out; rw [HW.out] at this; exact this, by have := HY.out; rw [HW.out] at this; rw [List.take_zero]; exact this, by have := HB.out; rw [HW.out] at this; exact this⟩
  case round =>
    obtain ⟨j, hj, rfl, hx, hy, hb⟩ := hrel
    have HWX := hide hx.out.lt
    have HWY := hide hy.out.lt
    by_cases hlt : j < n
    · obtain ⟨b, o, x, rfl, -, hbb, hxx, hat⟩ := chgs_at (H.out.below (by omega) hb.out (fun _ h _ => h.2)) hlt
      obtain ⟨x0, x1, x2, x3, x4, x5, x6, x7, x8⟩ := hat
      have HX3 := hide (show ∀ ob, Blk (wr.alloc ob) w.heap.size 22 #[.int .i64 0, .int .i64 0, .int .i64 0, .int .i64 0] from fun ob => hx.out.alloc ob)
      have HY3 := hide (show ∀ ob, Blk (wr.alloc ob) (w.heap.size + 1) 22 (ofV (l.take j)).arr from fun ob => hy.out.alloc ob)
      have HB3 := hide (show ∀ ob, Below w.heap.size w (wr.alloc ob) from fun ob => hb.out.alloc hb.out.size ob)
      by_cases hr : x.r < 0 ∨ 4 ≤ x.r
      · have NO := hide (fun W => isrep_no x.r W hr)
        have HN := hide (ofV_far hxx hr)
        obtain ⟨xr, xs, xt, xk, xa, xb, xn, xp, xq⟩ := x
        simp only at x0 x1 x2 x3 x4 x5 x6 x7 x8 hr NO
        clear hx hy hb hxx hr
        go_wp2_with fail
        refine (NO.out _).mono ?_
        rintro e w5 ⟨rfl, rfl⟩
        clear NO
        go_wp2
        go_roundw
        case rel => exact ⟨j + 1, by omega, by go_num, hide (HX3.out _), hide (by rw [HN.out]; exact HY3.out _), hide (HB3.out _)⟩
        case measure => simp [intOf]; omega
      · have YES := hide (fun W => isrep_yes x.r W (by omega) (by omega))
        have S0 := seqOf_step 0 hxx
        have S1 := seqOf_step 1 hxx
        have S2 := seqOf_step 2 hxx
        have S3 := seqOf_step 3 hxx
        obtain ⟨xr, xs, xt, xk, xa, xb, xn, xp, xq⟩ := x
        simp only at x0 x1 x2 x3 x4 x5 x6 x7 x8 hr YES S0 S1 S2 S3
        clear hx hy hb hxx
        have hv : ofV (l.take j) = ⟨seqOf 0 (l.take j), seqOf 1 (l.take j), seqOf 2 (l.take j), seqOf 3 (l.take j)⟩ := rfl
        have hv2 : ofV (l.take (j + 1)) = ⟨seqOf 0 (l.take (j + 1)), seqOf 1 (l.take (j + 1)), seqOf 2 (l.take (j + 1)), seqOf 3 (l.take (j + 1))⟩ := rfl
        rw [hv] at HY3
        have HV2 := hide hv2
        clear hv hv2
        generalize seqOf 0 (l.take j) = m0 at *
        generalize seqOf 1 (l.take j) = m1 at *
        generalize seqOf 2 (l.take j) = m2 at *
        generalize seqOf 3 (l.take j) = m3 at *
        rcases rep_cases (r := xr) (by omega) (by omega) with rfl | rfl | rfl | rfl
        · simp only [Int.reduceEq, if_true, if_false] at S0 S1 S2 S3
          have HQ := hide (show ofV (l.take (j + 1)) = ⟨max m0 xs, m1, m2, m3⟩ by rw [HV2.out, S0, S1, S2, S3])
          clear S0 S1 S2 S3 HV2 hr
          go_wp2_with fail
          refine (YES.out _).mono ?_
          rintro e w5 ⟨rfl, rfl⟩
          clear YES
          have yk := ((HY3.out (.cells #[.int .i64 0, .int .i64 xs, .int .i64 xt, .int .i64 xk, .int .i64 xa, .int .i64 xb, .int .i64 xn, .int .i64 xp, .int .i64 xq] 34)).cell 0).trans (show _ = some (Value.int .i64 m0) from rfl)
          have fk := (HY3.out (.cells #[.int .i64 0, .int .i64 xs, .int .i64 xt, .int .i64 xk, .int .i64 xa, .int .i64 xb, .int .i64 xn, .int .i64 xp, .int .i64 xq] 34)).frozen 0
          have sk : (wr.alloc (.cells #[.int .i64 0, .int .i64 xs, .int .i64 xt, .int .i64 xk, .int .i64 xa, .int .i64 xb, .int .i64 xn, .int .i64 xp, .int .i64 xq] 34)).cell? ⟨wr.heap.size, 1, none⟩ = some (.int .i64 xs) := by simp
          have A1 := hide (HX3.out (.cells #[.int .i64 0, .int .i64 xs, .int .i64 xt, .int .i64 xk, .int .i64 xa, .int .i64 xb, .int .i64 xn, .int .i64 xp, .int .i64 xq] 34))
          have A2 := hide (HY3.out (.cells #[.int .i64 0, .int .i64 xs, .int .i64 xt, .int .i64 xk, .int .i64 xa, .int .i64 xb, .int .i64 xn, .int .i64 xp, .int .i64 xq] 34))
          have A3 := hide (HB3.out (.cells #[.int .i64 0, .int .i64 xs, .int .i64 xt, .int .i64 xk, .int .i64 xa, .int .i64 xb, .int .i64 xn, .int .i64 xp, .int .i64 xq] 34))
          clear HX3 HY3 HB3
          generalize wr.alloc (.cells #[.int .i64 0, .int .i64 xs, .int .i64 xt, .int .i64 xk, .int .i64 xa, .int .i64 xb, .int .i64 xn, .int .i64 xp, .int .i64 xq] 34) = w5 at *
          by_cases hm : m0 < xs
          · have HM := hide (show max m0 xs = xs by omega)
            go_wp2
            go_region
            all_goals go_wp2
            all_goals go_roundw
            case rel => exact ⟨j + 1, by omega, by go_num, hide (A1.out.far (by simp) _), hide (by rw [HQ.out, HM.out]; exact A2.out.store 0 _), hide ((A3.out.setCell (by simp) _).drew)⟩
            case measure => simp [intOf]; omega
          · have HM := hide (show max m0 xs = m0 by omega)
            go_wp2
            go_region
            all_goals go_wp2
            all_goals go_roundw
            case rel => exact ⟨j + 1, by omega, by go_num, hide (A1.out.far (by simp) _), hide (by rw [HQ.out, HM.out]; exact A2.out.store 0 _), hide ((A3.out.setCell (by simp) _).drew)⟩
            case measure => simp [intOf]; omega
        · simp only [Int.reduceEq, if_true, if_false] at S0 S1 S2 S3
          have HQ := hide (show ofV (l.take (j + 1)) = ⟨m0, max m1 xs, m2, m3⟩ by rw [HV2.out, S0, S1, S2, S3])
          clear S0 S1 S2 S3 HV2 hr
          go_wp2_with fail
          refine (YES.out _).mono ?_
          rintro e w5 ⟨rfl, rfl⟩
          clear YES
          have yk := ((HY3.out (.cells #[.int .i64 1, .int .i64 xs, .int .i64 xt, .int .i64 xk, .int .i64 xa, .int .i64 xb, .int .i64 xn, .int .i64 xp, .int .i64 xq] 34)).cell 1).trans (show _ = some (Value.int .i64 m1) from rfl)
          have fk := (HY3.out (.cells #[.int .i64 1, .int .i64 xs, .int .i64 xt, .int .i64 xk, .int .i64 xa, .int .i64 xb, .int .i64 xn, .int .i64 xp, .int .i64 xq] 34)).frozen 1
          have sk : (wr.alloc (.cells #[.int .i64 1, .int .i64 xs, .int .i64 xt, .int .i64 xk, .int .i64 xa, .int .i64 xb, .int .i64 xn, .int .i64 xp, .int .i64 xq] 34)).cell? ⟨wr.heap.size, 1, none⟩ = some (.int .i64 xs) := by simp
          have A1 := hide (HX3.out (.cells #[.int .i64 1, .int .i64 xs, .int .i64 xt, .int .i64 xk, .int .i64 xa, .int .i64 xb, .int .i64 xn, .int .i64 xp, .int .i64 xq] 34))
          have A2 := hide (HY3.out (.cells #[.int .i64 1, .int .i64 xs, .int .i64 xt, .int .i64 xk, .int .i64 xa, .int .i64 xb, .int .i64 xn, .int .i64 xp, .int .i64 xq] 34))
          have A3 := hide (HB3.out (.cells #[.int .i64 1, .int .i64 xs, .int .i64 xt, .int .i64 xk, .int .i64 xa, .int .i64 xb, .int .i64 xn, .int .i64 xp, .int .i64 xq] 34))
          clear HX3 HY3 HB3
          generalize wr.alloc (.cells #[.int .i64 1, .int .i64 xs, .int .i64 xt, .int .i64 xk, .int .i64 xa, .int .i64 xb, .int .i64 xn, .int .i64 xp, .int .i64 xq] 34) = w5 at *
          by_cases hm : m1 < xs
          · have HM := hide (show max m1 xs = xs by omega)
            go_wp2
            go_region
            all_goals go_wp2
            all_goals go_roundw
            case rel => exact ⟨j + 1, by omega, by go_num, hide (A1.out.far (by simp) _), hide (by rw [HQ.out, HM.out]; exact A2.out.store 1 _), hide ((A3.out.setCell (by simp) _).drew)⟩
            case measure => simp [intOf]; omega
          · have HM := hide (show max m1 xs = m1 by omega)
            go_wp2
            go_region
            all_goals go_wp2
            all_goals go_roundw
            case rel => exact ⟨j + 1, by omega, by go_num, hide (A1.out.far (by simp) _), hide (by rw [HQ.out, HM.out]; exact A2.out.store 1 _), hide ((A3.out.setCell (by simp) _).drew)⟩
            case measure => simp [intOf]; omega
        · simp only [Int.reduceEq, if_true, if_false] at S0 S1 S2 S3
          have HQ := hide (show ofV (l.take (j + 1)) = ⟨m0, m1, max m2 xs, m3⟩ by rw [HV2.out, S0, S1, S2, S3])
          clear S0 S1 S2 S3 HV2 hr
          go_wp2_with fail
          refine (YES.out _).mono ?_
          rintro e w5 ⟨rfl, rfl⟩
          clear YES
          have yk := ((HY3.out (.cells #[.int .i64 2, .int .i64 xs, .int .i64 xt, .int .i64 xk, .int .i64 xa, .int .i64 xb, .int .i64 xn, .int .i64 xp, .int .i64 xq] 34)).cell 2).trans (show _ = some (Value.int .i64 m2) from rfl)
          have fk := (HY3.out (.cells #[.int .i64 2, .int .i64 xs, .int .i64 xt, .int .i64 xk, .int .i64 xa, .int .i64 xb, .int .i64 xn, .int .i64 xp, .int .i64 xq] 34)).frozen 2
          have sk : (wr.alloc (.cells #[.int .i64 2, .int .i64 xs, .int .i64 xt, .int .i64 xk, .int .i64 xa, .int .i64 xb, .int .i64 xn, .int .i64 xp, .int .i64 xq] 34)).cell? ⟨wr.heap.size, 1, none⟩ = some (.int .i64 xs) := by simp
          have A1 := hide (HX3.out (.cells #[.int .i64 2, .int .i64 xs, .int .i64 xt, .int .i64 xk, .int .i64 xa, .int .i64 xb, .int .i64 xn, .int .i64 xp, .int .i64 xq] 34))
          have A2 := hide (HY3.out (.cells #[.int .i64 2, .int .i64 xs, .int .i64 xt, .int .i64 xk, .int .i64 xa, .int .i64 xb, .int .i64 xn, .int .i64 xp, .int .i64 xq] 34))
          have A3 := hide (HB3.out (.cells #[.int .i64 2, .int .i64 xs, .int .i64 xt, .int .i64 xk, .int .i64 xa, .int .i64 xb, .int .i64 xn, .int .i64 xp, .int .i64 xq] 34))
          clear HX3 HY3 HB3
          generalize wr.alloc (.cells #[.int .i64 2, .int .i64 xs, .int .i64 xt, .int .i64 xk, .int .i64 xa, .int .i64 xb, .int .i64 xn, .int .i64 xp, .int .i64 xq] 34) = w5 at *
          by_cases hm : m2 < xs
          · have HM := hide (show max m2 xs = xs by omega)
            go_wp2
            go_region
            all_goals go_wp2
            all_goals go_roundw
            case rel => exact ⟨j + 1, by omega, by go_num, hide (A1.out.far (by simp) _), hide (by rw [HQ.out, HM.out]; exact A2.out.store 2 _), hide ((A3.out.setCell (by simp) _).drew)⟩
            case measure => simp [intOf]; omega
          · have HM := hide (show max m2 xs = m2 by omega)
            go_wp2
            go_region
            all_goals go_wp2
            all_goals go_roundw
            case rel => exact ⟨j + 1, by omega, by go_num, hide (A1.out.far (by simp) _), hide (by rw [HQ.out, HM.out]; exact A2.out.store 2 _), hide ((A3.out.setCell (by simp) _).drew)⟩
            case measure => simp [intOf]; omega
        · simp only [Int.reduceEq, if_true, if_false] at S0 S1 S2 S3
          have HQ := hide (show ofV (l.take (j + 1)) = ⟨m0, m1, m2, max m3 xs⟩ by rw [HV2.out, S0, S1, S2, S3])
          clear S0 S1 S2 S3 HV2 hr
          go_wp2_with fail
          refine (YES.out _).mono ?_
          rintro e w5 ⟨rfl, rfl⟩
          clear YES
          have yk := ((HY3.out (.cells #[.int .i64 3, .int .i64 xs, .int .i64 xt, .int .i64 xk, .int .i64 xa, .int .i64 xb, .int .i64 xn, .int .i64 xp, .int .i64 xq] 34)).cell 3).trans (show _ = some (Value.int .i64 m3) from rfl)
          have fk := (HY3.out (.cells #[.int .i64 3, .int .i64 xs, .int .i64 xt, .int .i64 xk, .int .i64 xa, .int .i64 xb, .int .i64 xn, .int .i64 xp, .int .i64 xq] 34)).frozen 3
          have sk : (wr.alloc (.cells #[.int .i64 3, .int .i64 xs, .int .i64 xt, .int .i64 xk, .int .i64 xa, .int .i64 xb, .int .i64 xn, .int .i64 xp, .int .i64 xq] 34)).cell? ⟨wr.heap.size, 1, none⟩ = some (.int .i64 xs) := by simp
          have A1 := hide (HX3.out (.cells #[.int .i64 3, .int .i64 xs, .int .i64 xt, .int .i64 xk, .int .i64 xa, .int .i64 xb, .int .i64 xn, .int .i64 xp, .int .i64 xq] 34))
          have A2 := hide (HY3.out (.cells #[.int .i64 3, .int .i64 xs, .int .i64 xt, .int .i64 xk, .int .i64 xa, .int .i64 xb, .int .i64 xn, .int .i64 xp, .int .i64 xq] 34))
          have A3 := hide (HB3.out (.cells #[.int .i64 3, .int .i64 xs, .int .i64 xt, .int .i64 xk, .int .i64 xa, .int .i64 xb, .int .i64 xn, .int .i64 xp, .int .i64 xq] 34))
          clear HX3 HY3 HB3
          generalize wr.alloc (.cells #[.int .i64 3, .int .i64 xs, .int .i64 xt, .int .i64 xk, .int .i64 xa, .int .i64 xb, .int .i64 xn, .int .i64 xp, .int .i64 xq] 34) = w5 at *
          by_cases hm : m3 < xs
          · have HM := hide (show max m3 xs = xs by omega)
            go_wp2
            go_region
            all_goals go_wp2
            all_goals go_roundw
            case rel => exact ⟨j + 1, by omega, by go_num, hide (A1.out.far (by simp) _), hide (by rw [HQ.out, HM.out]; exact A2.out.store 3 _), hide ((A3.out.setCell (by simp) _).drew)⟩
            case measure => simp [intOf]; omega
          · have HM := hide (show max m3 xs = m3 by omega)
            go_wp2
            go_region
            all_goals go_wp2
            all_goals go_roundw
            case rel => exact ⟨j + 1, by omega, by go_num, hide (A1.out.far (by simp) _), hide (by rw [HQ.out, HM.out]; exact A2.out.store 3 _), hide ((A3.out.setCell (by simp) _).drew)⟩
            case measure => simp [intOf]; omega
    · obtain rfl : j = n := by omega
      rw [List.take_of_length_le (by rw [HL.out]; exact Nat.le_refl _)] at hy
      clear hlt
      rw [← HM.out] at hy
      obtain ⟨y0, y1, y2, y3⟩ := four_cells hy.out
      obtain ⟨z0, z1, z2, z3⟩ := four_cells hx.out
      have f0 := hx.out.frozen 0
      have f1 := hx.out.frozen 1
      have f2 := hx.out.frozen 2
      have f3 := hx.out.frozen 3
      go_wp2
      have HV := four_cells ((((hx.out.store 0 (.int .i64 ma)).store 1 (.int .i64 mb)).store 2 (.int .i64 mc)).store 3 (.int .i64 md))
      have HBV := ((((hb.out.setCell (p := ⟨w.heap.size, 0, none⟩) (by simp) (.int .i64 ma)).setCell (p := ⟨w.heap.size, 1, none⟩) (by simp) (.int .i64 mb)).setCell (p := ⟨w.heap.size, 2, none⟩) (by simp) (.int .i64 mc)).setCell (p := ⟨w.heap.size, 3, none⟩) (by simp) (.int .i64 md))
      clear y0 y1 y2 y3 z0 z1 z2 z3 f0 f1 f2 f3
      generalize (((wr.setCell ⟨w.heap.size, 0, none⟩ (.int .i64 ma)).setCell ⟨w.heap.size, 1, none⟩ (.int .i64 mb)).setCell ⟨w.heap.size, 2, none⟩ (.int .i64 mc)).setCell ⟨w.heap.size, 3, none⟩ (.int .i64 md) = w3 at *
      obtain ⟨c0, c1, c2, c3⟩ := HV
      refine bodyPost_ret (v := (⟨ma, mb, mc, md⟩ : Vec).val) (by simp [results, Try.results9, go_sem, c0, c1, c2, c3, Vec.val]) rfl ?_
      exact ⟨rfl, HBV⟩

theorem own_later {w w' : World} {base : Nat} {e : TypeId} {size : Nat} {v : Value} {n : Nat} {xs : List Value} (h : w.ownsRow base e size v n xs) (hb : Below w.heap.size w w') : w'.ownsRow base e size v n xs :=
  ⟨h.1, h.2.imp id fun ⟨g, cap, cur, hv, hg, hh, r⟩ => ⟨g, cap, cur, hv, hg, (hb.block g (Array.getElem?_eq_some_iff.1 hh).1).trans hh, r⟩⟩

theorem lackV_step {v : Vec} {l : List Chg} {j : Nat} {x : Chg} (h : l[j]? = some x) : lackV v (l.drop j) = if hasV v x.r x.s = true then lackV v (l.drop (j + 1)) else x :: lackV v (l.drop (j + 1)) := by
  unfold lackV
  rw [drop_step h, List.filter_cons]
  by_cases hh : hasV v x.r x.s = true
  · rw [if_pos hh, if_neg (by simp [hh])]
  · rw [if_neg hh, if_pos (by simp [hh])]
theorem vlacking_any (v : Vec) (P : Nat → Prop) (A : Option Addr) (n c : Nat) (l : List Chg) (w : World) (h : RowK w P 9 A n c (chgs l)) (hn : n ≤ 1000000000000) : Calls Try.prog 10 #[v.val, .slice A n c] w fun e w' => FreshC w (lackV v l) w' e := by
  have hl : l.length = n := by have := h.1; rw [chgs_len] at this; omega
  obtain ⟨i9, hi, hz0, hz1, hz2⟩ := info_parts infoChg
  have hcap := h.2.1
  have hcb := h.2.2.1
  have H := hide (h.inb (by omega))
  have HL := hide hl
  generalize hF : lackV v l = F at *
  have HF := hide hF
  have HX := hide (Blk.new w 22 v.arr)
  have HB := hide ((Below.refl w.heap.size w).alloc (Nat.le_refl _) (.cells v.arr 22))
  have HH := hide (fun r s W => vhas_any v r s W)
  have HST := hide (fun (j : Nat) (x : Chg) (h : l[j]? = some x) => lackV_step (v := v) h)
  have HEND := hide (show lackV v (l.drop n) = [] by rw [List.drop_of_length_le (by omega)]; rfl)
  have HST0 := hide (show lackV v (l.drop 0) = F by rw [List.drop_zero, hF])
  clear h hl hF
  generalize lackV v = LV at *
  generalize hHV : hasV v = HV at *
  clear hHV
  obtain ⟨va, vb, vc, vd⟩ := v
  unfold Vec.val at *
  simp only at HH
  go_enter Try.func10, Try.ntmps10
  go_wp2
  go_loopw [5, 10] (fun s k wr => ∃ (j : Nat) (acc : List Chg), j ≤ n ∧ k = .int .i64 j ∧ acc.length ≤ j ∧ Hid (∃ A' c', s = .slice A' acc.length c') ∧ Hid (wr.ownsRow (w.heap.size + 1) 34 9 s acc.length (chgs acc)) ∧ Hid (Blk wr w.heap.size 22 #[.int .i64 va, .int .i64 vb, .int .i64 vc, .int .i64 vd]) ∧ Hid (acc ++ LV (l.drop j) = F) ∧ Hid (Below w.heap.size w wr)) (fun _ k _ => n - (intOf k).toNat)
  case atStart => exact ⟨0, [], Nat.zero_le _, rfl, Nat.le_refl _, hide ⟨none, 0, rfl⟩, hide ⟨rfl, .inl ⟨rfl, rfl⟩⟩, HX, hide (by rw [HST0.out]; rfl), HB⟩
  case round =>
    obtain ⟨j, acc, hj, rfl, hac, hv, how, hbx, hfr, hbl⟩ := hrel
    obtain ⟨A', c', rfl⟩ := hv.out
    have HWX := hide hbx.out.lt
    by_cases hlt : j < n
    · obtain ⟨b, o, x, rfl, -, hb, hx, hat⟩ := chgs_at (H.out.below (by omega) hbl.out (fun _ h _ => h.2)) hlt
      have e := hfr.out
      rw [HST.out _ _ hx] at e
      obtain ⟨x0, x1, x2, x3, x4, x5, x6, x7, x8⟩ := hat
      have HHX := hide (fun W => HH.out x.r x.s W)
      have HC := hide (fun (hh : HV x.r x.s = true) => show acc ++ LV (l.drop (j + 1)) = F by rw [if_pos hh] at e; exact e)
      obtain ⟨x', hx'⟩ : ∃ x', x' = x := ⟨_, rfl⟩
      have HD := hide (fun (hh : HV x.r x.s = false) => show (acc ++ [x']) ++ LV (l.drop (j + 1)) = F by rw [hx']; rw [if_neg (by rw [hh]; decide)] at e; rw [← e]; simp)
      have HCH := hide (show chgs acc ++ x.cells = chgs (acc ++ [x]) by simp [chgs])
      have HLA := hide (show (acc ++ [x]).length = acc.length + 1 by simp)
      have HONE := hide (fun u hu => chgs_one [x] u (by simpa [chgs] using hu) : ∀ u ∈ x.cells, u.oneCell' = true)
      rw [← hx'] at HCH HLA HONE
      have HXC := hide (show x'.cells = [.int .i64 x.r, .int .i64 x.s, .int .i64 x.t, .int .i64 x.k, .int .i64 x.a, .int .i64 x.b, .int .i64 x.n, .int .i64 x.p, .int .i64 x.q] by rw [hx']; rfl)
      clear hx' hx e
      obtain ⟨xr, xs, xt, xk, xa, xb, xn, xp, xq⟩ := x
      simp only at x0 x1 x2 x3 x4 x5 x6 x7 x8 HHX HC HD HXC
      generalize HV xr xs = q at *
      have N0 := hide (at_new wr ⟨xr, xs, xt, xk, xa, xb, xn, xp, xq⟩ 34)
      have O0 := hide (how.out.alloc (.cells #[.int .i64 xr, .int .i64 xs, .int .i64 xt, .int .i64 xk, .int .i64 xa, .int .i64 xb, .int .i64 xn, .int .i64 xp, .int .i64 xq] 34))
      have X0 := hide (hbx.out.alloc (.cells #[.int .i64 xr, .int .i64 xs, .int .i64 xt, .int .i64 xk, .int .i64 xa, .int .i64 xb, .int .i64 xn, .int .i64 xp, .int .i64 xq] 34))
      have B0 := hide (hbl.out.alloc hbl.out.size (.cells #[.int .i64 xr, .int .i64 xs, .int .i64 xt, .int .i64 xk, .int .i64 xa, .int .i64 xb, .int .i64 xn, .int .i64 xp, .int .i64 xq] 34))
      obtain ⟨v0, v1, v2, v3⟩ := four_cells X0.out
      clear how hbx hbl hfr hb
      go_wp2_with fail
      refine (HHX.out _).mono ?_
      rintro e w5 ⟨rfl, hs⟩
      have N5 := N0.out.later (by simp) hs
      have O5 := hide (own_later O0.out hs)
      have X5 := hide (X0.out.below hs X0.out.lt)
      have B5 := hide (B0.out.trans (hs.mono B0.out.size))
      have HSZ := hide hs.size
      obtain ⟨n0, n1, n2, n3, n4, n5, n6, n7, n8⟩ := N5
      simp only at n0 n1 n2 n3 n4 n5 n6 n7 n8
      clear hs N0 O0 X0 B0 x0 x1 x2 x3 x4 x5 x6 x7 x8 v0 v1 v2 v3 HHX
      cases q with
      | true =>
        have HE := hide (HC.out rfl)
        clear n0 n1 n2 n3 n4 n5 n6 n7 n8 HC HD
        go_wp2
        go_roundw
        case rel => exact ⟨j + 1, acc, by omega, by go_num, by omega, hide ⟨A', c', rfl⟩, O5, X5, HE, B5⟩
        case measure => simp [intOf]; omega
      | false =>
        have HE := hide (HD.out rfl)
        clear HC HD
        go_wp2_with (at_builtin; refine wpList_append_own_at _ rfl _ _ 27 rfl (w.heap.size + 1) 34 i9 _ 9 72 Try.underlying27 hi hz0 hz1 hz2 rfl (by decide) _ acc.length _ rfl (O5.out.alloc _) ⟨w5.heap.size, 0, none⟩ 1 1 x'.cells rfl (by rw [HXC.out]; rfl) (by rw [HXC.out]; exact cells_new _ _ _) HONE.out ?h1 ?h2 ?h3 ?_)
        case h1 => unfold maxLen; omega
        case h2 => omega
        case h3 => have := X5.out.lt; simp; omega
        intro v' w2 hown hgr hwas hnew
        rw [HCH.out] at hown
        have HB2 := hide ((B5.out.alloc B5.out.size _).grown hgr (by have := B5.out.size; simp; omega) (fun g hg => by have := (O5.out.lt g hg).1; omega))
        have X2 := hide (show Blk w2 w.heap.size 22 #[.int .i64 va, .int .i64 vb, .int .i64 vc, .int .i64 vd] from (hgr.block _ (by have := X5.out.lt; simp; omega) (fun hg => by have := (O5.out.lt _ hg.symm).1; omega)).trans (X5.out.alloc _))
        have HV := hide (own_formK hown)
        have HO2 := hide hown
        clear hown hgr hwas hnew n0 n1 n2 n3 n4 n5 n6 n7 n8
        go_wp2
        go_roundw
        case rel => exact ⟨j + 1, acc ++ [x'], by omega, by go_num, by rw [HLA.out]; omega, by rw [HLA.out]; exact HV, by rw [HLA.out]; exact HO2, X2, HE, HB2⟩
        case measure => simp [intOf]; omega
    · obtain rfl : j = n := by omega
      have e := hfr.out
      rw [HEND.out, List.append_nil] at e
      subst e
      clear hlt hfr HF
      go_wp2
      go_ret
      exact ⟨A', c', rfl, own_baseK how.out (by omega), hbl.out⟩
end Go.Proofs.Ytakjlcnojgboeaa
