/-
  The order of changes: words; the reference's Less, and the statements' compare of lists.
-/
import Derived.Test.YtfmddljljdoapaaChg
import Derived.BigQuiet
namespace Go.Proofs.Ytfmddljljdoapaa
open Go.RowKit
set_option linter.unusedVariables false

def lessC (x y : Chg) : Bool := decide (x.t < y.t ∨ (x.t = y.t ∧ (x.r < y.r ∨ (x.r = y.r ∧ x.s < y.s))))

theorem id_equal (r s r2 s2 : Int) (d : Nat) (W : World) : (Op.equalIn (d + 2) 23 (.agg #[.int .i64 r, .int .i64 s]) (.agg #[.int .i64 r2, .int .i64 s2])).run Try.prog W = .ok (decide (r = r2 ∧ s = s2)) W := by
  have u3 := Try.underlying3
  have a3 := Try.isAgg3
  have z3 := Try.sizeOf3
  have hS : Try.prog.underlying 23 = some (.struct (Try.prog.fieldsOf 23)) := by kernel_rfl
  have hp : Try.prog.stoodInHeld 23 = false := by kernel_rfl
  rw [run_equalIn_agg W (d + 1) 23 _ _ hS hp]
  simp only [Program.fieldsOf, Try.underlying23]
  go_simp
  by_cases h1 : r = r2 <;> by_cases h2 : s = s2 <;> simp [h1, h2]
theorem chg_equal (x y : Chg) (W : World) : (Op.equalIn 10000 25 x.val y.val).run Try.prog W = .ok (decide (x = y)) W := by
  have e : decide (x = y) = decide ((x.r = y.r ∧ x.s = y.s) ∧ x.t = y.t ∧ x.k = y.k ∧ x.a = y.a ∧ x.b = y.b ∧ x.n = y.n ∧ (x.p = y.p ∧ x.q = y.q)) := by
    rw [Bool.eq_iff_iff, decide_eq_true_iff, decide_eq_true_iff]
    constructor
    · intro h; subst h; simp
    · rintro ⟨⟨h1, h2⟩, h3, h4, h5, h6, h7, h8, h9⟩
      exact Chg.ext' h1 h2 h3 h4 h5 h6 h7 h8 h9
  rw [e]
  obtain ⟨xr, xs, xt, xk, xa, xb, xn, xp, xq⟩ := x
  obtain ⟨yr, ys, yt, yk, ya, yb, yn, yp, yq⟩ := y
  unfold Chg.val
  have u3 := Try.underlying3
  have a3 := Try.isAgg3
  have z3 := Try.sizeOf3
  have u4 := Try.underlying2
  have a4 := Try.isAgg2
  have z4 := Try.sizeOf2
  have a5 := Try.isAgg23
  have z5 := Try.sizeOf23
  have hS : Try.prog.underlying 25 = some (.struct (Try.prog.fieldsOf 25)) := by kernel_rfl
  have hp : Try.prog.stoodInHeld 25 = false := by kernel_rfl
  have hi1 := fun W => id_equal xr xs yr ys 9997 W
  have hi2 := fun W => id_equal xp xq yp yq 9997 W
  rw [show (10000 : Nat) = 9999 + 1 from rfl, run_equalIn_agg W 9999 25 _ _ hS hp]
  simp only [Program.fieldsOf, Try.underlying25]
  go_simp
  by_cases h1 : xr = yr
  · by_cases h2 : xs = ys
    · by_cases h3 : xt = yt
      · by_cases h4 : xk = yk
        · by_cases h5 : xa = ya
          · by_cases h6 : xb = yb
            · by_cases h7 : xn = yn
              · by_cases h8 : xp = yp
                · by_cases h9 : xq = yq
                  · simp [h1, h2, h3, h4, h5, h6, h7, h8, h9]
                  · simp [h1, h2, h3, h4, h5, h6, h7, h8, h9]
                · simp [h1, h2, h3, h4, h5, h6, h7, h8]
              · simp [h1, h2, h3, h4, h5, h6, h7]
            · simp [h1, h2, h3, h4, h5, h6]
          · simp [h1, h2, h3, h4, h5]
        · simp [h1, h2, h3, h4]
      · simp [h1, h2, h3]
    · simp [h1, h2]
  · simp [h1]
/-- Are two lists of changes alike? -/
theorem changes_any (P Q : Nat → Prop) (A B : Option Addr) (n c m d : Nat) (l k : List Chg) (w : World) (h : RowK w P 9 A n c (chgs l)) (h2 : RowK w Q 9 B m d (chgs k)) :
    Calls Try.prog 16 #[.slice A n c, .slice B m d] w fun e w' => e = .returned (.bool (decide (l = k))) ∧ Below w.heap.size w w' := by
  have hn : l.length = n := by have := h.1; rw [chgs_len] at this; omega
  have hm : k.length = m := by have := h2.1; rw [chgs_len] at this; omega
  have hc := h.2.1
  have hcb := h.2.2.1
  have hd := h2.2.1
  have hdb := h2.2.2.1
  by_cases hnm : n = m
  · subst hnm
    have H := hide h
    have H2 := hide h2
    have HN := hide hn
    have HM := hide hm
    clear h h2 hn hm
    go_enter Try.func16, Try.ntmps16
    go_wp2
    go_loopw [5] (fun i wr => ∃ j : Nat, j ≤ n ∧ i = .int .i64 j ∧ Hid (l.take j = k.take j) ∧ Hid (Below w.heap.size w wr)) (fun i _ => n - (intOf i).toNat)
    case atStart => exact ⟨0, Nat.zero_le _, rfl, hide (by simp), hide (Below.refl _ _)⟩
    case round =>
      obtain ⟨j, hj, rfl, heq, hbl⟩ := hrel
      by_cases hlt : j < n
      · obtain ⟨b, o, x, rfl, -, hb, hx, hat⟩ := chgs_at ((H.out.inb (by omega)).below (by omega) hbl.out (fun _ h _ => h.2)) hlt
        obtain ⟨b2, o2, y, rfl, -, hb2, hy, hat2⟩ := chgs_at ((H2.out.inb (by omega)).below (by omega) hbl.out (fun _ h _ => h.2)) hlt
        have hsx : l.take (j + 1) = l.take j ++ [x] := by rw [List.take_add_one, hx]; rfl
        have hsy : k.take (j + 1) = k.take j ++ [y] := by rw [List.take_add_one, hy]; rfl
        obtain ⟨x0, x1, x2, x3, x4, x5, x6, x7, x8⟩ := hat
        obtain ⟨y0, y1, y2, y3, y4, y5, y6, y7, y8⟩ := hat2
        by_cases hxy : x = y
        · subst hxy
          have HT := hide (show l.take (j + 1) = k.take (j + 1) by rw [hsx, hsy, heq.out])
          clear hsx hsy hx hy
          go_wp2_with fail
          go_quiet (fail)
          have HB := hide (below_drewN hbl.out nq)
          generalize wr.drewN nq = w3 at *
          clear x0 x1 x2 x3 x4 x5 x6 x7 x8 y0 y1 y2 y3 y4 y5 y6 y7 y8
          go_wp2
          go_roundw
          case rel => exact ⟨j + 1, by omega, by go_num, HT, HB⟩
          case measure => simp [intOf]; omega
        · have hlk : decide (l = k) = false := decide_eq_false fun e => by
            rw [e, hy] at hx
            injection hx with hx
            exact hxy hx.symm
          have HLK := hide hlk
          have hq : ∀ W, (Op.equalIn 10000 25 (.agg #[.int .i64 x.r, .int .i64 x.s, .int .i64 x.t, .int .i64 x.k, .int .i64 x.a, .int .i64 x.b, .int .i64 x.n, .int .i64 x.p, .int .i64 x.q]) (.agg #[.int .i64 y.r, .int .i64 y.s, .int .i64 y.t, .int .i64 y.k, .int .i64 y.a, .int .i64 y.b, .int .i64 y.n, .int .i64 y.p, .int .i64 y.q])).run Try.prog W = .ok false W := fun W => by
            have := chg_equal x y W
            rwa [decide_eq_false hxy] at this
          clear hsx hsy hx hy hlk hxy
          go_wp2_with fail
          go_quiet (fail)
          have HB := hide (below_drewN hbl.out nq)
          generalize wr.drewN nq = w3 at *
          clear x0 x1 x2 x3 x4 x5 x6 x7 x8 y0 y1 y2 y3 y4 y5 y6 y7 y8 hq
          go_wp2
          go_ret
          exact ⟨by rw [HLK.out]; rfl, HB.out⟩
      · obtain rfl : j = n := by omega
        have hlk : decide (l = k) = true := decide_eq_true (by
          have := heq.out
          rwa [List.take_of_length_le (by rw [HN.out]; exact Nat.le_refl _), List.take_of_length_le (by rw [HM.out]; exact Nat.le_refl _)] at this)
        have HLK := hide hlk
        clear hlk hlt
        go_wp2
        go_ret
        exact ⟨by rw [HLK.out]; rfl, hbl.out⟩
  · have hlk : decide (l = k) = false := decide_eq_false fun e => hnm (by rw [← hn, ← hm, e])
    have HLK := hide hlk
    have hne : ¬ ((n : Int) = (m : Int)) := by omega
    clear hlk h h2 hn hm
    go_enter Try.func16, Try.ntmps16
    go_wp2
    go_ret
    exact ⟨by rw [HLK.out]; rfl, Below.refl _ _⟩
end Go.Proofs.Ytfmddljljdoapaa
