/-
  The order of changes: words; the reference's Less, and the statements' compare of lists.
-/
import Derived.Test.YtakjlcnojgboeaaChg
import Derived.BigQuiet
namespace Go.Proofs.Ytakjlcnojgboeaa
open Go.RowKit
set_option linter.unusedVariables false

def lessC (x y : Chg) : Bool := decide (x.t < y.t ∨ (x.t = y.t ∧ (x.r < y.r ∨ (x.r = y.r ∧ x.s < y.s))))

theorem id_equal (r s r2 s2 : Int) (d : Nat) (W : World) : (Op.equalIn (d + 2) 32 (.agg #[.int .i64 r, .int .i64 s]) (.agg #[.int .i64 r2, .int .i64 s2])).run Try.prog W = .ok (decide (r = r2 ∧ s = s2)) W := by
  have u3 := Try.underlying3
  have a3 := Try.isAgg3
  have z3 := Try.sizeOf3
  have hS : Try.prog.underlying 32 = some (.struct (Try.prog.fieldsOf 32)) := by kernel_rfl
  have hp : Try.prog.stoodInHeld 32 = false := by kernel_rfl
  rw [run_equalIn_agg W (d + 1) 32 _ _ hS hp]
  simp only [Program.fieldsOf, Try.underlying32]
  go_simp
  by_cases h1 : r = r2 <;> by_cases h2 : s = s2 <;> simp [h1, h2]
theorem chg_equal (x y : Chg) (W : World) : (Op.equalIn 10000 34 x.val y.val).run Try.prog W = .ok (decide (x = y)) W := by
  have e : decide (x = y) = decide ((x.r = y.r ∧ x.s = y.s) ∧ x.t = y.t ∧ x.k = y.k ∧ x.a = y.a ∧ x.b = y.b ∧ x.n = y.n ∧ (x.p = y.p ∧ x.q = y.q)) := by
    rw [Bool.eq_iff_iff, decide_eq_true_iff, decide_eq_true_iff]
    constructor
    · intro h; subst h; simp
    · rintro ⟨⟨h1, h2⟩, h3, h4, h5, h6, h7, h8, h9⟩
      exact Chg.ext' h1 h2 h3 h4 h5 h6 h7 h8 h9
  rw [e]
  obtain ⟨xr, xs, xt, xk, xa, xb, xn, xp, xq⟩ := x
  obtain ⟨yr, ys, yt, yk, ya, yb, yn, yp, yq⟩ := y
  unfold Chg.val
  have u3 := Try.underlying3
  have a3 := Try.isAgg3
  have z3 := Try.sizeOf3
  have u4 := Try.underlying2
  have a4 := Try.isAgg2
  have z4 := Try.sizeOf2
  have a5 := Try.isAgg32
  have z5 := Try.sizeOf32
  have hS : Try.prog.underlying 34 = some (.struct (Try.prog.fieldsOf 34)) := by kernel_rfl
  have hp : Try.prog.stoodInHeld 34 = false := by kernel_rfl
  have hi1 := fun W => id_equal xr xs yr ys 9997 W
  have hi2 := fun W => id_equal xp xq yp yq 9997 W
  rw [show (10000 : Nat) = 9999 + 1 from rfl, run_equalIn_agg W 9999 34 _ _ hS hp]
  simp only [Program.fieldsOf, Try.underlying34]
  go_simp
  by_cases h1 : xr = yr
  · by_cases h2 : xs = ys
    · by_cases h3 : xt = yt
      · by_cases h4 : xk = yk
        · by_cases h5 : xa = ya
          · by_cases h6 : xb = yb
            · by_cases h7 : xn = yn
              · by_cases h8 : xp = yp
                · by_cases h9 : xq = yq
                  · simp [h1, h2, h3, h4, h5, h6, h7, h8, h9]
                  · simp [h1, h2, h3, h4, h5, h6, h7, h8, h9]
                · simp [h1, h2, h3, h4, h5, h6, h7, h8]
              · simp [h1, h2, h3, h4, h5, h6, h7]
            · simp [h1, h2, h3, h4, h5, h6]
          · simp [h1, h2, h3, h4, h5]
        · simp [h1, h2, h3, h4]
      · simp [h1, h2, h3]
    · simp [h1, h2]
  · simp [h1]
end Go.Proofs.Ytakjlcnojgboeaa
