/-
  Waits, as numbers.
-/
import Derived.Test.YtafihjpmecdgbaaNear
namespace Go.Proofs.Ytafihjpmecdgbaa
set_option linter.unusedVariables false

def dbl : Nat → Int → Int → Int
  | 0, w, _ => w
  | k + 1, w, m => if w < m then dbl k (w * 2) m else w
/-- How many tries count. -/
def tries (n : Int) : Nat := (min n 64).toNat
/-- The wait behind the n-th try. -/
def dwait (base most n : Int) : Int := if n < 1 then 0 else min (dbl (tries n - 1) (near base 1 64) (near most 1 64)) (near most 1 64)
def dsum (base most : Int) : Nat → Int
  | 0 => 0
  | k + 1 => dsum base most k + dwait base most ((k : Int) + 1)
def ddue (base most n last : Int) : Int := near last 0 1073741824 + dwait base most n

theorem dbl_min : ∀ (k : Nat) (w m : Int), 1 ≤ w → min (dbl k w m) m = min (w * 2 ^ k) m := by
  intro k
  induction k with
  | zero => intro w m _; simp [dbl]
  | succ k ih =>
    intro w m hw
    have hp : (1 : Int) ≤ 2 ^ k := by
      have := Int.pow_pos (n := 2) (m := k) (by omega)
      omega
    unfold dbl
    split
    · rw [ih (w * 2) m (by omega), Int.pow_succ, Int.mul_assoc, Int.mul_comm 2]
    · have h1 : w * 1 ≤ w * 2 ^ (k + 1) := Int.mul_le_mul_of_nonneg_left (by rw [Int.pow_succ]; omega) (by omega)
      rw [Int.min_eq_right (by omega), Int.min_eq_right (by omega)]
theorem dbl_le : ∀ (k : Nat) (w m : Int), 1 ≤ w → w ≤ 128 → m ≤ 64 → 1 ≤ dbl k w m ∧ dbl k w m ≤ 128 := by
  intro k
  induction k with
  | zero => intro w m h1 h2 _; exact ⟨h1, h2⟩
  | succ k ih =>
    intro w m h1 h2 h3
    unfold dbl
    split
    · exact ih _ _ (by omega) (by omega) h3
    · exact ⟨h1, h2⟩
theorem dwait_in (base most n : Int) : 0 ≤ dwait base most n ∧ dwait base most n ≤ 64 := by
  unfold dwait
  obtain ⟨h1, h2⟩ := near_in (n := base) (show (1 : Int) ≤ 64 by omega)
  obtain ⟨h3, h4⟩ := near_in (n := most) (show (1 : Int) ≤ 64 by omega)
  obtain ⟨h5, h6⟩ := dbl_le (tries n - 1) (near base 1 64) (near most 1 64) h1 (by omega) h4
  split
  · omega
  · omega
theorem dsum_in (base most : Int) (k : Nat) : 0 ≤ dsum base most k ∧ dsum base most k ≤ k * 64 := by
  induction k with
  | zero => simp [dsum]
  | succ k ih =>
    have := dwait_in base most ((k : Int) + 1)
    unfold dsum
    omega
theorem ddue_in (base most n last : Int) : 0 ≤ ddue base most n last ∧ ddue base most n last ≤ 1073741888 := by
  unfold ddue
  have h1 := near_in (n := last) (show (0 : Int) ≤ 1073741824 by omega)
  have h2 := dwait_in base most n
  omega

theorem dwait_rises (base most : Int) (n : Int) (h1 : 1 ≤ n) (h2 : n ≤ 70) :
    1 ≤ dwait base most n ∧ dwait base most n ≤ near most 1 64 ∧ dwait base most n ≤ dwait base most (n + 1) ∧ (dwait base most (n + 1) = 2 * dwait base most n ∨ dwait base most (n + 1) = near most 1 64) := by
  obtain ⟨hb1, hb2⟩ := near_in (n := base) (show (1 : Int) ≤ 64 by omega)
  obtain ⟨hm1, hm2⟩ := near_in (n := most) (show (1 : Int) ≤ 64 by omega)
  unfold dwait
  rw [if_neg (by omega), if_neg (by omega), dbl_min _ _ _ hb1, dbl_min _ _ _ hb1]
  generalize near base 1 64 = b at *
  generalize near most 1 64 = m at *
  rcases Int.lt_or_le n 64 with hn | hn
  · have e : tries (n + 1) - 1 = (tries n - 1) + 1 := by unfold tries; omega
    rw [e, Int.pow_succ, ← Int.mul_assoc]
    have hp : (1 : Int) ≤ 2 ^ (tries n - 1) := by
      have := Int.pow_pos (n := 2) (m := tries n - 1) (by omega)
      omega
    have hx : b * 1 ≤ b * 2 ^ (tries n - 1) := Int.mul_le_mul_of_nonneg_left hp (by omega)
    generalize b * 2 ^ (tries n - 1) = x at *
    omega
  · have e1 : tries n - 1 = 63 := by unfold tries; omega
    have e2 : tries (n + 1) - 1 = 63 := by unfold tries; omega
    rw [e1, e2]
    have hx : b * 1 ≤ b * 2 ^ 63 := Int.mul_le_mul_of_nonneg_left (by decide) (by omega)
    have hy : m ≤ b * 2 ^ 63 := by
      have : (1 : Int) * 2 ^ 63 ≤ b * 2 ^ 63 := Int.mul_le_mul_of_nonneg_right (by omega) (by decide)
      omega
    generalize b * 2 ^ 63 = x at *
    omega
end Go.Proofs.Ytafihjpmecdgbaa
