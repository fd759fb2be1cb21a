/-
  Contracts of package num's functions and of the plain functions of statement layer 1: what each returns, for all int64 arguments; the world stays as it is.
-/
import Derived.Test.YtieojdnpdeceiaaRows
import Derived.WalkKit
import Derived.ProofKit
import Derived.OpenShut
import Derived.Below
import Derived.Lib.Hide
namespace Go.Proofs.Ytieojdnpdeceiaa
open Go.RowKit
set_option linter.unusedVariables false

/-- n is a number of 64 bits. -/
def I64 (n : Int) : Prop := -9223372036854775808 ≤ n ∧ n ≤ 9223372036854775807
instance (n : Int) : Decidable (I64 n) := by unfold I64; infer_instance

theorem wrap64_id {n : Int} (h : I64 n) : wrap64 n = n := by unfold I64 at h; unfold wrap64; omega

theorem numAdd_yes (a b : Int) (w : World) (ha : I64 a) (hb : I64 b) (h : I64 (a + b)) :
    Calls Try.prog 7 #[.int .i64 a, .int .i64 b] w fun e w' => e = .returned (.tuple #[.int .i64 (a + b), .bool true]) ∧ w = w' := by
  unfold I64 at ha hb h
  by_cases p : 0 < b
  · have q : ¬ (a + b < a) := by omega
    have r : ¬ (b < 0) := by omega
    go_enter Try.func7, Try.ntmps7
    go_wp2
    go_ret2
    exact ⟨rfl, rfl⟩
  · by_cases r : b < 0
    · have q : ¬ (a < a + b) := by omega
      go_enter Try.func7, Try.ntmps7
      go_wp2
      go_ret2
      exact ⟨rfl, rfl⟩
    · go_enter Try.func7, Try.ntmps7
      go_wp2
      go_ret2
      exact ⟨rfl, rfl⟩

theorem numAdd_no (a b : Int) (w : World) (ha : I64 a) (hb : I64 b) (h : ¬ I64 (a + b)) :
    Calls Try.prog 7 #[.int .i64 a, .int .i64 b] w fun e w' => e = .returned (.tuple #[.int .i64 0, .bool false]) ∧ w = w' := by
  have h' : ¬ (-9223372036854775808 ≤ a + b ∧ a + b ≤ 9223372036854775807) := h
  unfold I64 at ha hb
  by_cases p : 0 < b
  · have q : wrap64 (a + b) < a := by unfold wrap64; omega
    have r : ¬ (b < 0) := by omega
    clear h h'
    go_enter Try.func7, Try.ntmps7
    go_wp2
    go_ret2
    exact ⟨rfl, rfl⟩
  · have r : b < 0 := by omega
    have q : a < wrap64 (a + b) := by unfold wrap64; omega
    clear h h'
    go_enter Try.func7, Try.ntmps7
    go_wp2
    go_ret2
    exact ⟨rfl, rfl⟩

theorem lawAdd_yes (a b : Int) (w : World) (ha : I64 a) (hb : I64 b) (h : I64 (a + b)) :
    Calls Try.prog 8 #[.int .i64 a, .int .i64 b] w fun e w' => e = .returned (.tuple #[.int .i64 (a + b), .bool true]) ∧ w = w' := by
  unfold I64 at ha hb h
  by_cases p : 0 < b
  · have q : ¬ (9223372036854775807 - b < a) := by omega
    have r : ¬ (b < 0) := by omega
    go_enter Try.func8, Try.ntmps8
    go_wp2
    go_ret2
    exact ⟨rfl, rfl⟩
  · by_cases r : b < 0
    · have q : ¬ (a < -9223372036854775808 - b) := by omega
      go_enter Try.func8, Try.ntmps8
      go_wp2
      go_ret2
      exact ⟨rfl, rfl⟩
    · go_enter Try.func8, Try.ntmps8
      go_wp2
      go_ret2
      exact ⟨rfl, rfl⟩

theorem lawAdd_no (a b : Int) (w : World) (ha : I64 a) (hb : I64 b) (h : ¬ I64 (a + b)) :
    Calls Try.prog 8 #[.int .i64 a, .int .i64 b] w fun e w' => e = .returned (.tuple #[.int .i64 0, .bool false]) ∧ w = w' := by
  have h' : ¬ (-9223372036854775808 ≤ a + b ∧ a + b ≤ 9223372036854775807) := h
  unfold I64 at ha hb
  by_cases p : 0 < b
  · have q : 9223372036854775807 - b < a := by omega
    have r : ¬ (b < 0) := by omega
    clear h h'
    go_enter Try.func8, Try.ntmps8
    go_wp2
    go_ret2
    exact ⟨rfl, rfl⟩
  · have r : b < 0 := by omega
    have q : a < -9223372036854775808 - b := by omega
    clear h h'
    go_enter Try.func8, Try.ntmps8
    go_wp2
    go_ret2
    exact ⟨rfl, rfl⟩

theorem numSub_yes (a b : Int) (w : World) (ha : I64 a) (hb : I64 b) (h : I64 (a - b)) :
    Calls Try.prog 9 #[.int .i64 a, .int .i64 b] w fun e w' => e = .returned (.tuple #[.int .i64 (a - b), .bool true]) ∧ w = w' := by
  unfold I64 at ha hb h
  by_cases p : 0 < b
  · have q : ¬ (a < a - b) := by omega
    have r : ¬ (b < 0) := by omega
    go_enter Try.func9, Try.ntmps9
    go_wp2
    go_ret2
    exact ⟨rfl, rfl⟩
  · by_cases r : b < 0
    · have q : ¬ (a - b < a) := by omega
      go_enter Try.func9, Try.ntmps9
      go_wp2
      go_ret2
      exact ⟨rfl, rfl⟩
    · go_enter Try.func9, Try.ntmps9
      go_wp2
      go_ret2
      exact ⟨rfl, rfl⟩

theorem numSub_no (a b : Int) (w : World) (ha : I64 a) (hb : I64 b) (h : ¬ I64 (a - b)) :
    Calls Try.prog 9 #[.int .i64 a, .int .i64 b] w fun e w' => e = .returned (.tuple #[.int .i64 0, .bool false]) ∧ w = w' := by
  have h' : ¬ (-9223372036854775808 ≤ a - b ∧ a - b ≤ 9223372036854775807) := h
  unfold I64 at ha hb
  by_cases p : 0 < b
  · have q : a < wrap64 (a - b) := by unfold wrap64; omega
    have r : ¬ (b < 0) := by omega
    clear h h'
    go_enter Try.func9, Try.ntmps9
    go_wp2
    go_ret2
    exact ⟨rfl, rfl⟩
  · have r : b < 0 := by omega
    have q : wrap64 (a - b) < a := by unfold wrap64; omega
    clear h h'
    go_enter Try.func9, Try.ntmps9
    go_wp2
    go_ret2
    exact ⟨rfl, rfl⟩

theorem lawSub_yes (a b : Int) (w : World) (ha : I64 a) (hb : I64 b) (h : I64 (a - b)) :
    Calls Try.prog 10 #[.int .i64 a, .int .i64 b] w fun e w' => e = .returned (.tuple #[.int .i64 (a - b), .bool true]) ∧ w = w' := by
  unfold I64 at ha hb h
  by_cases p : b < 0
  · have q : ¬ (9223372036854775807 + b < a) := by omega
    have r : ¬ (0 < b) := by omega
    go_enter Try.func10, Try.ntmps10
    go_wp2
    go_ret2
    exact ⟨rfl, rfl⟩
  · by_cases r : 0 < b
    · have q : ¬ (a < -9223372036854775808 + b) := by omega
      go_enter Try.func10, Try.ntmps10
      go_wp2
      go_ret2
      exact ⟨rfl, rfl⟩
    · go_enter Try.func10, Try.ntmps10
      go_wp2
      go_ret2
      exact ⟨rfl, rfl⟩

theorem lawSub_no (a b : Int) (w : World) (ha : I64 a) (hb : I64 b) (h : ¬ I64 (a - b)) :
    Calls Try.prog 10 #[.int .i64 a, .int .i64 b] w fun e w' => e = .returned (.tuple #[.int .i64 0, .bool false]) ∧ w = w' := by
  have h' : ¬ (-9223372036854775808 ≤ a - b ∧ a - b ≤ 9223372036854775807) := h
  unfold I64 at ha hb
  by_cases p : b < 0
  · have q : 9223372036854775807 + b < a := by omega
    have r : ¬ (0 < b) := by omega
    clear h h'
    go_enter Try.func10, Try.ntmps10
    go_wp2
    go_ret2
    exact ⟨rfl, rfl⟩
  · have r : 0 < b := by omega
    have q : a < -9223372036854775808 + b := by omega
    clear h h'
    go_enter Try.func10, Try.ntmps10
    go_wp2
    go_ret2
    exact ⟨rfl, rfl⟩


theorem tdiv_yes (a b : Int) (hb : b ≠ 0) : (a * b).tdiv b = a := Int.mul_tdiv_cancel a hb
/-- Divided back it is the same only where nothing wrapped. -/
theorem tdiv_no (a b : Int) (hb : I64 b) (h0 : b ≠ 0) (h1 : b ≠ -1) (h : ¬ I64 (a * b)) : (wrap64 (a * b)).tdiv b ≠ a := by
  intro e
  have hw : I64 (wrap64 (a * b)) := by unfold wrap64 I64; omega
  have hk : ∃ k : Int, wrap64 (a * b) = a * b + 18446744073709551616 * k := ⟨-((a * b + 9223372036854775808) / 18446744073709551616), by unfold wrap64; omega⟩
  obtain ⟨k, hk⟩ := hk
  have hm := Int.tmod_add_mul_tdiv (wrap64 (a * b)) b
  rw [e] at hm
  have h2 : (wrap64 (a * b)).tmod b = 18446744073709551616 * k := by
    have : b * a = a * b := Int.mul_comm _ _
    omega
  have h3 : ((wrap64 (a * b)).tmod b).natAbs < b.natAbs := by
    rw [Int.natAbs_tmod]
    exact Nat.mod_lt _ (by omega)
  unfold I64 at hb hw h
  have h4 : k = 0 := by omega
  subst h4
  omega
end Go.Proofs.Ytieojdnpdeceiaa
