/-
  Contracts of num.Mul, Clamp and In, and of the statement's own mul.
-/
import Derived.Test.YtieojdnpdeceiaaNum
namespace Go.Proofs.Ytieojdnpdeceiaa
open Go.RowKit
set_option linter.unusedVariables false

theorem pair_ret {k : IntKind} {a b : Int} {c : Bool} (h : a = b) : Ending.returned (.tuple #[.int k a, .bool c]) = .returned (.tuple #[.int k b, .bool c]) := by rw [h]

theorem tdiv_i64 (m b : Int) (hm : I64 m) (h0 : b ≠ 0) (h1 : b ≠ -1) : I64 (m.tdiv b) := by
  by_cases e : b = 1
  · subst e; rwa [Int.tdiv_one]
  · have h2 := Int.natAbs_tdiv m b
    have h3 : m.natAbs / b.natAbs ≤ m.natAbs / 2 := Nat.div_le_div_left (by omega) (by omega)
    have h4 : (m.tdiv b).natAbs ≤ m.natAbs / 2 := by rw [h2]; exact h3
    clear h2 h3
    unfold I64 at *
    omega

theorem numMul_yes (a b : Int) (w : World) (ha : I64 a) (hb : I64 b) (h : I64 (a * b)) :
    Calls Try.prog 11 #[.int .i64 a, .int .i64 b] w fun e w' => e = .returned (.tuple #[.int .i64 (a * b), .bool true]) ∧ w = w' := by
  by_cases p : b = 0
  · subst p
    rw [Int.mul_zero]
    go_enter Try.func11, Try.ntmps11
    go_wp2
    go_ret2
    exact ⟨rfl, rfl⟩
  · have p' : (b == 0) = false := by simpa using p
    by_cases q : b = -1
    · subst q
      have e : 0 - a = a * -1 := by omega
      rw [← e] at h
      have H := Lib.hid e
      clear e
      go_enter Try.func11, Try.ntmps11
      go_wp2_with fail
      refine (numSub_yes 0 a _ (by unfold I64; omega) ha h).mono ?_
      rintro e w' ⟨rfl, rfl⟩
      go_wp2
      go_ret2
      exact ⟨pair_ret (by have := H.out; omega), rfl⟩
    · have q' : (b == -1) = false := by simpa using q
      have r := tdiv_yes a b p
      have r1 := wrap64_id h
      have r2 : wrap64 a = a := wrap64_id ha
      go_enter Try.func11, Try.ntmps11
      go_wp2
      go_ret2
      exact ⟨pair_ret r1, rfl⟩

theorem numMul_no (a b : Int) (w : World) (ha : I64 a) (hb : I64 b) (h : ¬ I64 (a * b)) :
    Calls Try.prog 11 #[.int .i64 a, .int .i64 b] w fun e w' => e = .returned (.tuple #[.int .i64 0, .bool false]) ∧ w = w' := by
  have p : b ≠ 0 := by rintro rfl; rw [Int.mul_zero] at h; exact h (by unfold I64; omega)
  have p' : (b == 0) = false := by simpa using p
  by_cases q : b = -1
  · subst q
    have e : a * -1 = 0 - a := by omega
    rw [e] at h
    clear e p p'
    go_enter Try.func11, Try.ntmps11
    go_wp2_with fail
    refine (numSub_no 0 a _ (by unfold I64; omega) ha h).mono ?_
    rintro e w' ⟨rfl, rfl⟩
    go_wp2
    go_ret2
    exact ⟨rfl, rfl⟩
  · have q' : (b == -1) = false := by simpa using q
    have r := tdiv_no a b hb p q h
    have r3 := wrap64_id (tdiv_i64 (wrap64 (a * b)) b (by unfold I64 wrap64; omega) p q)
    have r4 : ((wrap64 (a * b)).tdiv b != a) = true := by simpa using r
    go_enter Try.func11, Try.ntmps11
    go_wp2
    go_ret2
    exact ⟨rfl, rfl⟩

theorem lawMul_yes (a b : Int) (w : World) (ha : I64 a) (hb : I64 b) (h : I64 (a * b)) :
    Calls Try.prog 12 #[.int .i64 a, .int .i64 b] w fun e w' => e = .returned (.tuple #[.int .i64 (a * b), .bool true]) ∧ w = w' := by
  by_cases z : a = 0
  · subst z
    rw [Int.zero_mul]
    go_enter Try.func12, Try.ntmps12
    go_wp2
    go_ret2
    exact ⟨rfl, rfl⟩
  have z' : (a == 0) = false := by simpa using z
  by_cases p : b = 0
  · subst p
    rw [Int.mul_zero]
    go_enter Try.func12, Try.ntmps12
    go_wp2
    go_ret2
    exact ⟨rfl, rfl⟩
  have p' : (b == 0) = false := by simpa using p
  by_cases y : a = -1
  · subst y
    have e : 0 - b = -1 * b := by omega
    rw [← e] at h
    have H := Lib.hid e
    clear e
    go_enter Try.func12, Try.ntmps12
    go_wp2_with fail
    refine (lawSub_yes 0 b _ (by unfold I64; omega) hb h).mono ?_
    rintro e w' ⟨rfl, rfl⟩
    go_wp2
    go_ret2
    exact ⟨pair_ret (by have := H.out; omega), rfl⟩
  have y' : (a == -1) = false := by simpa using y
  by_cases q : b = -1
  · subst q
    have e : 0 - a = a * -1 := by omega
    rw [← e] at h
    have H := Lib.hid e
    clear e
    go_enter Try.func12, Try.ntmps12
    go_wp2_with fail
    refine (lawSub_yes 0 a _ (by unfold I64; omega) ha h).mono ?_
    rintro e w' ⟨rfl, rfl⟩
    go_wp2
    go_ret2
    exact ⟨pair_ret (by have := H.out; omega), rfl⟩
  · have q' : (b == -1) = false := by simpa using q
    have r := tdiv_yes a b p
    have r1 := wrap64_id h
    have r2 : wrap64 a = a := wrap64_id ha
    go_enter Try.func12, Try.ntmps12
    go_wp2
    go_ret2
    exact ⟨pair_ret r1, rfl⟩

theorem lawMul_no (a b : Int) (w : World) (ha : I64 a) (hb : I64 b) (h : ¬ I64 (a * b)) :
    Calls Try.prog 12 #[.int .i64 a, .int .i64 b] w fun e w' => e = .returned (.tuple #[.int .i64 0, .bool false]) ∧ w = w' := by
  have p : b ≠ 0 := by rintro rfl; rw [Int.mul_zero] at h; exact h (by unfold I64; omega)
  have p' : (b == 0) = false := by simpa using p
  have z : a ≠ 0 := by rintro rfl; rw [Int.zero_mul] at h; exact h (by unfold I64; omega)
  have z' : (a == 0) = false := by simpa using z
  by_cases y : a = -1
  · subst y
    have e : -1 * b = 0 - b := by omega
    rw [e] at h
    clear e p z
    go_enter Try.func12, Try.ntmps12
    go_wp2_with fail
    refine (lawSub_no 0 b _ (by unfold I64; omega) hb h).mono ?_
    rintro e w' ⟨rfl, rfl⟩
    go_wp2
    go_ret2
    exact ⟨rfl, rfl⟩
  have y' : (a == -1) = false := by simpa using y
  by_cases q : b = -1
  · subst q
    have e : a * -1 = 0 - a := by omega
    rw [e] at h
    clear e p p'
    go_enter Try.func12, Try.ntmps12
    go_wp2_with fail
    refine (lawSub_no 0 a _ (by unfold I64; omega) ha h).mono ?_
    rintro e w' ⟨rfl, rfl⟩
    go_wp2
    go_ret2
    exact ⟨rfl, rfl⟩
  · have q' : (b == -1) = false := by simpa using q
    have r := tdiv_no a b hb p q h
    have r3 := wrap64_id (tdiv_i64 (wrap64 (a * b)) b (by unfold I64 wrap64; omega) p q)
    have r4 : ((wrap64 (a * b)).tdiv b != a) = true := by simpa using r
    go_enter Try.func12, Try.ntmps12
    go_wp2
    go_ret2
    exact ⟨rfl, rfl⟩

/-! ### Clamp and In -/
theorem clamp_lo (n lo hi : Int) (w : World) (h : n < lo) :
    Calls Try.prog 14 #[.int .i64 n, .int .i64 lo, .int .i64 hi] w fun e w' => e = .returned (.int .i64 lo) ∧ w = w' := by
  go_enter Try.func14, Try.ntmps14
  go_wp2
  go_ret
  exact ⟨rfl, rfl⟩
theorem clamp_hi (n lo hi : Int) (w : World) (h : ¬ n < lo) (k : hi < n) :
    Calls Try.prog 14 #[.int .i64 n, .int .i64 lo, .int .i64 hi] w fun e w' => e = .returned (.int .i64 hi) ∧ w = w' := by
  go_enter Try.func14, Try.ntmps14
  go_wp2
  go_ret
  exact ⟨rfl, rfl⟩
theorem clamp_mid (n lo hi : Int) (w : World) (h : ¬ n < lo) (k : ¬ hi < n) :
    Calls Try.prog 14 #[.int .i64 n, .int .i64 lo, .int .i64 hi] w fun e w' => e = .returned (.int .i64 n) ∧ w = w' := by
  go_enter Try.func14, Try.ntmps14
  go_wp2
  go_ret
  exact ⟨rfl, rfl⟩
theorem in_yes (n lo hi : Int) (w : World) (h : lo ≤ n) (k : n ≤ hi) :
    Calls Try.prog 15 #[.int .i64 n, .int .i64 lo, .int .i64 hi] w fun e w' => e = .returned (.bool true) ∧ w = w' := by
  go_enter Try.func15, Try.ntmps15
  go_wp2
  go_ret
  exact ⟨rfl, rfl⟩
theorem in_no (n lo hi : Int) (w : World) (h : ¬ (lo ≤ n ∧ n ≤ hi)) :
    Calls Try.prog 15 #[.int .i64 n, .int .i64 lo, .int .i64 hi] w fun e w' => e = .returned (.bool false) ∧ w = w' := by
  by_cases k : lo ≤ n
  · have m : ¬ n ≤ hi := fun x => h ⟨k, x⟩
    clear h
    go_enter Try.func15, Try.ntmps15
    go_wp2
    go_ret
    exact ⟨rfl, rfl⟩
  · clear h
    go_enter Try.func15, Try.ntmps15
    go_wp2
    go_ret
    exact ⟨rfl, rfl⟩

/-! ### The exact result, or false and 0: one contract each -/
def tell (n : Int) : Int := if I64 n then n else 0
def told (n : Int) : Bool := decide (I64 n)
theorem lift2 {F : Nat} {args : Array Value} {w : World} (n : Int)
    (y : I64 n → Calls Try.prog F args w fun e w' => e = .returned (.tuple #[.int .i64 n, .bool true]) ∧ w = w')
    (z : ¬ I64 n → Calls Try.prog F args w fun e w' => e = .returned (.tuple #[.int .i64 0, .bool false]) ∧ w = w') :
    Calls Try.prog F args w fun e w' => e = .returned (.tuple #[.int .i64 (tell n), .bool (told n)]) ∧ w = w' := by
  by_cases h : I64 n
  · have e1 : tell n = n := if_pos h
    have e2 : told n = true := decide_eq_true h
    rw [e1, e2]; exact y h
  · have e1 : tell n = 0 := if_neg h
    have e2 : told n = false := decide_eq_false h
    rw [e1, e2]; exact z h
theorem numAdd_any (a b : Int) (w : World) (ha : I64 a) (hb : I64 b) :
    Calls Try.prog 7 #[.int .i64 a, .int .i64 b] w fun e w' => e = .returned (.tuple #[.int .i64 (tell (a + b)), .bool (told (a + b))]) ∧ w = w' :=
  lift2 _ (numAdd_yes a b w ha hb) (numAdd_no a b w ha hb)
theorem lawAdd_any (a b : Int) (w : World) (ha : I64 a) (hb : I64 b) :
    Calls Try.prog 8 #[.int .i64 a, .int .i64 b] w fun e w' => e = .returned (.tuple #[.int .i64 (tell (a + b)), .bool (told (a + b))]) ∧ w = w' :=
  lift2 _ (lawAdd_yes a b w ha hb) (lawAdd_no a b w ha hb)
theorem numSub_any (a b : Int) (w : World) (ha : I64 a) (hb : I64 b) :
    Calls Try.prog 9 #[.int .i64 a, .int .i64 b] w fun e w' => e = .returned (.tuple #[.int .i64 (tell (a - b)), .bool (told (a - b))]) ∧ w = w' :=
  lift2 _ (numSub_yes a b w ha hb) (numSub_no a b w ha hb)
theorem lawSub_any (a b : Int) (w : World) (ha : I64 a) (hb : I64 b) :
    Calls Try.prog 10 #[.int .i64 a, .int .i64 b] w fun e w' => e = .returned (.tuple #[.int .i64 (tell (a - b)), .bool (told (a - b))]) ∧ w = w' :=
  lift2 _ (lawSub_yes a b w ha hb) (lawSub_no a b w ha hb)
theorem numMul_any (a b : Int) (w : World) (ha : I64 a) (hb : I64 b) :
    Calls Try.prog 11 #[.int .i64 a, .int .i64 b] w fun e w' => e = .returned (.tuple #[.int .i64 (tell (a * b)), .bool (told (a * b))]) ∧ w = w' :=
  lift2 _ (numMul_yes a b w ha hb) (numMul_no a b w ha hb)
theorem lawMul_any (a b : Int) (w : World) (ha : I64 a) (hb : I64 b) :
    Calls Try.prog 12 #[.int .i64 a, .int .i64 b] w fun e w' => e = .returned (.tuple #[.int .i64 (tell (a * b)), .bool (told (a * b))]) ∧ w = w' :=
  lift2 _ (lawMul_yes a b w ha hb) (lawMul_no a b w ha hb)

end Go.Proofs.Ytieojdnpdeceiaa
