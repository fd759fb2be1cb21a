/-
  The arithmetic of the sums of octets: the register's step, that it loses nothing, and the sum as a function of a list of octets.
-/
import Derived.Test.YthoedknnchaiaaaMem
namespace Go.Proofs.Ythoedknnchaiaaa
set_option linter.unusedVariables false

/-- One bit shifted out of the register. -/
def step (n : Nat) : Nat := if n % 2 = 1 then (n / 2) ^^^ 3988292384 else n / 2
def steps : Nat → Nat → Nat
  | 0, n => n
  | k + 1, n => steps k (step n)
/-- The register, behind some octets. -/
def reg (n : Nat) (l : List Int) : Nat := l.foldl (fun n x => steps 8 (n ^^^ x.toNat)) n
/-- The sum of some octets behind others, whose sum is s. -/
def more (s : Nat) (l : List Int) : Nat := 4294967295 - reg (4294967295 - s) l
/-- The sum. -/
def crc (l : List Int) : Nat := more 0 l

theorem xor_lt32 {a b : Nat} (ha : a < 4294967296) (hb : b < 4294967296) : a ^^^ b < 4294967296 :=
  Nat.xor_lt_two_pow (n := 32) ha hb
theorem step_lt {n : Nat} (h : n < 4294967296) : step n < 4294967296 := by
  unfold step
  split
  · exact xor_lt32 (by omega) (by omega)
  · omega
theorem steps_lt (k : Nat) : ∀ {n : Nat}, n < 4294967296 → steps k n < 4294967296 := by
  induction k with
  | zero => exact fun h => h
  | succ k ih => exact fun h => ih (step_lt h)
theorem steps_snoc (k : Nat) : ∀ n, steps (k + 1) n = step (steps k n) := by
  induction k with
  | zero => exact fun _ => rfl
  | succ k ih => exact fun n => ih (step n)

/-- The step loses nothing: the bit that goes out stands in the highest place. -/
theorem step_high {n : Nat} (h : n < 4294967296) : (2147483648 ≤ step n) ↔ n % 2 = 1 := by
  unfold step
  have hx : n / 2 < 2147483648 := by omega
  split
  · refine ⟨fun _ => by assumption, fun _ => ?_⟩
    have e : ((n / 2) ^^^ 3988292384).testBit 31 = true := by
      rw [Nat.testBit_xor, Nat.testBit_lt_two_pow (i := 31) hx]
      decide
    exact Nat.ge_two_pow_of_testBit e
  · omega
theorem step_inj {a b : Nat} (ha : a < 4294967296) (hb : b < 4294967296) (h : step a = step b) : a = b := by
  have h1 := step_high ha
  have h2 := step_high hb
  rw [h] at h1
  have hp : a % 2 = 1 ↔ b % 2 = 1 := h1.symm.trans h2
  unfold step at h
  by_cases hx : a % 2 = 1
  · rw [if_pos hx, if_pos (hp.1 hx)] at h
    have e : a / 2 = b / 2 := by
      have := congrArg (· ^^^ 3988292384) h
      simpa [Nat.xor_assoc] using this
    have := hp.1 hx
    omega
  · rw [if_neg hx, if_neg (fun y => hx (hp.2 y))] at h
    have : ¬ b % 2 = 1 := fun y => hx (hp.2 y)
    omega
theorem steps_inj (k : Nat) : ∀ {a b : Nat}, a < 4294967296 → b < 4294967296 → steps k a = steps k b → a = b := by
  induction k with
  | zero => exact fun _ _ h => h
  | succ k ih => exact fun ha hb h => step_inj ha hb (ih (step_lt ha) (step_lt hb) h)

theorem oct_lt {x : Int} (h : 0 ≤ x ∧ x < 256) : x.toNat < 4294967296 := by omega
theorem reg_lt {l : List Int} (h : Octs l) : ∀ {n : Nat}, n < 4294967296 → reg n l < 4294967296 := by
  induction l with
  | nil => exact fun h => h
  | cons x l ih => exact fun hn => ih (fun y hy => h y (List.mem_cons_of_mem _ hy)) (steps_lt 8 (xor_lt32 hn (oct_lt (h x List.mem_cons_self))))
theorem reg_append (n : Nat) (l m : List Int) : reg n (l ++ m) = reg (reg n l) m := by simp [reg, List.foldl_append]
theorem reg_snoc (n : Nat) (l : List Int) (x : Int) : reg n (l ++ [x]) = steps 8 (reg n l ^^^ x.toNat) := by simp [reg, List.foldl_append]
theorem more_lt {s : Nat} {l : List Int} : more s l < 4294967296 := by unfold more; omega
theorem crc_lt {l : List Int} : crc l < 4294967296 := more_lt
theorem crc_nil : crc [] = 0 := rfl
theorem more_crc {l m : List Int} (h : Octs l) : more (crc l) m = crc (l ++ m) := by
  unfold crc more
  have := reg_lt h (n := 4294967295 - 0) (by omega)
  rw [reg_append]
  congr 1
  congr 1
  omega
theorem reg_inj {l : List Int} (h : Octs l) : ∀ {a b : Nat}, a < 4294967296 → b < 4294967296 → reg a l = reg b l → a = b := by
  induction l with
  | nil => exact fun _ _ h => h
  | cons x l ih =>
    intro a b ha hb hr
    have hx := oct_lt (h x List.mem_cons_self)
    have h1 := ih (fun y hy => h y (List.mem_cons_of_mem _ hy)) (steps_lt 8 (xor_lt32 ha hx)) (steps_lt 8 (xor_lt32 hb hx)) hr
    have h2 := steps_inj 8 (xor_lt32 ha hx) (xor_lt32 hb hx) h1
    have := congrArg (· ^^^ x.toNat) h2
    simpa [Nat.xor_assoc] using this
/-- With one octet another, the sum is another. -/
theorem crc_turn {l m : List Int} {x y : Int} (hl : Octs l) (hm : Octs m) (hx : 0 ≤ x ∧ x < 256) (hy : 0 ≤ y ∧ y < 256) (hn : x ≠ y) : crc (l ++ x :: m) ≠ crc (l ++ y :: m) := by
  intro h
  have kx : Octs (x :: m) := by
    intro z hz
    rcases List.mem_cons.1 hz with e | e
    · rw [e]; exact hx
    · exact hm z e
  have ky : Octs (y :: m) := by
    intro z hz
    rcases List.mem_cons.1 hz with e | e
    · rw [e]; exact hy
    · exact hm z e
  unfold crc more at h
  have hs := reg_lt hl (n := 4294967295 - 0) (by omega)
  have h1 := reg_lt kx hs
  have h2 := reg_lt ky hs
  rw [reg_append, reg_append] at h
  have h3 : reg (reg (4294967295 - 0) l) (x :: m) = reg (reg (4294967295 - 0) l) (y :: m) := by omega
  have h4 := reg_inj hm (steps_lt 8 (xor_lt32 hs (oct_lt hx))) (steps_lt 8 (xor_lt32 hs (oct_lt hy))) h3
  have h5 := steps_inj 8 (xor_lt32 hs (oct_lt hx)) (xor_lt32 hs (oct_lt hy)) h4
  have h6 := congrArg (reg (4294967295 - 0) l ^^^ ·) h5
  simp only [← Nat.xor_assoc, Nat.xor_self, Nat.zero_xor] at h6
  omega

/-- The reference's step: it takes a bit beside. -/
def rstep (c bit : Nat) : Nat := if c % 2 = bit then c / 2 else c / 2 ^^^ 3988292384
theorem rstep_lt {c : Nat} (h : c < 4294967296) (bit : Nat) : rstep c bit < 4294967296 := by
  unfold rstep
  split
  · omega
  · exact xor_lt32 (by omega) (by omega)
theorem step_xor (c m : Nat) : step (c ^^^ m) = rstep c (m % 2) ^^^ (m / 2) := by
  unfold step rstep
  have h1 : (c ^^^ m) % 2 = 1 ↔ ¬ (c % 2 = 1 ↔ m % 2 = 1) := Nat.xor_mod_two_eq_one
  have h2 : (c ^^^ m) / 2 = c / 2 ^^^ m / 2 := Nat.xor_div_two
  rw [h2]
  by_cases hx : c % 2 = m % 2
  · rw [if_neg (by omega), if_pos hx]
  · rw [if_pos (by omega), if_neg hx, Nat.xor_assoc, Nat.xor_assoc, Nat.xor_comm (m / 2)]
theorem rstep_go (c o k : Nat) (hk : k < 8) : steps (8 - k) (c ^^^ o / 2 ^ k) = steps (8 - (k + 1)) (rstep c (o / 2 ^ k % 2) ^^^ o / 2 ^ (k + 1)) := by
  rw [show 8 - k = 8 - (k + 1) + 1 by omega]
  show steps (8 - (k + 1)) (step (c ^^^ o / 2 ^ k)) = _
  rw [step_xor, Nat.div_div_eq_div_mul, ← Nat.pow_succ]

theorem crc_nine : crc [49, 50, 51, 52, 53, 54, 55, 56, 57] = 3421780262 := by decide +kernel
end Go.Proofs.Ythoedknnchaiaaa
