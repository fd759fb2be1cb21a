/-
  Contracts of octet.New, and of a Reader's next, Bytes and Take.
-/
import Derived.Test.YtcdllbjhcjpleaaOct
import Derived.Laws.BitsAllLaws
import Derived.Lib.EndianBits
namespace Go.Proofs.Ytcdllbjhcjpleaa
open Go.RowKit
set_option linter.unusedVariables false

theorem Row.none_len {w : World} {P : Nat → Prop} {n c : Nat} {xs : List Value} (h : Row w P none n c xs) : n = 0 ∧ xs = [] := by
  have h0 : n = 0 := by
    rcases Nat.eq_zero_or_pos n with x | x
    · exact x
    · obtain ⟨b, o, e, _⟩ := h.some_ x
      cases e
  exact ⟨h0, List.eq_nil_of_length_eq_zero (by rw [h.1]; exact h0)⟩
theorem octs_nil {l : List Int} (h : octs l = []) : l = [] := by cases l <;> simp_all [octs]

/-- A copy: memory of its own. -/
def Cloned (w : World) (n : Nat) (l : List Int) (w' : World) (e : Ending) : Prop :=
  ∃ A' c', e = .returned (.slice A' n c') ∧ w'.ownsRow w.heap.size 5 1 (.slice A' n c') n (octs l) ∧ Below w.heap.size w w'
theorem clone_any (P : Nat → Prop) (A : Option Addr) (n c : Nat) (l : List Int) (w : World) (h : Row w P A n c (octs l)) (hn : n ≤ 140737488355328) :
    Calls Try.prog 27 #[.slice A n c] w fun e w' => Cloned w n l w' e := by
  cases A with
  | none =>
    obtain ⟨rfl, hx⟩ := h.none_len
    obtain rfl := octs_nil hx
    refine (clone_nil c w).mono ?_
    rintro e w' ⟨rfl, rfl⟩
    exact ⟨none, 0, rfl, World.ownsRow_nil _ _ _ _, Below.refl _ _⟩
  | some a => exact clone_some P a n c l w h hn

theorem own_mono {w : World} {base base' : Nat} {e : TypeId} {size : Nat} {v : Value} {n : Nat} {xs : List Value} (h : w.ownsRow base e size v n xs) (hb : base' ≤ base) : w.ownsRow base' e size v n xs :=
  ⟨h.1, h.2.imp id fun ⟨g, cap, cur, hv, hg, r⟩ => ⟨g, cap, cur, hv, Nat.le_trans hb hg, r⟩⟩

/-- The number of some octets. -/
def num (l : List Int) : Int := l.foldl (fun n o => n * 256 + o) 0
theorem num_snoc (l : List Int) (o : Int) : num (l ++ [o]) = num l * 256 + o := by simp [num]
theorem num_from (l : List Int) (h : Octs l) : ∀ n : Int, 0 ≤ n → 0 ≤ l.foldl (fun n o => n * 256 + o) n ∧ l.foldl (fun n o => n * 256 + o) n < (n + 1) * 256 ^ l.length := by
  induction l with
  | nil => intro n hn; simp; omega
  | cons o l ih =>
    intro n hn
    have ho := h o (by simp)
    have h1 := ih (fun x hx => h x (by simp [hx])) (n * 256 + o) (by omega)
    refine ⟨h1.1, Int.lt_of_lt_of_le h1.2 ?_⟩
    rw [List.length_cons, Int.pow_succ, Int.mul_comm (256 ^ l.length) 256, ← Int.mul_assoc]
    exact Int.mul_le_mul_of_nonneg_right (by omega) (Int.le_of_lt (Int.pow_pos (by omega)))
theorem num_lt (l : List Int) (h : Octs l) : 0 ≤ num l ∧ num l < 256 ^ l.length := by
  have := num_from l h 0 (by omega)
  simpa [num] using this
theorem num_small (l : List Int) (h : Octs l) (k : Nat) (hk : k ≤ 7) : 0 ≤ num (l.take k) ∧ num (l.take k) ≤ 72057594037927935 := by
  have h1 := num_lt (l.take k) (h.take k)
  have h2 : (256 : Nat) ^ (l.take k).length ≤ 256 ^ 7 := Nat.pow_le_pow_right (by omega) (by simp; omega)
  have h3 : ((256 ^ (l.take k).length : Nat) : Int) = 256 ^ (l.take k).length := by simp
  omega
theorem num_more (l : List Int) (k : Nat) (hk : k < l.length) : num (l.take (k + 1)) = num (l.take k) * 256 + l.getD k 0 := by
  have e : l.take (k + 1) = l.take k ++ [l.getD k 0] := by
    rw [List.take_add_one, List.getElem?_eq_getElem hk]
    simp [List.getD, List.getElem?_eq_getElem hk]
  rw [e, num_snoc]
theorem or_oct (v z : Int) (h1 : 0 ≤ v) (h2 : v ≤ 72057594037927935) (h3 : 0 ≤ z) (h4 : z < 256) : bits .or .u64 (v * 256) z = v * 256 + z := by
  rw [u64_or _ _ (by omega) (by omega) h3 (by omega), Nat.or_comm, ← u64_or _ _ h3 (by omega) (by omega) (by omega), u64_or8 z (v * 256) h3 h4 (by omega) (by omega) (by omega), Int.add_comm]

end Go.Proofs.Ytcdllbjhcjpleaa
