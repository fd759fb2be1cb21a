/-
  Names of changes and requests: words, and the reference's contracts.
-/
import Derived.Test.YtfmddljljdoapaaNear
import Derived.Handy
namespace Go.Proofs.Ytfmddljljdoapaa
open Go.RowKit
set_option linter.unusedVariables false

def idOf (r s : Int) : Value := .agg #[.int .i64 r, .int .i64 s]
def keyOf (r s o : Int) (u : Bool) : Value := .agg #[.int .i64 r, .int .i64 s, .int .i64 o, .bool u]
def mayId (r s : Int) : Bool := decide (0 ≤ r ∧ r ≤ 3 ∧ 1 ≤ s ∧ s ≤ 65535)
def mayKey (r s o : Int) : Bool := mayId r s && decide (1 ≤ o ∧ o ≤ 255)
def lessId (r s r2 s2 : Int) : Bool := decide (s < s2 ∨ (s = s2 ∧ r < r2))
def lessKey (r s o : Int) (u : Bool) (r2 s2 o2 : Int) (u2 : Bool) : Bool :=
  if r = r2 ∧ s = s2 then decide (o < o2) || (decide (o = o2) && !u && u2) else lessId r s r2 s2

theorem mayId_no {r s : Int} (h : r < 0 ∨ 3 < r ∨ s < 1 ∨ 65535 < s) : mayId r s = false := decide_eq_false (by omega)
theorem mayId_yes {r s : Int} (h : 0 ≤ r ∧ r ≤ 3 ∧ 1 ≤ s ∧ s ≤ 65535) : mayId r s = true := decide_eq_true h

theorem refmay_any (r s : Int) (w : World) :
    Calls Try.prog 19 #[idOf r s] w fun e w' => e = .returned (.bool (mayId r s)) ∧ Below w.heap.size w w' := by
  have HB := hide ((Below.refl w.heap.size w).alloc (Nat.le_refl _) (.cells #[.int .i64 r, .int .i64 s] 23))
  have fin : ∀ b, mayId r s = b → Ending.returned (.bool b) = Ending.returned (.bool (mayId r s)) := fun b h => by rw [h]
  have FIN := hide fin
  clear fin
  unfold idOf
  rcases Int.lt_or_le r 0 with h1 | h1
  · have E := hide (mayId_no (s := s) (.inl h1))
    have hd : decide (0 ≤ r) = false := decide_eq_false (by omega)
    go_enter Try.func19, Try.ntmps19
    go_wp2
    go_ret
    exact ⟨FIN.out _ E.out, HB.out⟩
  rcases Int.lt_or_le 3 r with h2 | h2
  · have E := hide (mayId_no (s := s) (.inr (.inl h2)))
    have hd : decide (r ≤ 3) = false := decide_eq_false (by omega)
    go_enter Try.func19, Try.ntmps19
    go_wp2
    go_ret
    exact ⟨FIN.out _ E.out, HB.out⟩
  rcases Int.lt_or_le s 1 with h3 | h3
  · have E := hide (mayId_no (r := r) (.inr (.inr (.inl h3))))
    have hd : decide (1 ≤ s) = false := decide_eq_false (by omega)
    go_enter Try.func19, Try.ntmps19
    go_wp2
    go_ret
    exact ⟨FIN.out _ E.out, HB.out⟩
  rcases Int.lt_or_le 65535 s with h4 | h4
  · have E := hide (mayId_no (r := r) (.inr (.inr (.inr h4))))
    have hd : decide (s ≤ 65535) = false := decide_eq_false (by omega)
    go_enter Try.func19, Try.ntmps19
    go_wp2
    go_ret
    exact ⟨FIN.out _ E.out, HB.out⟩
  · have E := hide (mayId_yes ⟨h1, h2, h3, h4⟩)
    go_enter Try.func19, Try.ntmps19
    go_wp2
    go_ret
    exact ⟨FIN.out _ E.out, HB.out⟩

end Go.Proofs.Ytfmddljljdoapaa
