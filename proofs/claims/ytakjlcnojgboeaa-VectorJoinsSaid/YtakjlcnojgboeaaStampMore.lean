/-
  The reference's Without, Find, Sorted.
-/
import Derived.Test.YtakjlcnojgboeaaStampPut
namespace Go.Proofs.Ytakjlcnojgboeaa
open Go.RowKit
set_option linter.unusedVariables false

/-- All but that at place i; k is the place of the first. -/
def skip (i : Int) : Nat → List Chg → List Chg
  | _, [] => []
  | k, x :: l => if (k : Int) = i then skip i (k + 1) l else x :: skip i (k + 1) l
theorem skip_len (i : Int) : ∀ (l : List Chg) (k : Nat), (skip i k l).length ≤ l.length := by
  intro l
  induction l with
  | nil => intro k; exact Nat.le_refl _
  | cons x l ih =>
    intro k
    unfold skip
    have := ih (k + 1)
    split
    · rw [List.length_cons]; omega
    · rw [List.length_cons, List.length_cons]; omega
/-- The place of the first with an Id; -1: there is none. -/
def seek (r s : Int) : Nat → List Chg → Int
  | _, [] => -1
  | k, x :: l => if x.r = r ∧ x.s = s then (k : Int) else seek r s (k + 1) l
/-- The greatest Time. -/
def lastT (l : List Chg) : Int := l.foldl (fun m x => max m x.t) 0
def sortC (l : List Chg) : List Chg := l.foldl putC []
theorem drop_step {l : List Chg} {j : Nat} {x : Chg} (h : l[j]? = some x) : l.drop j = x :: l.drop (j + 1) := by
  obtain ⟨hj, rfl⟩ := List.getElem?_eq_some_iff.1 h
  exact List.drop_eq_getElem_cons hj
theorem sortC_step {l : List Chg} {j : Nat} {x : Chg} (h : l[j]? = some x) : sortC (l.take (j + 1)) = putC (sortC (l.take j)) x := by
  unfold sortC
  rw [List.take_add_one, h]
  simp
theorem putC_len (l : List Chg) (x : Chg) : (putC l x).length = l.length + 1 := by
  unfold putC
  have := lastAt_le x l l.length
  rw [List.length_append, List.length_cons, List.length_take, List.length_drop]
  omega
theorem sortC_len (l : List Chg) : (sortC l).length = l.length := by
  unfold sortC
  have key : ∀ (l acc : List Chg), (l.foldl putC acc).length = acc.length + l.length := by
    intro l
    induction l with
    | nil => intro acc; rfl
    | cons x l ih => intro acc; rw [List.foldl_cons, ih, putC_len, List.length_cons]; omega
  rw [key]
  simp

end Go.Proofs.Ytakjlcnojgboeaa
