/-
  Names of changes and requests: words, and the reference's contracts.
-/
import Derived.Test.YtkdnplaoondlbaaDoorNear
import Derived.Handy
namespace Go.Proofs.YtkdnplaoondlbaaDoor
open Go.RowKit
set_option linter.unusedVariables false

def idOf (r s : Int) : Value := .agg #[.int .i64 r, .int .i64 s]
def keyOf (r s o : Int) (u : Bool) : Value := .agg #[.int .i64 r, .int .i64 s, .int .i64 o, .bool u]
def mayId (r s : Int) : Bool := decide (0 ≤ r ∧ r ≤ 3 ∧ 1 ≤ s ∧ s ≤ 65535)
def mayKey (r s o : Int) : Bool := mayId r s && decide (1 ≤ o ∧ o ≤ 255)
def lessId (r s r2 s2 : Int) : Bool := decide (s < s2 ∨ (s = s2 ∧ r < r2))
def lessKey (r s o : Int) (u : Bool) (r2 s2 o2 : Int) (u2 : Bool) : Bool :=
  if r = r2 ∧ s = s2 then decide (o < o2) || (decide (o = o2) && !u && u2) else lessId r s r2 s2

theorem mayId_no {r s : Int} (h : r < 0 ∨ 3 < r ∨ s < 1 ∨ 65535 < s) : mayId r s = false := decide_eq_false (by omega)
theorem mayId_yes {r s : Int} (h : 0 ≤ r ∧ r ≤ 3 ∧ 1 ≤ s ∧ s ≤ 65535) : mayId r s = true := decide_eq_true h

theorem refmay_any (r s : Int) (w : World) :
    Calls Tryd.prog 8 #[idOf r s] w fun e w' => e = .returned (.bool (mayId r s)) ∧ Below w.heap.size w w' := by
  have HB := hide ((Below.refl w.heap.size w).alloc (Nat.le_refl _) (.cells #[.int .i64 r, .int .i64 s] 23))
  have fin : ∀ b, mayId r s = b → Ending.returned (.bool b) = Ending.returned (.bool (mayId r s)) := fun b h => by rw [h]
  have FIN := hide fin
  clear fin
  unfold idOf
  rcases Int.lt_or_le r 0 with h1 | h1
  · have E := hide (mayId_no (s := s) (.inl h1))
    have hd : decide (0 ≤ r) = false := decide_eq_false (by omega)
    go_enter Tryd.func8, Tryd.ntmps8
    go_wp2
    go_ret
    exact ⟨FIN.out _ E.out, HB.out⟩
  rcases Int.lt_or_le 3 r with h2 | h2
  · have E := hide (mayId_no (s := s) (.inr (.inl h2)))
    have hd : decide (r ≤ 3) = false := decide_eq_false (by omega)
    go_enter Tryd.func8, Tryd.ntmps8
    go_wp2
    go_ret
    exact ⟨FIN.out _ E.out, HB.out⟩
  rcases Int.lt_or_le s 1 with h3 | h3
  · have E := hide (mayId_no (r := r) (.inr (.inr (.inl h3))))
    have hd : decide (1 ≤ s) = false := decide_eq_false (by omega)
    go_enter Tryd.func8, Tryd.ntmps8
    go_wp2
    go_ret
    exact ⟨FIN.out _ E.out, HB.out⟩
  rcases Int.lt_or_le 65535 s with h4 | h4
  · have E := hide (mayId_no (r := r) (.inr (.inr (.inr h4))))
    have hd : decide (s ≤ 65535) = false := decide_eq_false (by omega)
    go_enter Tryd.func8, Tryd.ntmps8
    go_wp2
    go_ret
    exact ⟨FIN.out _ E.out, HB.out⟩
  · have E := hide (mayId_yes ⟨h1, h2, h3, h4⟩)
    go_enter Tryd.func8, Tryd.ntmps8
    go_wp2
    go_ret
    exact ⟨FIN.out _ E.out, HB.out⟩

theorem refless_any (r s r2 s2 : Int) (w : World) :
    Calls Tryd.prog 12 #[idOf r s, idOf r2 s2] w fun e w' => e = .returned (.bool (lessId r s r2 s2)) ∧ Below w.heap.size w w' := by
  have HB := hide (((Below.refl w.heap.size w).alloc (Nat.le_refl _) (.cells #[.int .i64 r, .int .i64 s] 23)).alloc (by simp) (.cells #[.int .i64 r2, .int .i64 s2] 23))
  have fin : ∀ b, lessId r s r2 s2 = b → Ending.returned (.bool b) = Ending.returned (.bool (lessId r s r2 s2)) := fun b h => by rw [h]
  have FIN := hide fin
  clear fin
  unfold idOf
  by_cases h1 : s < s2
  · have E := hide (show lessId r s r2 s2 = true from decide_eq_true (.inl h1))
    go_enter Tryd.func12, Tryd.ntmps12
    go_wp2
    go_ret
    exact ⟨FIN.out _ E.out, HB.out⟩
  have hd1 : decide (s < s2) = false := decide_eq_false h1
  by_cases h2 : s = s2
  · subst h2
    by_cases h3 : r < r2
    · have E := hide (show lessId r s r2 s = true from decide_eq_true (.inr ⟨rfl, h3⟩))
      go_enter Tryd.func12, Tryd.ntmps12
      go_wp2
      go_ret
      exact ⟨FIN.out _ E.out, HB.out⟩
    · have E := hide (show lessId r s r2 s = false from decide_eq_false (by omega))
      have hd3 : decide (r < r2) = false := decide_eq_false h3
      go_enter Tryd.func12, Tryd.ntmps12
      go_wp2
      go_ret
      exact ⟨FIN.out _ E.out, HB.out⟩
  · have E := hide (show lessId r s r2 s2 = false from decide_eq_false (by omega))
    have hd2 : (s == s2) = false := beq_eq_false_iff_ne.mpr h2
    go_enter Tryd.func12, Tryd.ntmps12
    go_wp2
    go_ret
    exact ⟨FIN.out _ E.out, HB.out⟩

theorem refmaykey_any (r s o : Int) (u : Bool) (w : World) :
    Calls Tryd.prog 10 #[keyOf r s o u] w fun e w' => e = .returned (.bool (mayKey r s o)) ∧ Below w.heap.size w w' := by
  have HB := hide ((Below.refl w.heap.size w).alloc (Nat.le_refl _) (.cells #[.int .i64 r, .int .i64 s, .int .i64 o, .bool u] 25))
  have fin : ∀ b, mayKey r s o = b → Ending.returned (.bool b) = Ending.returned (.bool (mayKey r s o)) := fun b h => by rw [h]
  have FIN := hide fin
  have hcell : ∀ j u', (#[Value.int .i64 r, .int .i64 s, .int .i64 o, .bool u] : Array Value)[j]? = some u' → (w.alloc (.cells #[.int .i64 r, .int .i64 s, .int .i64 o, .bool u] 25)).cell? ⟨w.heap.size, j, none⟩ = some u' := fun j u' h => ((Blk.new w _ _).cell j).trans h
  have HC := hide hcell
  clear fin hcell
  unfold keyOf
  cases hm : mayId r s with
  | false =>
    have E := hide (show mayKey r s o = false by unfold mayKey; rw [hm]; rfl)
    go_enter Tryd.func10, Tryd.ntmps10
    go_wp2_with fail
    refine (refmay_any r s _).mono ?_
    rintro e w2 ⟨rfl, hb⟩
    rw [hm]
    have HB2 := hide (HB.out.trans (hb.mono HB.out.size))
    clear hb
    go_wp2
    go_ret
    exact ⟨FIN.out _ E.out, HB2.out⟩
  | true =>
    rcases Int.lt_or_le o 1 with h1 | h1
    · have E := hide (show mayKey r s o = false by unfold mayKey; rw [hm, decide_eq_false (by omega)]; rfl)
      have hd : decide (1 ≤ o) = false := decide_eq_false (by omega)
      go_enter Tryd.func10, Tryd.ntmps10
      go_wp2_with fail
      refine (refmay_any r s _).mono ?_
      rintro e w2 ⟨rfl, hb⟩
      rw [hm]
      have HB2 := hide (HB.out.trans (hb.mono HB.out.size))
      have c2 := (hb.cell (p := ⟨w.heap.size, 2, none⟩) (by simp)).trans (HC.out 2 _ rfl)
      clear hb
      go_wp2
      go_ret
      exact ⟨FIN.out _ E.out, HB2.out⟩
    rcases Int.lt_or_le 255 o with h2 | h2
    · have E := hide (show mayKey r s o = false by unfold mayKey; rw [hm, decide_eq_false (by omega)]; rfl)
      have hd : decide (o ≤ 255) = false := decide_eq_false (by omega)
      go_enter Tryd.func10, Tryd.ntmps10
      go_wp2_with fail
      refine (refmay_any r s _).mono ?_
      rintro e w2 ⟨rfl, hb⟩
      rw [hm]
      have HB2 := hide (HB.out.trans (hb.mono HB.out.size))
      have c2 := (hb.cell (p := ⟨w.heap.size, 2, none⟩) (by simp)).trans (HC.out 2 _ rfl)
      clear hb
      go_wp2
      go_ret
      exact ⟨FIN.out _ E.out, HB2.out⟩
    · have E := hide (show mayKey r s o = true by unfold mayKey; rw [hm, decide_eq_true (by omega)]; rfl)
      go_enter Tryd.func10, Tryd.ntmps10
      go_wp2_with fail
      refine (refmay_any r s _).mono ?_
      rintro e w2 ⟨rfl, hb⟩
      rw [hm]
      have HB2 := hide (HB.out.trans (hb.mono HB.out.size))
      have c2 := (hb.cell (p := ⟨w.heap.size, 2, none⟩) (by simp)).trans (HC.out 2 _ rfl)
      clear hb
      go_wp2
      go_ret
      exact ⟨FIN.out _ E.out, HB2.out⟩

theorem refother_any (r s o : Int) (u : Bool) (w : World) :
    Calls Tryd.prog 16 #[keyOf r s o u] w fun e w' => e = .returned (keyOf r s o (!u)) ∧ Below w.heap.size w w' := by
  unfold keyOf
  go_enter Tryd.func16, Tryd.ntmps16
  go_wp2
  go_returns
  refine ⟨by simp, ?_⟩
  go_grown

theorem reflesskey_any (r s o : Int) (u : Bool) (r2 s2 o2 : Int) (u2 : Bool) (w : World) :
    Calls Tryd.prog 14 #[keyOf r s o u, keyOf r2 s2 o2 u2] w fun e w' => e = .returned (.bool (lessKey r s o u r2 s2 o2 u2)) ∧ Below w.heap.size w w' := by
  unfold keyOf
  have HB := hide (((Below.refl w.heap.size w).alloc (Nat.le_refl _) (.cells #[.int .i64 r, .int .i64 s, .int .i64 o, .bool u] 25)).alloc (by simp) (.cells #[.int .i64 r2, .int .i64 s2, .int .i64 o2, .bool u2] 25))
  have fin : ∀ b, lessKey r s o u r2 s2 o2 u2 = b → Ending.returned (.bool b) = Ending.returned (.bool (lessKey r s o u r2 s2 o2 u2)) := fun b h => by rw [h]
  have FIN := hide fin
  clear fin
  by_cases hi : r = r2 ∧ s = s2
  · obtain ⟨rfl, rfl⟩ := hi
    rcases Int.lt_trichotomy o o2 with h | h | h
    · have E := hide (show lessKey r s o u r s o2 u2 = true by unfold lessKey; rw [if_pos ⟨rfl, rfl⟩, decide_eq_true h]; rfl)
      go_enter Tryd.func14, Tryd.ntmps14
      go_wp2
      go_ret
      exact ⟨FIN.out _ E.out, HB.out⟩
    · subst h
      have E := hide (show lessKey r s o u r s o u2 = (!u && u2) by unfold lessKey; rw [if_pos ⟨rfl, rfl⟩]; simp)
      cases u <;> cases u2 <;>
      · go_enter Tryd.func14, Tryd.ntmps14
        go_wp2
        go_ret
        exact ⟨FIN.out _ E.out, HB.out⟩
    · have E := hide (show lessKey r s o u r s o2 u2 = false by unfold lessKey; rw [if_pos ⟨rfl, rfl⟩, decide_eq_false (by omega), decide_eq_false (by omega)]; rfl)
      have hd : decide (o < o2) = false := decide_eq_false (by omega)
      have hd2 : (o == o2) = false := beq_eq_false_iff_ne.mpr (by omega)
      go_enter Tryd.func14, Tryd.ntmps14
      go_wp2
      go_ret
      exact ⟨FIN.out _ E.out, HB.out⟩
  · have E := hide (show lessKey r s o u r2 s2 o2 u2 = lessId r s r2 s2 by unfold lessKey; rw [if_neg hi])
    have hne : ¬ (r = r2) ∨ ¬ (s = s2) := by
      by_cases h : r = r2
      · exact .inr fun h2 => hi ⟨h, h2⟩
      · exact .inl h
    rcases hne with h | h
    · go_enter Tryd.func14, Tryd.ntmps14
      go_wp2_with fail
      refine (refless_any r s r2 s2 _).mono ?_
      rintro e w2 ⟨rfl, hb⟩
      have HB2 := hide (HB.out.trans (hb.mono HB.out.size))
      clear hb
      go_wp2
      go_ret
      exact ⟨FIN.out _ E.out, HB2.out⟩
    · go_enter Tryd.func14, Tryd.ntmps14
      go_wp2_with fail
      refine (refless_any r s r2 s2 _).mono ?_
      rintro e w2 ⟨rfl, hb⟩
      have HB2 := hide (HB.out.trans (hb.mono HB.out.size))
      clear hb
      go_wp2
      go_ret
      exact ⟨FIN.out _ E.out, HB2.out⟩
end Go.Proofs.YtkdnplaoondlbaaDoor
