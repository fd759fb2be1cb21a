/-
  Sorted lists, lists that hold the same with what is alike in the same order, and merges of such: no program.
-/
import Derived.Test.YtfidglkhpikdbaaMem
import Derived.Sort.LotA
import Derived.Sort.WalkA
namespace Go.Proofs.Ytfidglkhpikdbaa
open Go.RowKit
open Go.Sort (SWO swp)
set_option linter.unusedVariables false

section
variable {α : Type} (lt : α → α → Bool)
/-- None is less than one ahead of it. -/
def Srt (l : List α) : Prop := l.Pairwise fun x y => lt y x = false
/-- Neither is less than the other. -/
def like (c x : α) : Bool := !lt c x && !lt x c
/-- What is alike stands in the same order in both. -/
def Stab (o l : List α) : Prop := ∀ c, o.filter (like lt c) = l.filter (like lt c)
variable {lt}
theorem like_iff {c x : α} : like lt c x = true ↔ lt c x = false ∧ lt x c = false := by
  unfold like; simp
theorem Stab.refl (l : List α) : Stab lt l l := fun _ => rfl
theorem Stab.trans {a b c : List α} (h : Stab lt a b) (k : Stab lt b c) : Stab lt a c := fun x => (h x).trans (k x)
theorem Stab.append {a b c d : List α} (h : Stab lt a b) (k : Stab lt c d) : Stab lt (a ++ c) (b ++ d) := fun x => by
  rw [List.filter_append, List.filter_append, h x, k x]
theorem Stab.mem (hS : SWO lt) {a b : List α} (h : Stab lt a b) {x : α} (hx : x ∈ b) : x ∈ a := by
  have : x ∈ b.filter (like lt x) := List.mem_filter.2 ⟨hx, like_iff.2 ⟨hS.irrefl x, hS.irrefl x⟩⟩
  rw [← h x] at this
  exact (List.mem_filter.1 this).1
theorem Stab.symm {a b : List α} (h : Stab lt a b) : Stab lt b a := fun c => (h c).symm
/-- Of two parts that lie the wrong way round. -/
theorem Stab.swap (hS : SWO lt) {u v : List α} (h : ∀ x ∈ u, ∀ y ∈ v, lt y x = true) : Stab lt (u ++ v) (v ++ u) := fun c => by
  rw [List.filter_append, List.filter_append]
  cases hu : u.filter (like lt c) with
  | nil => simp
  | cons x t =>
    have hx : x ∈ u.filter (like lt c) := by rw [hu]; exact List.mem_cons_self
    obtain ⟨hx1, hx2⟩ := List.mem_filter.1 hx
    obtain ⟨hx3, hx4⟩ := like_iff.1 hx2
    have hv : v.filter (like lt c) = [] := List.filter_eq_nil_iff.2 fun y hy hl => by
      obtain ⟨h1, h2⟩ := like_iff.1 hl
      have := h x hx1 y hy
      rw [hS.ntrans y c x h2 hx3] at this
      cases this
    rw [hv]
    simp
theorem Srt.append {a b : List α} (ha : Srt lt a) (hb : Srt lt b) (h : ∀ x ∈ a, ∀ y ∈ b, lt y x = false) : Srt lt (a ++ b) := List.pairwise_append.2 ⟨ha, hb, h⟩
theorem Srt.left {a b : List α} (h : Srt lt (a ++ b)) : Srt lt a := (List.pairwise_append.1 h).1
theorem Srt.right {a b : List α} (h : Srt lt (a ++ b)) : Srt lt b := (List.pairwise_append.1 h).2.1
theorem Srt.cross {a b : List α} (h : Srt lt (a ++ b)) : ∀ x ∈ a, ∀ y ∈ b, lt y x = false := (List.pairwise_append.1 h).2.2
theorem Srt.one (x : α) : Srt lt [x] := List.pairwise_singleton _ _
theorem Srt.none_ : Srt lt ([] : List α) := List.Pairwise.nil
/-- Two sorted lists that hold the same, what is alike in the same order, are one. -/
theorem stab_unique (hS : SWO lt) : ∀ (r r' : List α), Srt lt r → Srt lt r' → Stab lt r r' → r = r' := by
  intro r
  induction r with
  | nil =>
    intro r' _ _ h
    cases r' with
    | nil => rfl
    | cons y t => exact absurd (h.mem hS (x := y) List.mem_cons_self) (by simp)
  | cons x t ih =>
    intro r' hr hr' h
    cases r' with
    | nil => exact absurd (h.symm.mem hS (x := x) List.mem_cons_self) (by simp)
    | cons y t' =>
      have hx : lt x y = false := by
        rcases List.mem_cons.1 (h.symm.mem hS (x := x) List.mem_cons_self) with e | e
        · rw [e]; exact hS.irrefl _
        · exact (List.pairwise_cons.1 hr').1 x e
      have hy : lt y x = false := by
        rcases List.mem_cons.1 (h.mem hS (x := y) List.mem_cons_self) with e | e
        · rw [e]; exact hS.irrefl _
        · exact (List.pairwise_cons.1 hr).1 y e
      have h1 := h x
      rw [List.filter_cons_of_pos (like_iff.2 ⟨hS.irrefl x, hS.irrefl x⟩), List.filter_cons_of_pos (like_iff.2 ⟨hx, hy⟩)] at h1
      injection h1 with h2 h3
      subst h2
      have hst : Stab lt t t' := fun c => by
        have := h c
        by_cases hc : like lt c x = true
        · rw [List.filter_cons_of_pos hc, List.filter_cons_of_pos hc] at this
          injection this
        · rw [List.filter_cons_of_neg hc, List.filter_cons_of_neg hc] at this
          exact this
      rw [ih t' (List.pairwise_cons.1 hr).2 (List.pairwise_cons.1 hr').2 hst]
/-- All of a sorted list lie below what its last lies below. -/
theorem below_all (hS : SWO lt) {y1 x2 : List α} (h1 : Srt lt y1) (h2 : Srt lt x2) (h : y1 = [] ∨ x2 = [] ∨ ∃ a f e b, y1 = a ++ [f] ∧ x2 = e :: b ∧ lt f e = true) : ∀ y ∈ y1, ∀ x ∈ x2, lt y x = true := by
  intro y hy x hx
  rcases h with rfl | rfl | ⟨a, f, e, b, rfl, rfl, h⟩
  · exact absurd hy (by simp)
  · exact absurd hx (by simp)
  · cases hyx : lt y x with
    | true => rfl
    | false =>
      have hfy : lt f y = false := by
        rcases List.mem_append.1 hy with h0 | h0
        · exact h1.cross y h0 f (by simp)
        · rw [List.mem_singleton.1 h0]; exact hS.irrefl _
      have hxe : lt x e = false := by
        rcases List.mem_cons.1 hx with h0 | h0
        · rw [h0]; exact hS.irrefl _
        · exact (List.pairwise_cons.1 h2).1 x h0
      rw [hS.ntrans f x e (hS.ntrans f y x hfy hyx) hxe] at h
      cases h
theorem upon_all (hS : SWO lt) {x1 y2 : List α} (h1 : Srt lt x1) (h2 : Srt lt y2) (h : x1 = [] ∨ y2 = [] ∨ ∃ a e f b, x1 = a ++ [e] ∧ y2 = f :: b ∧ lt f e = false) : ∀ x ∈ x1, ∀ y ∈ y2, lt y x = false := by
  intro x hx y hy
  rcases h with rfl | rfl | ⟨a, e, f, b, rfl, rfl, h⟩
  · exact absurd hx (by simp)
  · exact absurd hy (by simp)
  · have hyf : lt y f = false := by
      rcases List.mem_cons.1 hy with h0 | h0
      · rw [h0]; exact hS.irrefl _
      · exact (List.pairwise_cons.1 h2).1 y h0
    have hex : lt e x = false := by
      rcases List.mem_append.1 hx with h0 | h0
      · exact h1.cross x h0 e (by simp)
      · rw [List.mem_singleton.1 h0]; exact hS.irrefl _
    exact hS.ntrans y e x (hS.ntrans y f e hyf h) hex
/-- The heart of symMerge. -/
theorem merge_two (hS : SWO lt) {x1 x2 y1 y2 r1 r2 : List α} (hu : Srt lt (x1 ++ x2)) (hv : Srt lt (y1 ++ y2)) (h1 : ∀ x ∈ x1, ∀ y ∈ y2, lt y x = false) (h2 : ∀ y ∈ y1, ∀ x ∈ x2, lt y x = true)
    (s1 : Srt lt r1) (t1 : Stab lt (x1 ++ y1) r1) (s2 : Srt lt r2) (t2 : Stab lt (x2 ++ y2) r2) : Srt lt (r1 ++ r2) ∧ Stab lt ((x1 ++ x2) ++ (y1 ++ y2)) (r1 ++ r2) := by
  refine ⟨s1.append s2 fun a ha b hb => ?_, ?_⟩
  · rcases List.mem_append.1 (t1.mem hS ha) with h | h <;> rcases List.mem_append.1 (t2.mem hS hb) with k | k
    · exact hu.cross a h b k
    · exact h1 a h b k
    · have := h2 a h b k
      cases hba : lt b a with
      | false => rfl
      | true =>
        have := hS.trans a b a this hba
        rw [hS.irrefl] at this
        cases this
    · exact hv.cross a h b k
  · have e1 : (x1 ++ x2) ++ (y1 ++ y2) = x1 ++ ((x2 ++ y1) ++ y2) := by simp
    have e2 : x1 ++ ((y1 ++ x2) ++ y2) = (x1 ++ y1) ++ (x2 ++ y2) := by simp
    have m : Stab lt (x1 ++ ((x2 ++ y1) ++ y2)) (x1 ++ ((y1 ++ x2) ++ y2)) := (Stab.refl _).append ((Stab.swap hS fun x hx y hy => h2 y hy x hx).append (Stab.refl _))
    rw [e1]
    rw [e2] at m
    exact m.trans (t1.append t2)
/-- One element into a sorted list, from the left. -/
theorem put_left (hS : SWO lt) {x : α} {v1 v2 : List α} (hv : Srt lt (v1 ++ v2)) (h1 : ∀ y ∈ v1, lt y x = true) (h2 : ∀ y ∈ v2, lt y x = false) : Srt lt (v1 ++ x :: v2) ∧ Stab lt (x :: (v1 ++ v2)) (v1 ++ x :: v2) := by
  have h := merge_two hS (x1 := []) (x2 := [x]) (y1 := v1) (y2 := v2) (r1 := v1) (r2 := x :: v2) (Srt.one x) hv (by simp) (fun y hy z hz => by rw [List.mem_singleton.1 hz]; exact h1 y hy) hv.left (Stab.refl _)
    (List.pairwise_cons.2 ⟨h2, hv.right⟩) (Stab.refl _)
  exact h
/-- One element into a sorted list, from the right. -/
theorem put_right (hS : SWO lt) {y : α} {u1 u2 : List α} (hu : Srt lt (u1 ++ u2)) (h1 : ∀ x ∈ u1, lt y x = false) (h2 : ∀ x ∈ u2, lt y x = true) : Srt lt (u1 ++ y :: u2) ∧ Stab lt ((u1 ++ u2) ++ [y]) (u1 ++ y :: u2) := by
  have hl : ∀ x ∈ u2, lt x y = false := fun x hx => by
    cases hxy : lt x y with
    | false => rfl
    | true =>
      have := hS.trans y x y (h2 x hx) hxy
      rw [hS.irrefl] at this
      cases this
  have hs1 : Srt lt (y :: u2) := List.pairwise_cons.2 ⟨hl, hu.right⟩
  refine ⟨hu.left.append hs1 fun x hx z hz => ?_, ?_⟩
  · rcases List.mem_cons.1 hz with rfl | h
    · exact h1 x hx
    · exact hu.cross x hx z h
  · have m : Stab lt (u1 ++ (u2 ++ [y])) (u1 ++ ([y] ++ u2)) := (Stab.refl _).append (Stab.swap hS fun x hx z hz => by rw [List.mem_singleton.1 hz]; exact h2 x hx)
    simpa using m

/-- Sorted blocks of z, the last one shorter. -/
inductive Bk (lt : α → α → Bool) (z : Nat) : List α → List α → Prop
  | last (o c : List α) (h : c.length ≤ z) (e : o.length = c.length) (s : Srt lt c) (t : Stab lt o c) : Bk lt z o c
  | more (o c o' c' : List α) (h : c.length = z) (e : o.length = c.length) (s : Srt lt c) (t : Stab lt o c) (b : Bk lt z o' c') : Bk lt z (o ++ o') (c ++ c')
/-- Sorted blocks of z, each whole. -/
inductive Fb (lt : α → α → Bool) (z : Nat) : List α → List α → Prop
  | nil : Fb lt z [] []
  | snoc (o c o' c' : List α) (b : Fb lt z o c) (h : c'.length = z) (e : o'.length = c'.length) (s : Srt lt c') (t : Stab lt o' c') : Fb lt z (o ++ o') (c ++ c')
theorem Fb.join {z : Nat} {o c : List α} (h : Fb lt z o c) : ∀ {o' c' : List α}, Bk lt z o' c' → Bk lt z (o ++ o') (c ++ c') := by
  induction h with
  | nil => intro o' c' k; exact k
  | snoc o c o2 c2 b h e s t ih =>
    intro o' c' k
    rw [List.append_assoc, List.append_assoc]
    exact ih (.more o2 c2 o' c' h e s t k)
theorem Fb.lengths {z : Nat} {o c : List α} (h : Fb lt z o c) : o.length = c.length := by
  induction h with
  | nil => rfl
  | snoc o c o2 c2 b h e s t ih => rw [List.length_append, List.length_append]; omega
theorem stab_nil (hS : SWO lt) {o : List α} (h : Stab lt o []) : o = [] := by
  cases o with
  | nil => rfl
  | cons x t => exact absurd (h.symm.mem hS (x := x) List.mem_cons_self) (by simp)
theorem Bk.small (hS : SWO lt) {z : Nat} {o c : List α} (h : Bk lt z o c) (hz : c.length ≤ z) : Srt lt c ∧ Stab lt o c := by
  induction h with
  | last o c h e s t => exact ⟨s, t⟩
  | more o c o' c' h e s t b ih =>
    rw [List.length_append] at hz
    have hc : c' = [] := List.eq_nil_of_length_eq_zero (by omega)
    subst hc
    have := (ih (by simp)).2
    rw [stab_nil hS this]
    simpa using ⟨s, t⟩
/-- The first block. -/
theorem Bk.front {z : Nat} {o c : List α} (h : Bk lt z o c) (hz : z ≤ c.length) : ∃ o1 c1 o2 c2, o = o1 ++ o2 ∧ c = c1 ++ c2 ∧ c1.length = z ∧ o1.length = z ∧ Srt lt c1 ∧ Stab lt o1 c1 ∧ Bk lt z o2 c2 := by
  cases h with
  | last _ _ h e s t => exact ⟨o, c, [], [], by simp, by simp, by omega, by omega, s, t, .last [] [] (by simp) rfl List.Pairwise.nil (Stab.refl _)⟩
  | more o c o' c' h e s t b => exact ⟨o, c, o', c', rfl, rfl, h, by omega, s, t, b⟩

/-! ### Arrays that are lists -/
theorem set_mid (p s : List α) (e x : α) (i : Nat) (hi : i = p.length) : (p ++ e :: s).set i x = p ++ x :: s := by
  subst hi
  rw [List.set_append_right _ _ (Nat.le_refl _), Nat.sub_self, List.set_cons_zero]
variable [Inhabited α]
theorem arr_mid (p : List α) (e : α) (s : List α) (i : Nat) (hi : i = p.length) : (p ++ e :: s).toArray[i]! = e := by
  subst hi
  simp
theorem swp_mid (p q s : List α) (x y : α) (i j : Nat) (hi : i = p.length) (hj : j = p.length + 1 + q.length) : swp (p ++ x :: (q ++ y :: s)).toArray i j = (p ++ y :: (q ++ x :: s)).toArray := by
  have e1 : (p ++ x :: (q ++ y :: s)).toArray[i]! = x := arr_mid p x _ i hi
  have e2 : (p ++ x :: (q ++ y :: s)).toArray[j]! = y := by
    have := arr_mid (p ++ x :: q) y s j (by simp; omega)
    simpa using this
  unfold swp
  rw [e1, e2, List.setIfInBounds_toArray, List.setIfInBounds_toArray, set_mid p _ _ _ i hi]
  have := set_mid (p ++ y :: q) s y x j (by simp; omega)
  rw [List.append_assoc, List.append_assoc] at this
  exact congrArg List.toArray this
theorem swp_mid' (p q s : List α) (x y : α) (i j : Nat) (hj : j = p.length) (hi : i = p.length + 1 + q.length) : swp (p ++ x :: (q ++ y :: s)).toArray i j = (p ++ y :: (q ++ x :: s)).toArray := by
  have h : ∀ (d : Array α) (a b : Nat), a ≠ b → swp d a b = swp d b a := fun d a b hab => by
    unfold swp
    rw [Array.setIfInBounds_comm _ _ hab]
  rw [h _ _ _ (by omega)]
  exact swp_mid p q s x y j i hj hi
end
end Go.Proofs.Ytfidglkhpikdbaa
