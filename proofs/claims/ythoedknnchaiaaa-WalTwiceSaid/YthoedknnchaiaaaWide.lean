/-
  A slice whose elements take several cells.
-/
import Derived.Test.YthoedknnchaiaaaMem
namespace Go.Proofs.Ythoedknnchaiaaa
open Go.RowKit
set_option linter.unusedVariables false

/-- The slice (A, n, c), k cells an element, reads as xs; its cells lie in blocks of P. -/
def RowK (w : World) (P : Nat → Prop) (k : Nat) (A : Option Addr) (n c : Nat) (xs : List Value) : Prop :=
  xs.length = n * k ∧ n ≤ c ∧ c ≤ 9223372036854775807 ∧ (n = 0 ∨ ∃ b o, A = some ⟨b, o, none⟩ ∧ P b ∧ ∀ j, j < n * k → w.cell? ⟨b, o + j, none⟩ = xs[j]?)
section rowk
variable {w w' : World} {P Q : Nat → Prop} {A : Option Addr} {k n c : Nat} {xs : List Value}
theorem RowK.nil (w : World) (P : Nat → Prop) (k : Nat) (A : Option Addr) : RowK w P k A 0 0 [] := ⟨by simp, Nat.le_refl _, by omega, .inl rfl⟩
theorem RowK.some_ (h : RowK w P k A n c xs) (hk : 0 < k) (hn : 0 < n) : ∃ b o, A = some ⟨b, o, none⟩ ∧ P b ∧ b < w.heap.size ∧ ∀ j, j < n * k → w.cell? ⟨b, o + j, none⟩ = xs[j]? := by
  rcases h.2.2.2 with h0 | ⟨b, o, e, hp, hc⟩
  · omega
  · have hp2 : 0 < n * k := Nat.mul_pos hn hk
    have h0 := hc 0 hp2
    rw [List.getElem?_eq_getElem (by have := h.1; omega)] at h0
    exact ⟨b, o, e, hp, World.block_lt_of_cell? w _ h0, hc⟩
theorem RowK.mono (h : RowK w P k A n c xs) (hpq : ∀ b, P b → Q b) : RowK w Q k A n c xs :=
  ⟨h.1, h.2.1, h.2.2.1, h.2.2.2.imp id fun ⟨b, o, e, hp, hc⟩ => ⟨b, o, e, hpq b hp, hc⟩⟩
theorem RowK.keep (h : RowK w P k A n c xs) (hk0 : 0 < k) (hk : ∀ b, P b → b < w.heap.size → w'.heap[b]? = w.heap[b]?) : RowK w' P k A n c xs := by
  refine ⟨h.1, h.2.1, h.2.2.1, ?_⟩
  rcases Nat.eq_zero_or_pos n with h0 | h0
  · exact .inl h0
  · obtain ⟨b, o, e, hp, hlt, hc⟩ := h.some_ hk0 h0
    exact .inr ⟨b, o, e, hp, fun j hj => (World.cell?_of_block (a := ⟨b, o + j, none⟩) (hk b hp hlt)).trans (hc j hj)⟩
theorem RowK.below {B : Nat} (h : RowK w P k A n c xs) (hk0 : 0 < k) (hb : Below B w w') (hd : ∀ b, P b → b < w.heap.size → b < B) : RowK w' P k A n c xs :=
  h.keep hk0 fun b hp hlt => hb.block b (hd b hp hlt)
theorem RowK.alloc (h : RowK w P k A n c xs) (hk0 : 0 < k) (o : Obj) : RowK (w.alloc o) P k A n c xs := h.keep hk0 fun b _ hlt => Below.heap_alloc w o b hlt
theorem RowK.drewN (h : RowK w P k A n c xs) (q : Nat) : RowK (w.drewN q) P k A n c xs := h
theorem RowK.inb (h : RowK w P k A n c xs) (hk0 : 0 < k) : RowK w (fun b => P b ∧ b < w.heap.size) k A n c xs := by
  refine ⟨h.1, h.2.1, h.2.2.1, ?_⟩
  rcases Nat.eq_zero_or_pos n with h0 | h0
  · exact .inl h0
  · obtain ⟨b, o, e, hp, hlt, hc⟩ := h.some_ hk0 h0
    exact .inr ⟨b, o, e, ⟨hp, hlt⟩, hc⟩
/-- The first i elements. -/
theorem RowK.front (h : RowK w P k A n c xs) {i : Nat} (hi : i ≤ n) : RowK w P k A i c (xs.take (i * k)) := by
  obtain ⟨h1, h2, h3, h4⟩ := h
  have hm : i * k ≤ n * k := Nat.mul_le_mul_right _ hi
  refine ⟨by rw [List.length_take]; omega, by omega, h3, ?_⟩
  rcases Nat.eq_zero_or_pos i with h0 | h0
  · exact .inl h0
  · rcases h4 with h4 | ⟨b, o, e, hp, hc⟩
    · omega
    · exact .inr ⟨b, o, e, hp, fun j hj => by rw [hc j (by omega), List.getElem?_take, if_pos hj]⟩
/-- All but the first i. -/
theorem RowK.back (h : RowK w P k A n c xs) {i : Nat} (hi : i ≤ n) : RowK w P k (if c = i then A else A.map (·.add (i * k))) (n - i) (c - i) (xs.drop (i * k)) := by
  obtain ⟨h1, h2, h3, h4⟩ := h
  have hm : i * k ≤ n * k := Nat.mul_le_mul_right _ hi
  have hs : (n - i) * k = n * k - i * k := Nat.sub_mul n i k
  refine ⟨by rw [List.length_drop, hs]; omega, by omega, by omega, ?_⟩
  rcases Nat.eq_zero_or_pos (n - i) with h0 | h0
  · exact .inl h0
  · rcases h4 with h4 | ⟨b, o, e, hp, hc⟩
    · omega
    · refine .inr ⟨b, o + i * k, ?_, hp, fun j hj => ?_⟩
      · rw [if_neg (by omega), e]
        simp [Addr.add]
      · rw [Nat.add_assoc, hc (i * k + j) (by omega), List.getElem?_drop]
theorem RowK.add_cell {a : Addr} (h : RowK w P k (some a) n c xs) (hk : 0 < k) {j : Nat} {u : Value} (hu : xs[j]? = some u) : w.cell? (a.add j) = some u := by
  have hj : j < n * k := by
    rcases Nat.lt_or_ge j xs.length with x | x
    · have := h.1; omega
    · rw [List.getElem?_eq_none x] at hu; cases hu
  have hn : 0 < n := by
    rcases Nat.eq_zero_or_pos n with h0 | h0
    · subst h0; omega
    · exact h0
  obtain ⟨b, o, e, hp, hlt, hc⟩ := h.some_ hk hn
  injection e with e
  subst e
  rw [Addr.add_lit, hc j hj, hu]
theorem RowK.of_own {base : Nat} {e : TypeId} (h : w.ownsRow base e k (.slice A n c) n xs) : RowK w (fun b => base ≤ b) k A n c xs := by
  obtain ⟨h1, h2⟩ := h
  rcases h2 with ⟨h2, rfl⟩ | ⟨g, cap, cur, hv, hb, hg, hn, hc, hs, ht⟩
  · injection h2 with h3 h4 h5
    subst h3 h5
    exact ⟨h1, by omega, by omega, .inl rfl⟩
  · injection hv with h3 h4 h5
    subst h3 h5
    unfold maxLen at hc
    refine ⟨h1, hn, hc, .inr ⟨g, 0, rfl, hb, fun j hj => ?_⟩⟩
    rw [cell_of_row w g _ cur e (0, 0) hg, ← ht, List.getElem?_take, if_pos hj]
    simp
end rowk
/-- Of a list whose elements take k cells each: the j-th cell of the i-th. -/
theorem flat_get {α : Type} (f : α → List Value) (k : Nat) (hf : ∀ x, (f x).length = k) : ∀ (l : List α) (i j : Nat), j < k → (l.flatMap f)[i * k + j]? = (l[i]?).bind fun x => (f x)[j]? := by
  intro l
  induction l with
  | nil => intro i j _; simp
  | cons x l ih =>
    intro i j hj
    rw [List.flatMap_cons]
    cases i with
    | zero =>
      rw [Nat.zero_mul, Nat.zero_add, List.getElem?_append_left (by rw [hf]; exact hj)]
      rfl
    | succ i =>
      rw [List.getElem?_append_right (by rw [hf, Nat.add_mul]; omega), hf, show (i + 1) * k + j - k = i * k + j by rw [Nat.add_mul]; omega, ih i j hj]
      simp
theorem flat_len {α : Type} (f : α → List Value) (k : Nat) (hf : ∀ x, (f x).length = k) (l : List α) : (l.flatMap f).length = l.length * k := by
  induction l with
  | nil => simp
  | cons x l ih => rw [List.flatMap_cons, List.length_append, hf, ih, List.length_cons, Nat.add_mul]; omega
theorem flat_take {α : Type} (f : α → List Value) (k : Nat) (hf : ∀ x, (f x).length = k) : ∀ (l : List α) (i : Nat), (l.flatMap f).take (i * k) = (l.take i).flatMap f := by
  intro l
  induction l with
  | nil => intro i; simp
  | cons x l ih =>
    intro i
    cases i with
    | zero => simp
    | succ i =>
      rw [List.flatMap_cons, List.take_succ_cons, List.flatMap_cons, ← ih i, show (i + 1) * k = (f x).length + i * k by rw [hf, Nat.add_mul]; omega, List.take_length_add_append]
theorem flat_drop {α : Type} (f : α → List Value) (k : Nat) (hf : ∀ x, (f x).length = k) : ∀ (l : List α) (i : Nat), (l.flatMap f).drop (i * k) = (l.drop i).flatMap f := by
  intro l
  induction l with
  | nil => intro i; simp
  | cons x l ih =>
    intro i
    cases i with
    | zero => simp
    | succ i =>
      rw [List.flatMap_cons, List.drop_succ_cons, ← ih i, show (i + 1) * k = (f x).length + i * k by rw [hf, Nat.add_mul]; omega, List.drop_length_add_append]
end Go.Proofs.Ythoedknnchaiaaa
