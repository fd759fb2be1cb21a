/-
  Words for memory: which blocks a call may have turned; a slice of one-cell elements that reads as a list; a block that is known whole.
-/
import Derived.Test.YthoedknnchaiaaaRows
import Derived.WalkKit
import Derived.ProofKit
import Derived.OpenShut
import Derived.Below
import Derived.Lib.Hide
import Derived.Laws.OwnMore
import Derived.Maps.AppendAt
import Derived.Deep.AppendLies
import Derived.Deep.Draws
import Derived.Laws.Rows
import Derived.OwnWalk
namespace Go.Proofs.Ythoedknnchaiaaa
open Go.RowKit
set_option linter.unusedVariables false

theorem hide {p : Prop} (h : p) : Hid p := h

/-- Only blocks of P, and new ones, may have turned. -/
structure Touch (P : Nat → Prop) (w w' : World) : Prop where
  os : w'.os = w.os
  tape : w'.tape = w.tape
  output : w'.output = w.output
  size : w.heap.size ≤ w'.heap.size
  block : ∀ k, k < w.heap.size → ¬ P k → w'.heap[k]? = w.heap[k]?

section touch
variable {P Q : Nat → Prop} {a w w' : World}
theorem Touch.refl (P : Nat → Prop) (w : World) : Touch P w w := ⟨rfl, rfl, rfl, Nat.le_refl _, fun _ _ _ => rfl⟩
theorem Touch.mono (h : Touch P w w') (hpq : ∀ k, k < w.heap.size → P k → Q k) : Touch Q w w' :=
  ⟨h.os, h.tape, h.output, h.size, fun k hk hn => h.block k hk fun hp => hn (hpq k hk hp)⟩
theorem Touch.trans (h : Touch P a w) (k : Touch Q w w') (hq : ∀ b, b < a.heap.size → Q b → P b) : Touch P a w' :=
  ⟨k.os.trans h.os, k.tape.trans h.tape, k.output.trans h.output, Nat.le_trans h.size k.size,
    fun b hb hn => (k.block b (Nat.lt_of_lt_of_le hb h.size) fun hx => hn (hq b hb hx)).trans (h.block b hb hn)⟩
theorem Touch.drew (h : Touch P a w) : Touch P a w.drew := ⟨h.os, h.tape, h.output, h.size, h.block⟩
theorem Touch.drewN (h : Touch P a w) (n : Nat) : Touch P a (w.drewN n) := ⟨h.os, h.tape, h.output, h.size, h.block⟩
theorem Touch.alloc (h : Touch P a w) (o : Obj) : Touch P a (w.alloc o) :=
  ⟨h.os, h.tape, h.output, Nat.le_trans h.size (by simp), fun k hk hn => (Below.heap_alloc w o k (Nat.lt_of_lt_of_le hk h.size)).trans (h.block k hk hn)⟩
theorem Touch.setCell (h : Touch P a w) {p : Addr} (hp : p.block < a.heap.size → P p.block) (u : Value) : Touch P a (w.setCell p u) :=
  ⟨h.os, h.tape, h.output, by simpa [World.setCell] using h.size, fun k hk hn => (Below.heap_setCell w p u k (by rintro rfl; exact hn (hp hk))).trans (h.block k hk hn)⟩
theorem Touch.of_below (h : Below a.heap.size a w) : Touch (fun _ => False) a w := ⟨h.os, h.tape, h.output, h.size, fun k hk _ => h.block k hk⟩
theorem Touch.of_grown {row : Option Nat} (h : a.grownBy w row) : Touch (fun k => row = some k) a w :=
  ⟨h.os, h.tape, h.output, h.size, fun k hk hn => h.block k hk (fun e => hn e.symm)⟩
theorem Touch.below {B : Nat} (h : Touch P a w) (hB : B ≤ a.heap.size) (hp : ∀ k, k < B → ¬ P k) : Below B a w :=
  ⟨h.os, h.tape, h.output, h.size, fun k hk => h.block k (by omega) (hp k hk)⟩
end touch

theorem below_drewN {B : Nat} {a w : World} (h : Below B a w) (n : Nat) : Below B a (w.drewN n) := ⟨h.os, h.tape, h.output, h.size, h.block⟩

/-- Block g is just the cells cs of element type t, none of them frozen. -/
def Blk (w : World) (g : Nat) (t : TypeId) (cs : Array Value) : Prop := w.heap[g]? = some (.cells cs t (0, 0))
section blk
variable {w w' : World} {g : Nat} {t : TypeId} {cs : Array Value}
theorem Blk.lt (h : Blk w g t cs) : g < w.heap.size := (Array.getElem?_eq_some_iff.1 h).1
theorem Blk.cell (h : Blk w g t cs) (i : Nat) : w.cell? ⟨g, i, none⟩ = cs[i]? := cell_of_row w g i cs t (0, 0) h
theorem Blk.frozen (h : Blk w g t cs) (i : Nat) : w.frozen? ⟨g, i, none⟩ = false := frozen_of_row w g i cs t h
theorem Blk.new (w : World) (t : TypeId) (cs : Array Value) : Blk (w.alloc (.cells cs t)) w.heap.size t cs := heap_alloc_new w _
theorem Blk.alloc (h : Blk w g t cs) (o : Obj) : Blk (w.alloc o) g t cs := (Below.heap_alloc w o g h.lt).trans h
theorem Blk.drew (h : Blk w g t cs) : Blk w.drew g t cs := h
theorem Blk.store (h : Blk w g t cs) (i : Nat) (u : Value) : Blk (w.setCell ⟨g, i, none⟩ u) g t (cs.setIfInBounds i u) := heap_setCell_same w g i cs t u h
theorem Blk.far (h : Blk w g t cs) {p : Addr} (hp : g ≠ p.block) (u : Value) : Blk (w.setCell p u) g t cs := (Below.heap_setCell w p u g hp).trans h
theorem Blk.touch {P : Nat → Prop} (h : Blk w g t cs) (ht : Touch P w w') (hp : ¬ P g) : Blk w' g t cs := (ht.block g h.lt hp).trans h
theorem Blk.below {B : Nat} (h : Blk w g t cs) (hb : Below B w w') (hp : g < B) : Blk w' g t cs := (hb.block g hp).trans h
end blk

/-- The slice (A, n, c) reads as xs, an element a cell; its cells lie in blocks of P. -/
def Row (w : World) (P : Nat → Prop) (A : Option Addr) (n c : Nat) (xs : List Value) : Prop :=
  xs.length = n ∧ n ≤ c ∧ c ≤ 9223372036854775807 ∧ (n = 0 ∨ ∃ b o, A = some ⟨b, o, none⟩ ∧ P b ∧ ∀ j, j < n → w.cell? ⟨b, o + j, none⟩ = xs[j]?)
section row
variable {w w' : World} {P Q : Nat → Prop} {A : Option Addr} {n c : Nat} {xs : List Value}
theorem Row.len (h : Row w P A n c xs) : xs.length = n := h.1
theorem Row.le (h : Row w P A n c xs) : n ≤ c := h.2.1
theorem Row.cap (h : Row w P A n c xs) : c ≤ 9223372036854775807 := h.2.2.1
theorem Row.nil (w : World) (P : Nat → Prop) (A : Option Addr) : Row w P A 0 0 [] := ⟨rfl, Nat.le_refl _, by omega, .inl rfl⟩
theorem Row.some_ (h : Row w P A n c xs) (hn : 0 < n) : ∃ b o, A = some ⟨b, o, none⟩ ∧ P b ∧ b < w.heap.size ∧ ∀ j, j < n → w.cell? ⟨b, o + j, none⟩ = xs[j]? := by
  rcases h.2.2.2 with h0 | ⟨b, o, e, hp, hc⟩
  · omega
  · have h0 := hc 0 hn
    rw [List.getElem?_eq_getElem (by have := h.1; omega)] at h0
    exact ⟨b, o, e, hp, World.block_lt_of_cell? w _ h0, hc⟩
theorem Row.mono (h : Row w P A n c xs) (hpq : ∀ k, P k → Q k) : Row w Q A n c xs :=
  ⟨h.1, h.2.1, h.2.2.1, h.2.2.2.imp id fun ⟨b, o, e, hp, hc⟩ => ⟨b, o, e, hpq b hp, hc⟩⟩
theorem Row.keep (h : Row w P A n c xs) (hk : ∀ b, P b → b < w.heap.size → w'.heap[b]? = w.heap[b]?) : Row w' P A n c xs := by
  refine ⟨h.1, h.2.1, h.2.2.1, ?_⟩
  rcases Nat.eq_zero_or_pos n with h0 | h0
  · exact .inl h0
  · obtain ⟨b, o, e, hp, hlt, hc⟩ := h.some_ h0
    exact .inr ⟨b, o, e, hp, fun j hj => (World.cell?_of_block (a := ⟨b, o + j, none⟩) (hk b hp hlt)).trans (hc j hj)⟩
theorem Row.touch {S : Nat → Prop} (h : Row w P A n c xs) (ht : Touch S w w') (hd : ∀ b, P b → b < w.heap.size → ¬ S b) : Row w' P A n c xs :=
  h.keep fun b hp hlt => ht.block b hlt (hd b hp hlt)
theorem Row.below {B : Nat} (h : Row w P A n c xs) (hb : Below B w w') (hd : ∀ b, P b → b < w.heap.size → b < B) : Row w' P A n c xs :=
  h.keep fun b hp hlt => hb.block b (hd b hp hlt)
theorem Row.alloc (h : Row w P A n c xs) (o : Obj) : Row (w.alloc o) P A n c xs := h.keep fun b _ hlt => Below.heap_alloc w o b hlt
theorem Row.drew (h : Row w P A n c xs) : Row w.drew P A n c xs := h
theorem Row.far (h : Row w P A n c xs) {p : Addr} (hp : ¬ P p.block) (u : Value) : Row (w.setCell p u) P A n c xs :=
  h.keep fun b hb _ => Below.heap_setCell w p u b (by rintro rfl; exact hp hb)
theorem Row.add_cell {a : Addr} (h : Row w P (some a) n c xs) {j : Nat} {u : Value} (hu : xs[j]? = some u) : w.cell? (a.add j) = some u := by
  have hj : j < n := by
    rcases Nat.lt_or_ge j xs.length with x | x
    · have := h.1; omega
    · rw [List.getElem?_eq_none x] at hu; cases hu
  obtain ⟨b, o, e, hp, hlt, hc⟩ := h.some_ (by omega)
  injection e with e
  subst e
  rw [Addr.add_lit, hc j hj, hu]
theorem Row.front (h : Row w P A n c xs) {k : Nat} (hk : k ≤ n) : Row w P A k c (xs.take k) := by
  obtain ⟨h1, h2, h3, h4⟩ := h
  refine ⟨by simp; omega, by omega, h3, ?_⟩
  rcases Nat.eq_zero_or_pos k with h0 | h0
  · exact .inl h0
  · rcases h4 with h4 | ⟨b, o, e, hp, hc⟩
    · omega
    · exact .inr ⟨b, o, e, hp, fun j hj => by rw [hc j (by omega), List.getElem?_take, if_pos hj]⟩
theorem Row.back (h : Row w P A n c xs) {k : Nat} (hk : k ≤ n) : Row w P (if c = k then A else A.map (·.add k)) (n - k) (c - k) (xs.drop k) := by
  obtain ⟨h1, h2, h3, h4⟩ := h
  refine ⟨by simp; omega, by omega, by omega, ?_⟩
  rcases Nat.eq_zero_or_pos (n - k) with h0 | h0
  · exact .inl h0
  · rcases h4 with h4 | ⟨b, o, e, hp, hc⟩
    · omega
    · refine .inr ⟨b, o + k, ?_, hp, fun j hj => ?_⟩
      · rw [if_neg (by omega), e]
        simp [Addr.add]
      · rw [Nat.add_assoc, hc (k + j) (by omega), List.getElem?_drop]
end row

/-- The octets, as cells. -/
def octs (l : List Int) : List Value := l.map (.int .u8)
/-- Each of them is one. -/
def Octs (l : List Int) : Prop := ∀ n ∈ l, 0 ≤ n ∧ n < 256
theorem octs_len (l : List Int) : (octs l).length = l.length := by simp [octs]
theorem octs_take (l : List Int) (k : Nat) : (octs l).take k = octs (l.take k) := by simp [octs]
theorem octs_drop (l : List Int) (k : Nat) : (octs l).drop k = octs (l.drop k) := by simp [octs]
theorem octs_append (l m : List Int) : octs l ++ octs m = octs (l ++ m) := by simp [octs]
theorem octs_at (l : List Int) (j : Nat) (h : j < l.length) : (octs l)[j]? = some (.int .u8 (l.getD j 0)) := by
  simp [octs, List.getD, List.getElem?_eq_getElem h]
theorem octs_one (l : List Int) : ∀ u ∈ octs l, u.oneCell' = true := ints_oneCell .u8 l
theorem Octs.take {l : List Int} (h : Octs l) (k : Nat) : Octs (l.take k) := fun n hn => h n (List.mem_of_mem_take hn)
theorem Octs.drop {l : List Int} (h : Octs l) (k : Nat) : Octs (l.drop k) := fun n hn => h n (List.mem_of_mem_drop hn)
theorem Octs.append {l m : List Int} (h : Octs l) (k : Octs m) : Octs (l ++ m) := fun n hn => (List.mem_append.1 hn).elim (h n) (k n)
theorem Octs.getD {l : List Int} (h : Octs l) (j : Nat) : 0 ≤ l.getD j 0 ∧ l.getD j 0 < 256 := by
  rcases Nat.lt_or_ge j l.length with hj | hj
  · rw [List.getD_eq_getElem?_getD, List.getElem?_eq_getElem hj]
    exact h _ (List.getElem_mem hj)
  · rw [List.getD_eq_getElem?_getD, List.getElem?_eq_none hj]
    simp
end Go.Proofs.Ythoedknnchaiaaa
