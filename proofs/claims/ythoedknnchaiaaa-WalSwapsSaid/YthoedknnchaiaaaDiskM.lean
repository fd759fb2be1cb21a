/-
  A disk as octets: what each call does to it.
-/
import Derived.Test.YthoedknnchaiaaaMem
namespace Go.Proofs.Ythoedknnchaiaaa
set_option linter.unusedVariables false

/-- x stands in b from place p on. -/
def lay (b : List Int) (p : Nat) (x : List Int) : List Int := b.take p ++ x ++ b.drop (p + x.length)
theorem lay_len {b x : List Int} {p : Nat} (h : p + x.length ≤ b.length) : (lay b p x).length = b.length := by
  unfold lay
  rw [List.length_append, List.length_append, List.length_take, List.length_drop]
  omega
theorem lay_get {b x : List Int} {p : Nat} (h : p + x.length ≤ b.length) (j : Nat) : (lay b p x)[j]? = if p ≤ j ∧ j < p + x.length then x[j - p]? else b[j]? := by
  have ht : (b.take p).length = p := by rw [List.length_take]; omega
  unfold lay
  rw [List.append_assoc]
  by_cases h1 : j < p
  · rw [List.getElem?_append_left (by omega), List.getElem?_take, if_pos h1, if_neg (by omega)]
  · rw [List.getElem?_append_right (by omega), ht]
    by_cases h2 : j < p + x.length
    · rw [List.getElem?_append_left (by omega), if_pos ⟨by omega, h2⟩]
    · rw [List.getElem?_append_right (by omega), List.getElem?_drop, if_neg (by omega)]
      congr 1
      omega
theorem lay_nil (b : List Int) (p : Nat) : lay b p [] = b := by simp [lay]
theorem lay_succ {b x : List Int} {p i : Nat} (h : p + x.length ≤ b.length) (hi : i < x.length) : lay b p (x.take (i + 1)) = (lay b p (x.take i)).set (p + i) (x.getD i 0) := by
  have l1 : (x.take (i + 1)).length = i + 1 := by rw [List.length_take]; omega
  have l0 : (x.take i).length = i := by rw [List.length_take]; omega
  apply List.ext_getElem?
  intro j
  rw [lay_get (by omega), List.getElem?_set, lay_get (by omega), lay_len (by omega), l1, l0]
  by_cases hj : p + i = j
  · subst hj
    rw [if_pos ⟨by omega, by omega⟩, if_pos rfl, if_pos (by omega), show p + i - p = i by omega, List.getElem?_take, if_pos (by omega), List.getD_eq_getElem?_getD, List.getElem?_eq_getElem hi]
    rfl
  · rw [if_neg hj]
    by_cases h2 : p ≤ j ∧ j < p + i
    · rw [if_pos ⟨h2.1, by omega⟩, if_pos h2, List.getElem?_take, List.getElem?_take, if_pos (by omega), if_pos (by omega)]
    · rw [if_neg (by omega), if_neg h2]
theorem lay_octs {b x : List Int} (p : Nat) (hb : Octs b) (hx : Octs x) : Octs (lay b p x) := ((hb.take p).append hx).append (hb.drop _)

structure Dk where
  b : List Int
  fuel : Int
  dead : Bool
  written : Int
def I64' (n : Int) : Prop := -9223372036854775808 ≤ n ∧ n ≤ 9223372036854775807
/-- It has m sectors, and its numbers are numbers. -/
def Dk.ok (k : Dk) (m : Nat) : Prop := k.b.length = 32 * m ∧ m ≤ 256 ∧ Octs k.b ∧ (-1 ≤ k.fuel ∧ k.fuel ≤ 9223372036854775807) ∧ I64' k.written
def Dk.fresh (m : Nat) : Dk := ⟨List.replicate (32 * m) 0, -1, false, 0⟩
def Dk.has (k : Dk) (i : Int) : Prop := 0 ≤ i ∧ i < ((k.b.length / 32 : Nat) : Int) ∧ k.dead = false
instance (k : Dk) (i : Int) : Decidable (k.has i) := inferInstanceAs (Decidable (_ ∧ _ ∧ _))
def Dk.may (k : Dk) (i : Int) (x : List Int) : Prop := k.has i ∧ x.length = 32
instance (k : Dk) (i : Int) (x : List Int) : Decidable (k.may i x) := inferInstanceAs (Decidable (_ ∧ _))
/-- A whole sector is too much for what it is armed with. -/
def Dk.dies (k : Dk) : Bool := decide (0 ≤ k.fuel ∧ k.fuel < 32)
def Dk.front (k : Dk) : Nat := if k.dies = true then k.fuel.toNat else 32
def Dk.rest (k : Dk) : Int := if k.dies = true then -1 else if 0 ≤ k.fuel then k.fuel - 32 else k.fuel
/-- Behind Write(i, x). -/
def Dk.write (k : Dk) (i : Int) (x : List Int) : Dk := if k.may i x then ⟨lay k.b (32 * i.toNat) (x.take k.front), k.rest, k.dies, IntKind.i64.wrap (k.written + (k.front : Int))⟩ else k
def Dk.wrote (k : Dk) (i : Int) (x : List Int) : Bool := decide (k.may i x) && !k.dies
def Dk.arm (k : Dk) (n : Int) : Dk := if k.dead = true then k else { k with fuel := max n (-1) }
def Dk.revive (k : Dk) : Dk := { k with fuel := -1, dead := false }
/-- What Read(i) tells. -/
def Dk.read (k : Dk) (i : Int) : List Int := if k.has i then (k.b.drop (32 * i.toNat)).take 32 else []

theorem Dk.front_le (k : Dk) : k.front ≤ 32 := by
  unfold Dk.front Dk.dies
  split
  · rename_i h
    have := of_decide_eq_true h
    omega
  · exact Nat.le_refl _
theorem wrap_i64' (n : Int) : I64' (IntKind.i64.wrap n) := by
  unfold I64'
  rw [IntKind.wrap_i64]
  omega
theorem Dk.ok_fresh {m : Nat} (h : m ≤ 256) : (Dk.fresh m).ok m :=
  ⟨List.length_replicate, h, fun n hn => by rw [List.eq_of_mem_replicate hn]; omega, (by show -1 ≤ (-1 : Int) ∧ (-1 : Int) ≤ 9223372036854775807; omega), (by show -9223372036854775808 ≤ (0 : Int) ∧ (0 : Int) ≤ 9223372036854775807; omega)⟩
theorem Dk.may_room {k : Dk} {m : Nat} (h : k.ok m) {i : Int} {x : List Int} (hm : k.may i x) : 0 ≤ i ∧ i.toNat < m ∧ 32 * i.toNat + x.length ≤ k.b.length ∧ x.length = 32 ∧ k.dead = false := by
  obtain ⟨⟨h0, h1, h2⟩, h3⟩ := hm
  have h4 := h.1
  refine ⟨h0, by omega, by omega, h3, h2⟩
theorem Dk.ok_write {k : Dk} {m : Nat} (h : k.ok m) (i : Int) {x : List Int} (hx : Octs x) : (k.write i x).ok m := by
  unfold Dk.write
  split
  · rename_i hm
    obtain ⟨h0, h1, h2, h3, h4⟩ := Dk.may_room h hm
    have hf := k.front_le
    have hl : (x.take k.front).length = k.front := by rw [List.length_take]; omega
    refine ⟨(lay_len (by omega)).trans h.1, h.2.1, lay_octs _ h.2.2.1 (hx.take _), ?_, wrap_i64' _⟩
    have hfu := h.2.2.2.1
    show -1 ≤ k.rest ∧ k.rest ≤ 9223372036854775807
    unfold Dk.rest Dk.dies
    by_cases hd : 0 ≤ k.fuel ∧ k.fuel < 32
    · rw [if_pos (decide_eq_true hd)]
      omega
    · rw [if_neg (by rw [decide_eq_false hd]; simp)]
      split <;> omega
  · exact h
theorem Dk.ok_arm {k : Dk} {m : Nat} (h : k.ok m) {n : Int} (hn : n ≤ 9223372036854775807) : (k.arm n).ok m := by
  unfold Dk.arm
  split
  · exact h
  · exact ⟨h.1, h.2.1, h.2.2.1, (by show -1 ≤ max n (-1) ∧ max n (-1) ≤ 9223372036854775807; omega), h.2.2.2.2⟩
theorem Dk.ok_revive {k : Dk} {m : Nat} (h : k.ok m) : k.revive.ok m := ⟨h.1, h.2.1, h.2.2.1, (by show -1 ≤ (-1 : Int) ∧ (-1 : Int) ≤ 9223372036854775807; omega), h.2.2.2.2⟩
theorem Dk.secs {k : Dk} {m : Nat} (h : k.ok m) : k.b.length / 32 = m := by have := h.1; omega
theorem cur_set {cur : Array Value} {L j : Nat} {l : List Int} (x : Int) (h : cur.toList.take L = octs l) : (cur.setIfInBounds j (.int .u8 x)).toList.take L = octs (l.set j x) := by
  rw [Array.toList_setIfInBounds, List.take_set, h]
  simp [octs, List.map_set]
end Go.Proofs.Ythoedknnchaiaaa
