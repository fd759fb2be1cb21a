/-
  The contract of octet.Put: what was there, and behind it the number in so many octets, in memory of its own.
-/
import Derived.Test.YtcdllbjhcjpleaaOctB
import Derived.Laws.MakeOwn
import Derived.Laws.CopyOwn
namespace Go.Proofs.Ytcdllbjhcjpleaa
open Go.RowKit
set_option linter.unusedVariables false

/-- A number in k octets, the highest first. -/
def inOcts (x : Int) (k : Nat) : List Int := (List.range k).map fun j => x / 256 ^ (k - 1 - j) % 256
theorem inOcts_len (x : Int) (k : Nat) : (inOcts x k).length = k := by simp [inOcts]
theorem inOcts_octs (x : Int) (k : Nat) : Octs (inOcts x k) := by
  intro n hn
  obtain ⟨j, _, rfl⟩ := List.mem_map.1 hn
  omega
theorem inOcts_take (x : Int) (k j : Nat) (h : j < k) : (inOcts x k).take (j + 1) = (inOcts x k).take j ++ [x / 256 ^ (k - 1 - j) % 256] := by
  rw [List.take_add_one, List.getElem?_eq_getElem (by rw [inOcts_len]; exact h)]
  simp [inOcts]

/-- What Put comes to: v is a slice of the octets m, in memory of its own. -/
def Fresh (w : World) (m : List Int) (w' : World) (e : Ending) : Prop :=
  ∃ A c, e = .returned (.slice A m.length c) ∧ w'.ownsRow w.heap.size 5 1 (.slice A m.length c) m.length (octs m) ∧ Below w.heap.size w w'

theorem copy_start (w : World) (l : List Int) (k : Nat) (w' : World) (hh : w'.heap[w.heap.size]? = some (.cells (splice (madeCells #[.int .u8 0] (l.length + k)).toList 0 (octs l)).toArray 5 (0, 0))) (hk : l.length + k ≤ maxLen) :
    w'.ownsRow w.heap.size 5 1 (.slice (some ⟨w.heap.size, 0, none⟩) l.length (l.length + k)) l.length (octs l) := by
  refine ⟨by simp [octs_len], .inr ⟨w.heap.size, l.length + k, _, rfl, Nat.le_refl _, hh, by omega, hk, ?_, ?_⟩⟩
  · simp only [List.size_toArray]
    rw [length_splice _ _ _ (by simp [octs_len, size_madeCells])]
    simp [size_madeCells]
  · simp [splice, octs_len]

theorem octs_append' (l : List Int) (x : Int) : octs (l ++ [x]) = octs l ++ [.int .u8 x] := by simp [octs]
theorem own_form {w : World} {base : Nat} {e : TypeId} {size : Nat} {v : Value} {n : Nat} {xs : List Value} (h : w.ownsRow base e size v n xs) : ∃ A c, v = .slice A n c := by
  rcases h.2 with ⟨rfl, rfl⟩ | ⟨g, cap, cur, rfl, _⟩
  · exact ⟨_, _, rfl⟩
  · exact ⟨_, _, rfl⟩
theorem copy_pos {w : World} {P : Nat → Prop} {A : Option Addr} {n c : Nat} {l : List Int} (g : Nat) (h : Row w P A n c (octs l)) (h0 : 0 < (octs l).length) :
    some (⟨g, 0, none⟩ : Addr) = some ⟨g, 0, none⟩ ∧ ∃ ad, A = some ad ∧ ∀ j v, (octs l)[j]? = some v → w.cell? (ad.add j) = some v := by
  obtain ⟨b, o, rfl, _⟩ := h.some_ (by rw [← h.1]; exact h0)
  exact ⟨rfl, _, rfl, fun j u hu => h.add_cell hu⟩

end Go.Proofs.Ytcdllbjhcjpleaa
