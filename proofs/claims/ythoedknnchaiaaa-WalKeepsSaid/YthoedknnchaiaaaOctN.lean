/-
  Numbers and octets: a number in octets, read again; octets of one number are the same; an octet of a row set anew.
-/
import Derived.Test.YthoedknnchaiaaaRefPut
import Derived.Laws.BitsAllLaws
namespace Go.Proofs.Ythoedknnchaiaaa
open Go.RowKit
set_option linter.unusedVariables false

theorem inOcts_getD (x : Int) (k j : Nat) (h : j < k) : (inOcts x k).getD j 0 = x / 256 ^ (k - 1 - j) % 256 := by
  rw [List.getD_eq_getElem?_getD, List.getElem?_eq_getElem (by rw [inOcts_len]; exact h)]
  simp [inOcts]
theorem num_inOcts_take (x : Int) (k : Nat) (h0 : 0 ≤ x) (h1 : x < 256 ^ k) : ∀ j, j ≤ k → num ((inOcts x k).take j) = x / 256 ^ (k - j) := by
  intro j
  induction j with
  | zero =>
    intro _
    rw [List.take_zero, Nat.sub_zero, Int.ediv_eq_zero_of_lt h0 h1]
    rfl
  | succ j ih =>
    intro hj
    rw [num_more _ _ (by rw [inOcts_len]; omega), ih (by omega), inOcts_getD _ _ _ (by omega)]
    have e := ediv_more x (k - 1 - j)
    rw [show k - 1 - j + 1 = k - j by omega] at e
    rw [← e, show k - (j + 1) = k - 1 - j by omega]
    omega
theorem num_inOcts (x : Int) (k : Nat) (h0 : 0 ≤ x) (h1 : x < 256 ^ k) : num (inOcts x k) = x := by
  have h := num_inOcts_take x k h0 h1 k (Nat.le_refl _)
  rw [List.take_of_length_le (by rw [inOcts_len]; exact Nat.le_refl _), Nat.sub_self] at h
  simpa using h
theorem num_inj (n : Nat) : ∀ (a b : List Int), a.length = n → b.length = n → Octs a → Octs b → num a = num b → a = b := by
  induction n with
  | zero =>
    intro a b ha hb _ _ _
    rw [List.eq_nil_of_length_eq_zero ha, List.eq_nil_of_length_eq_zero hb]
  | succ n ih =>
    intro a b ha hb oa ob h
    have ea : a = a.take n ++ [a.getD n 0] := by
      rw [List.getD_eq_getElem?_getD, List.getElem?_eq_getElem (show n < a.length by omega)]
      simp only [Option.getD_some]
      conv => lhs; rw [← List.take_of_length_le (show a.length ≤ n + 1 by omega)]
      rw [List.take_add_one, List.getElem?_eq_getElem (show n < a.length by omega)]
      rfl
    have eb : b = b.take n ++ [b.getD n 0] := by
      rw [List.getD_eq_getElem?_getD, List.getElem?_eq_getElem (show n < b.length by omega)]
      simp only [Option.getD_some]
      conv => lhs; rw [← List.take_of_length_le (show b.length ≤ n + 1 by omega)]
      rw [List.take_add_one, List.getElem?_eq_getElem (show n < b.length by omega)]
      rfl
    have za := oa.getD n
    have zb := ob.getD n
    rw [ea, eb, num_snoc, num_snoc] at h
    have h2 := ih (a.take n) (b.take n) (by simp; omega) (by simp; omega) (oa.take n) (ob.take n) (by omega)
    rw [ea, eb, h2, show a.getD n 0 = b.getD n 0 by omega]

/-- One bit of an octet turned. -/
theorem turn_oct (z : Int) (q : Nat) (hz : 0 ≤ z ∧ z < 256) (hq : q < 8) : 0 ≤ bits .xor .u8 z (2 ^ q % 256) ∧ bits .xor .u8 z (2 ^ q % 256) < 256 ∧ bits .xor .u8 z (2 ^ q % 256) ≠ z := by
  obtain ⟨t, ht, h0, h1⟩ : ∃ t : Int, t = 2 ^ q % 256 ∧ 0 < t ∧ t < 256 := by
    refine ⟨_, rfl, ?_, by omega⟩
    rcases q with _ | _ | _ | _ | _ | _ | _ | _ | q <;> first | decide | omega
  rw [← ht, u8_xor z t hz.1 hz.2 (by omega) h1]
  have hx : z.toNat ^^^ t.toNat < 2 ^ 8 := Nat.xor_lt_two_pow (by omega) (by omega)
  refine ⟨by omega, by omega, fun e => ?_⟩
  have e1 : z.toNat ^^^ t.toNat = z.toNat := by omega
  have e2 := congrArg (z.toNat ^^^ ·) e1
  simp only [← Nat.xor_assoc, Nat.xor_self, Nat.zero_xor] at e2
  omega

/-- An octet of a row stored anew. -/
theorem row_set {w : World} {g n cap p : Nat} {t : TypeId} {cur : Array Value} {m : List Int} {y : Int} (hh : Blk w g t cur) (ht : cur.toList.take n = octs m) (hm : m.length = n) (hp : p < n) (hc : n ≤ cap) (hcm : cap ≤ 9223372036854775807) (hs : cur.size = cap) :
    Row (w.setCell ⟨g, p, none⟩ (.int .u8 y)) (· = g) (some ⟨g, 0, none⟩) n cap (octs (m.set p y)) := by
  refine ⟨by simp [octs, hm], hc, hcm, .inr ⟨g, 0, rfl, rfl, fun j hj => ?_⟩⟩
  rw [Nat.zero_add, (hh.store p (.int .u8 y)).cell j]
  have hj' : (octs m)[j]? = cur[j]? := by rw [← ht, List.getElem?_take, if_pos hj, Array.getElem?_toList]
  have e : octs (m.set p y) = (octs m).set p (.int .u8 y) := by simp [octs, List.map_set]
  rw [e, List.getElem?_set, Array.getElem?_setIfInBounds, hj', octs_len]
  by_cases h : p = j
  · rw [if_pos h, if_pos h, if_pos (by omega), if_pos (by omega)]
  · rw [if_neg h, if_neg h]
theorem octs_set {m : List Int} (h : Octs m) {y : Int} (hy : 0 ≤ y ∧ y < 256) (p : Nat) : Octs (m.set p y) := by
  intro n hn
  rcases List.mem_or_eq_of_mem_set hn with hn | hn
  · exact h n hn
  · rw [hn]; exact hy
end Go.Proofs.Ythoedknnchaiaaa
