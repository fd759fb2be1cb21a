/-
  The contract of octet.Put: what was there, and behind it the number in so many octets, in memory of its own.
-/
import Derived.Test.YthoedknnchaiaaaOctB
import Derived.Laws.MakeOwn
import Derived.Laws.CopyOwn
namespace Go.Proofs.Ythoedknnchaiaaa
open Go.RowKit
set_option linter.unusedVariables false

/-- A number in k octets, the highest first. -/
def inOcts (x : Int) (k : Nat) : List Int := (List.range k).map fun j => x / 256 ^ (k - 1 - j) % 256
theorem inOcts_len (x : Int) (k : Nat) : (inOcts x k).length = k := by simp [inOcts]
theorem inOcts_octs (x : Int) (k : Nat) : Octs (inOcts x k) := by
  intro n hn
  obtain ⟨j, _, rfl⟩ := List.mem_map.1 hn
  omega
theorem inOcts_take (x : Int) (k j : Nat) (h : j < k) : (inOcts x k).take (j + 1) = (inOcts x k).take j ++ [x / 256 ^ (k - 1 - j) % 256] := by
  rw [List.take_add_one, List.getElem?_eq_getElem (by rw [inOcts_len]; exact h)]
  simp [inOcts]

/-- What Put comes to: v is a slice of the octets m, in memory of its own. -/
def Fresh (w : World) (m : List Int) (w' : World) (e : Ending) : Prop :=
  ∃ A c, e = .returned (.slice A m.length c) ∧ w'.ownsRow w.heap.size 5 1 (.slice A m.length c) m.length (octs m) ∧ Below w.heap.size w w'

theorem copy_start (w : World) (l : List Int) (k : Nat) (w' : World) (hh : w'.heap[w.heap.size]? = some (.cells (splice (madeCells #[.int .u8 0] (l.length + k)).toList 0 (octs l)).toArray 5 (0, 0))) (hk : l.length + k ≤ maxLen) :
    w'.ownsRow w.heap.size 5 1 (.slice (some ⟨w.heap.size, 0, none⟩) l.length (l.length + k)) l.length (octs l) := by
  refine ⟨by simp [octs_len], .inr ⟨w.heap.size, l.length + k, _, rfl, Nat.le_refl _, hh, by omega, hk, ?_, ?_⟩⟩
  · simp only [List.size_toArray]
    rw [length_splice _ _ _ (by simp [octs_len, size_madeCells])]
    simp [size_madeCells]
  · simp [splice, octs_len]

theorem octs_append' (l : List Int) (x : Int) : octs (l ++ [x]) = octs l ++ [.int .u8 x] := by simp [octs]
theorem own_form {w : World} {base : Nat} {e : TypeId} {size : Nat} {v : Value} {n : Nat} {xs : List Value} (h : w.ownsRow base e size v n xs) : ∃ A c, v = .slice A n c := by
  rcases h.2 with ⟨rfl, rfl⟩ | ⟨g, cap, cur, rfl, _⟩
  · exact ⟨_, _, rfl⟩
  · exact ⟨_, _, rfl⟩
theorem copy_pos {w : World} {P : Nat → Prop} {A : Option Addr} {n c : Nat} {l : List Int} (g : Nat) (h : Row w P A n c (octs l)) (h0 : 0 < (octs l).length) :
    some (⟨g, 0, none⟩ : Addr) = some ⟨g, 0, none⟩ ∧ ∃ ad, A = some ad ∧ ∀ j v, (octs l)[j]? = some v → w.cell? (ad.add j) = some v := by
  obtain ⟨b, o, rfl, _⟩ := h.some_ (by rw [← h.1]; exact h0)
  exact ⟨rfl, _, rfl, fun j u hu => h.add_cell hu⟩

theorem put_yes (P : Nat → Prop) (A : Option Addr) (n c : Nat) (l : List Int) (x : Int) (k : Nat) (w : World) (h : Row w P A n c (octs l)) (ho : Octs l) (hn : n ≤ 140737488355000) (hx0 : 0 ≤ x) (hx1 : x ≤ 18446744073709551615) (h1 : 1 ≤ k) (h8 : k ≤ 8) :
    Calls Try.prog 73 #[.slice A n c, .int .u64 x, .int .i64 k] w fun e w' => Fresh w (l ++ inOcts x k) w' e := by
  obtain rfl : n = l.length := by rw [← h.1, octs_len]
  obtain ⟨i5, hi, hz0, hz1, hz2⟩ := info_parts info5
  have hmk := fun W => run_make (P := Try.prog) W 32 5 i5 (.int .u8 0) Try.underlying32 hi hz0 .i64 .i64 (l.length : Int) ((l.length : Int) + k) (by omega) (by omega) (by rw [hz2]; omega) (by omega)
  simp only [hz1, Int.toNat_natCast] at hmk
  have hnk : ((l.length : Int) + k).toNat = l.length + k := by omega
  rw [hnk, Nat.mul_one] at hmk
  have HR := hide h
  clear h hnk
  obtain ⟨Z, hZ⟩ : ∃ Z, Z = (madeCells #[.int .u8 0] (l.length + k)).toList := ⟨_, rfl⟩
  have hg : (w.alloc (.cells (madeCells #[.int .u8 0] (l.length + k)) 5)).heap[w.heap.size]? = some (.cells Z.toArray 5 (0, 0)) := by
    rw [heap_alloc_new, hZ]
  have hzl : Z.length = l.length + k := by rw [hZ]; simp [size_madeCells]
  have hlen : (octs l).length = Nat.min l.length l.length := by simp [octs_len]
  have hfit : 0 + (octs l).length ≤ Z.length := by rw [octs_len]; omega
  have hb0 : Below w.heap.size w (w.alloc (.cells (madeCells #[.int .u8 0] (l.length + k)) 5)) := (Below.refl _ w).alloc (Nat.le_refl _) _
  have hsz : (Try.prog.info? 5).map (·.size) = some 1 := by rw [hi]; simp [hz1]
  have HG := hide hg
  have HL := hide hlen
  have HF := hide hfit
  have HB0 := hide hb0
  have HZ := hide hZ
  have HS := hide hsz
  clear hZ hg hzl hlen hfit hb0 hsz
  go_enter Try.func73, Try.ntmps73
  go_wp2_with fail
  refine (wide_yes _ _ (by omega) (by omega)).mono ?_
  rintro e w' ⟨rfl, rfl⟩
  go_wp2_with (with_reducible refine wpList_copy_splice rfl (.tmp 21) (.tmp 22) 32 32 rfl 5 Try.underlying32 HS.out _ _ _ _ _ _ rfl rfl w.heap.size 0 Z 5 HG.out (octs l) HL.out (fun h0 => copy_pos _ (HR.out.alloc _) h0) HF.out (octs_one l) w.heap.size w HB0.out (Nat.le_refl _) ?_)
  intro w1 hg1 hb1
  have hown := hide (copy_start w l k w1 (by rw [← HZ.out]; exact hg1.out) (by unfold maxLen; omega))
  have HB := hide hb1
  clear hb1 hg1
  go_wp2
  go_loopw [7, 8] (fun v i wr => ∃ (j : Nat) (q : Int), j ≤ k ∧ -1 ≤ q ∧ q ≤ 7 ∧ i = .int .i64 q ∧ Hid (q = (k : Int) - 1 - j) ∧ Hid (∃ A' c', v = .slice A' (l.length + j) c') ∧ Hid (wr.ownsRow w.heap.size 5 1 v (l.length + j) (octs (l ++ (inOcts x k).take j))) ∧ Hid (Below w.heap.size w wr)) (fun _ i _ => (intOf i + 1).toNat)
  case atStart => exact ⟨0, (k : Int) - 1, by omega, by omega, by omega, rfl, hide (by omega), hide ⟨_, _, rfl⟩, by simpa using hown, HB⟩
  case round =>
    obtain ⟨j, q, hj, hq0, hq1, rfl, hq, hv, how, hbl⟩ := hrel
    clear hown HB
    obtain ⟨A', c', rfl⟩ := hv.out
    by_cases h0 : 0 ≤ q
    · obtain ⟨p, rfl⟩ := Int.eq_ofNat_of_zero_le h0
      have hjk : j < k := by have := hq.out; omega
      have hc1 : l.length + j + 1 ≤ maxLen := by unfold maxLen; omega
      have HC1 := hide hc1
      clear hc1
      go_wp2_with (at_builtin; refine wpList_append_own_at _ rfl _ _ 32 rfl w.heap.size 5 i5 (.int .u8 0) 1 1 Try.underlying32 hi hz0 hz1 hz2 rfl (by decide) _ (l.length + j) _ rfl (how.out.alloc _) ⟨wr.heap.size, 0, none⟩ 1 1 [.int .u8 (x / 2 ^ (8 * p) % 256)] rfl rfl (cell_one_new _ _ _) (by simp [Value.oneCell']) HC1.out ?c2 ?c3 ?_)
      case c2 => omega
      case c3 => have := hbl.out.size; simp; omega
      intro v' w2 hown' hgrow _ hat
      have HO := hide hown'
      have hcl : (octs (l ++ (inOcts x k).take j)) ++ [.int .u8 (x / 2 ^ (8 * p) % 256)] = octs (l ++ (inOcts x k).take (j + 1)) := by
        have e : p = k - 1 - j := by have := hq.out; omega
        rw [inOcts_take _ _ _ hjk, ← List.append_assoc, octs_append' _ _, ← e, Int.pow_mul]
        rfl
      have HCL := hide hcl
      have HV := hide (own_form hown')
      have HB := hide (((hbl.out.alloc hbl.out.size _).grown hgrow (by have := hbl.out.size; simp; omega) (fun g hg => (how.out.lt g hg).1)))
      have HQ := hide (show (p : Int) - 1 = (k : Int) - 1 - ((j + 1 : Nat) : Int) by have := hq.out; omega)
      clear hown' hgrow hat hcl
      go_wp2
      go_roundw
      case rel => exact ⟨j + 1, (p : Int) - 1, by omega, by omega, by omega, rfl, HQ, HV, by have := HO.out; rw [HCL.out] at this; exact this, HB⟩
      case measure => simp [intOf]
    · have e : j = k := by have := hq.out; omega
      subst e
      go_wp2
      go_ret
      refine ⟨A', c', ?_, ?_, hbl.out⟩
      · rw [List.length_append, inOcts_len]; rfl
      · have := how.out
        rw [List.take_of_length_le (by rw [inOcts_len]; exact Nat.le_refl _)] at this
        rw [List.length_append, inOcts_len]
        exact this

theorem put_no (P : Nat → Prop) (A : Option Addr) (n c : Nat) (l : List Int) (x k : Int) (w : World) (h : Row w P A n c (octs l)) (hn : n ≤ 140737488355328) (hk : k < 1 ∨ 8 < k) :
    Calls Try.prog 73 #[.slice A n c, .int .u64 x, .int .i64 k] w fun e w' => Cloned w n l w' e := by
  have HK := hide hk
  clear hk
  go_enter Try.func73, Try.ntmps73
  go_wp2_with fail
  refine (wide_no _ _ HK.out).mono ?_
  rintro e w' ⟨rfl, rfl⟩
  go_wp2_with fail
  refine (clone_any P _ _ _ l _ h hn).mono ?_
  rintro e w' ⟨A', c', rfl, hown, hb⟩
  have HO := hide hown
  have HB := hide hb
  clear hown hb
  go_wp2
  go_ret
  exact ⟨A', c', rfl, HO.out, HB.out⟩

end Go.Proofs.Ythoedknnchaiaaa
