/-
  The contract of the reference's Put: the same octets as octet.Put's.
-/
import Derived.Test.YthoedknnchaiaaaOctPut
import Derived.Test.YthoedknnchaiaaaApp
namespace Go.Proofs.Ythoedknnchaiaaa
open Go.RowKit
set_option linter.unusedVariables false

theorem ediv_more (x : Int) (k : Nat) : x / 256 ^ k / 256 = x / 256 ^ (k + 1) := by
  rw [Int.ediv_ediv_of_nonneg (Int.le_of_lt (Int.pow_pos (by omega))), Int.pow_succ]

set_option maxRecDepth 100000 in
theorem refput_yes (P : Nat → Prop) (A : Option Addr) (n c : Nat) (l : List Int) (x : Int) (k : Nat) (w : World) (h : Row w P A n c (octs l)) (ho : Octs l) (hn : n ≤ 140737488355000) (hx0 : 0 ≤ x) (hx1 : x ≤ 18446744073709551615) (h1 : 1 ≤ k) (h8 : k ≤ 8) :
    Calls Try.prog 70 #[.slice A n c, .int .u64 x, .int .i64 k] w fun e w' => Fresh w (l ++ inOcts x k) w' e := by
  obtain rfl : n = l.length := by rw [← h.1, octs_len]
  obtain ⟨i5, hi, hz0, hz1, hz2⟩ := info_parts info5
  have HR := hide h
  have hown0 : w.ownsRow w.heap.size 5 1 (.slice none 0 0) 0 [] := ⟨rfl, .inl ⟨rfl, rfl⟩⟩
  have HO0 := hide hown0
  clear h hown0
  go_enter Try.func70, Try.ntmps70
  go_wp2_with (at_builtin; refine wpList_append_row w rfl _ _ 32 rfl w.heap.size 5 i5 (.int .u8 0) 1 Try.underlying32 hi hz0 hz1 hz2 rfl _ 0 [] rfl HO0.out P A l.length c (octs l) rfl HR.out (octs_one l) ?h1 ?h2 (Nat.le_refl _) ?_)
  case h1 => unfold maxLen; omega
  case h2 => omega
  intro v1 w1 hown1 hgr1 hat1
  have HOW := hide (show w1.ownsRow w.heap.size 5 1 v1 l.length (octs l) by simpa using hown1)
  have HB := hide (show Below w.heap.size w w1 from (Below.refl _ w).grown hgr1 (Nat.le_refl _) (fun g hg => by cases hg))
  have HF := hide (own_form hown1)
  clear hown1 hgr1 hat1
  go_wp2
  go_loopw [7, 8] (fun v i wr => ∃ (j : Nat) (q : Int), j ≤ k ∧ -1 ≤ q ∧ q ≤ 7 ∧ i = .int .i64 q ∧ Hid (q = (k : Int) - 1 - j) ∧ Hid (∃ A' c', v = .slice A' (l.length + j) c') ∧ Hid (wr.ownsRow w.heap.size 5 1 v (l.length + j) (octs (l ++ (inOcts x k).take j))) ∧ Hid (Below w.heap.size w wr)) (fun _ i _ => (intOf i + 1).toNat)
  case atStart => exact ⟨0, (k : Int) - 1, by omega, by omega, by omega, rfl, hide (by omega), hide (by simpa using HF.out), hide (by simpa using HOW.out), HB⟩
  case round =>
    obtain ⟨j, q, hj, hq0, hq1, rfl, hq, hv, how, hbl⟩ := hrel
    clear HOW HB HF
    obtain ⟨A', c', rfl⟩ := hv.out
    by_cases h0 : 0 ≤ q
    · obtain ⟨p, rfl⟩ := Int.eq_ofNat_of_zero_le h0
      have hjk : j < k := by have := hq.out; omega
      have hc1 : l.length + j + 1 ≤ maxLen := by unfold maxLen; omega
      have HC1 := hide hc1
      clear hc1
      go_wp2
      go_loop [9, 10] (fun v i => ∃ (m : Int) (s : Nat), s ≤ p ∧ 0 ≤ m ∧ m ≤ 18446744073709551615 ∧ v = .int .u64 m ∧ i = .int .i64 s ∧ Hid (m = x / 256 ^ s)) (fun _ i => p - (intOf i).toNat)
      case atStart => exact ⟨x, 0, Nat.zero_le _, hx0, hx1, rfl, rfl, hide (by simp)⟩
      case round =>
        obtain ⟨m, s, hs, hm0, hm1, rfl, rfl, hms⟩ := hrel
        by_cases hsp : s < p
        · go_wp2
          go_round
          case rel => exact ⟨m / 256, s + 1, by omega, by omega, by omega, by go_num, by go_num, hide (by rw [hms.out, ediv_more])⟩
          case measure => simp [intOf]; omega
        · obtain rfl : s = p := by omega
          go_wp2_with (at_builtin; refine wpList_append_own_at _ rfl _ _ 32 rfl w.heap.size 5 i5 (.int .u8 0) 1 1 Try.underlying32 hi hz0 hz1 hz2 rfl (by decide) _ (l.length + j) _ rfl (how.out.alloc _) ⟨wr.heap.size, 0, none⟩ 1 1 [.int .u8 (m % 256)] rfl rfl (cell_one_new _ _ _) (by simp [Value.oneCell']) HC1.out ?c2 ?c3 ?_)
          case c2 => omega
          case c3 => have := hbl.out.size; simp; omega
          intro v' w2 hown' hgrow _ hat
          have HO := hide hown'
          have hcl : (octs (l ++ (inOcts x k).take j)) ++ [.int .u8 (m % 256)] = octs (l ++ (inOcts x k).take (j + 1)) := by
            have e : s = k - 1 - j := by have := hq.out; omega
            rw [inOcts_take _ _ _ hjk, ← List.append_assoc, octs_append' _ _, ← e, hms.out]
          have HCL := hide hcl
          have HV := hide (own_form hown')
          have HB := hide (((hbl.out.alloc hbl.out.size _).grown hgrow (by have := hbl.out.size; simp; omega) (fun g hg => (how.out.lt g hg).1)))
          have HQ := hide (show (s : Int) - 1 = (k : Int) - 1 - ((j + 1 : Nat) : Int) by have := hq.out; omega)
          clear hown' hgrow hat hcl
          go_wp2
          go_roundw
          case rel => exact ⟨j + 1, (s : Int) - 1, by omega, by omega, by omega, rfl, HQ, HV, by have := HO.out; rw [HCL.out] at this; exact this, HB⟩
          case measure => simp [intOf]
    · have e : j = k := by have := hq.out; omega
      subst e
      go_wp2
      go_ret
      refine ⟨A', c', ?_, ?_, hbl.out⟩
      · rw [List.length_append, inOcts_len]; rfl
      · have := how.out
        rw [List.take_of_length_le (by rw [inOcts_len]; exact Nat.le_refl _)] at this
        rw [List.length_append, inOcts_len]
        exact this
end Go.Proofs.Ythoedknnchaiaaa
