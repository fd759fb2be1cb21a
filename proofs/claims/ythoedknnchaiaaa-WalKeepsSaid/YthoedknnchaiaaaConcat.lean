/-
  The contracts of the library's Grow (of nothing) and Concat: the octets of some slices, one behind another, in memory of their own.
-/
import Derived.Test.YthoedknnchaiaaaOctPut
import Derived.Test.YthoedknnchaiaaaOctC
import Derived.Test.YthoedknnchaiaaaParts
import Derived.Test.YthoedknnchaiaaaApp
import Derived.Lib.AppendZerosOnto
namespace Go.Proofs.Ythoedknnchaiaaa
open Go.RowKit
set_option linter.unusedVariables false

/-- A slice without an element, in memory of its own or none. -/
def Grown (w w' : World) (e : Ending) : Prop :=
  ∃ A c, e = .returned (.slice A 0 c) ∧ w'.ownsRow w.heap.size 5 1 (.slice A 0 c) 0 [] ∧ Below w.heap.size w w'
theorem grow_any (k : Nat) (w : World) (hk : k ≤ 140737488355328) :
    Calls Try.prog 82 #[.slice none 0 0, .int .i64 (k : Int)] w fun e w' => Grown w w' e := by
  obtain ⟨i5, hi, hz0, hz1, hz2⟩ := info_parts info5
  rcases Nat.eq_zero_or_pos k with rfl | h0
  · go_enter Try.func82, Try.ntmps82
    go_wp2
    go_ret
    exact ⟨none, 0, rfl, ⟨rfl, .inl ⟨rfl, rfl⟩⟩, Below.refl _ _⟩
  · have h1 : ¬ ((k : Int) < 0) := by omega
    have h4 : (0 : Int) < (k : Int) := by omega
    have hs0 : ∀ W, (Instr.slice 32 (.slice none 0 0) none (some (.int .i64 0)) none).run Try.prog W = .ok (.slice none 0 0) W := fun W => by
      have := front_run W none 0 0 0 (by omega)
      simpa using this
    have hrz : ∀ ty, (Builtin.append_ #[32, 3] ty #[.slice none 0 0, .int .i64 (k : Int)]).run Try.prog w =
        .ok (.slice (some ⟨w.heap.size, 0, none⟩) k (grownCap w k 0 5)) (w.drew.alloc (.cells (#[] ++ Builtin.zeroCells (Value.int .u8 0).cells k ++ Builtin.zeroCells (Value.int .u8 0).cells (grownCap w k 0 5 - k)) 5)) := fun ty => by
      have h := Lib.run_append_grow_zeros (P := Try.prog) w 32 3 ty 5 i5 (.int .u8 0) .i64 .i64 Try.underlying32 Try.underlying3 hi hz0 none 0 0 [] (run_firstCells_none w.drew i5.size 0 0 0) k h0 (by rw [hz1]; omega) (by omega) (by omega)
        (by rw [hz2]; omega) (by have := growslice_fits (need := k) (old := 0) (bytes := i5.bytes) (by omega) (by rw [hz2]; omega); simpa using this)
      simpa using h
    have hGn : k ≤ grownCap w k 0 5 := grownCap_ge w _ _ _
    have hG2 := grownCap_le_maxLen w k 0 5 (by unfold maxLen; omega)
    generalize grownCap w k 0 5 = G at *
    unfold maxLen at hG2
    have hs1 : ∀ W, (Instr.slice 32 (.slice (some ⟨w.heap.size, 0, none⟩) k G) none (some (.int .i64 0)) none).run Try.prog W = .ok (.slice (some ⟨w.heap.size, 0, none⟩) 0 G) W := fun W => by
      have := front_run W (some ⟨w.heap.size, 0, none⟩) k G 0 (by omega)
      simpa using this
    have HG := hide hGn
    have HG2 := hide hG2
    clear hGn hG2
    have hsz : (#[] ++ Builtin.zeroCells (Value.int .u8 0).cells k ++ Builtin.zeroCells (Value.int .u8 0).cells (G - k)).size = G := by
      have := HG.out
      simp [Builtin.zeroCells, Value.cells]
      omega
    have HSZ := hide hsz
    clear hsz
    generalize (#[] ++ Builtin.zeroCells (Value.int .u8 0).cells k ++ Builtin.zeroCells (Value.int .u8 0).cells (G - k)) = Z at *
    go_enter Try.func82, Try.ntmps82
    go_wp2_with (at_builtin; refine Lib.wpList_append_run _ rfl _ _ _ _ rfl _ _ rfl rfl _ _ (hrz _) ?_)
    go_ret
    refine ⟨_, G, rfl, ⟨rfl, .inr ⟨w.heap.size, G, Z, rfl, Nat.le_refl _, heap_alloc_new _ _, Nat.zero_le _, HG2.out, by rw [HSZ.out, Nat.mul_one], by simp⟩⟩, ?_⟩
    exact (Below.refl _ w).drew.alloc (Nat.le_refl _) _

theorem flat_take_le (ls : List (List Int)) (j : Nat) : (ls.take j).flatten.length ≤ ls.flatten.length := by
  conv => rhs; rw [← List.take_append_drop j ls, List.flatten_append, List.length_append]
  omega

theorem concat_any (A : Option Addr) (n c : Nat) (ls : List (List Int)) (w : World) (h : Parts w A n ls) (hn : ls.flatten.length ≤ 140737488355000) :
    Calls Try.prog 74 #[.slice A n c] w fun e w' => Fresh w ls.flatten w' e := by
  obtain rfl : n = ls.length := h.1.symm
  obtain ⟨i5, hi, hz0, hz1, hz2⟩ := info_parts info5
  have HP := hide h
  have HN := hide hn
  have hb : ls.length ≤ 9223372036854775807 := h.2.1
  clear h hn
  go_enter Try.func74, Try.ntmps74
  go_wp2
  go_loop [3, 11] (fun v i => ∃ (m j : Nat), j ≤ ls.length ∧ m ≤ 140737488355000 ∧ v = .int .i64 (m : Int) ∧ i = .int .i64 j ∧ Hid (m = (ls.take j).flatten.length)) (fun _ i => ls.length - (intOf i).toNat)
  case atStart => exact ⟨0, 0, Nat.zero_le _, by omega, rfl, rfl, hide (by simp)⟩
  case round =>
    obtain ⟨m, j, hj, hm', rfl, rfl, hmr⟩ := hrel
    by_cases hlt : j < ls.length
    · obtain ⟨b, o, a, c2, rfl, hcell, hrow, hoc⟩ := HP.out.at_ hlt
      have hk : m + (ls.getD j []).length = (ls.take (j + 1)).flatten.length := by
        rw [join_take ls j hlt, List.length_append, ← hmr.out]
      have hk2 : m + (ls.getD j []).length ≤ 140737488355000 := by
        rw [hk]
        exact Nat.le_trans (flat_take_le ls _) HN.out
      have HK := hide hk
      clear hrow hoc hk
      generalize (ls.getD j []).length = q at *
      have h0 : ¬ ((m : Int) + (q : Int) < 0) := by omega
      go_wp2
      go_round
      case rel => exact ⟨m + q, j + 1, by omega, by omega, by go_num, by go_num, HK⟩
      case measure => simp [intOf]; omega
    · obtain rfl : j = ls.length := by omega
      clear hlt
      go_wp2_with fail
      refine (grow_any m _ (by omega)).mono ?_
      rintro e w1 ⟨A1, c1, rfl, hown, hbl⟩
      have HOW := hide hown
      have HB := hide hbl
      clear hown hbl hmr
      go_wp2
      go_loopw [6, 27] (fun v i wr => ∃ (j : Nat), j ≤ ls.length ∧ i = .int .i64 j ∧ Hid (∃ A' c', v = .slice A' (ls.take j).flatten.length c') ∧ Hid (wr.ownsRow w.heap.size 5 1 v (ls.take j).flatten.length (octs (ls.take j).flatten)) ∧ Hid (Below w.heap.size w wr)) (fun _ i _ => ls.length - (intOf i).toNat)
      case atStart => exact ⟨0, Nat.zero_le _, rfl, hide ⟨A1, c1, rfl⟩, HOW, HB⟩
      case round =>
        obtain ⟨j, hj, rfl, hv, how, hbl⟩ := hrel
        obtain ⟨A', c', rfl⟩ := hv.out
        by_cases hlt : j < ls.length
        · obtain ⟨b, o, a, c2, rfl, hcell, hrow, hoc⟩ := (HP.out.below hbl.out).at_ hlt
          have hk : octs (ls.take j).flatten ++ octs (ls.getD j []) = octs (ls.take (j + 1)).flatten := by
            rw [join_take ls j hlt, octs_append]
          have hk1 : (ls.take j).flatten.length + (ls.getD j []).length = (ls.take (j + 1)).flatten.length := by
            rw [join_take ls j hlt, List.length_append]
          have hk2 : (ls.take j).flatten.length + (ls.getD j []).length ≤ 140737488355000 := by
            rw [hk1]
            exact Nat.le_trans (flat_take_le ls _) HN.out
          have HK := hide hk
          have HK1 := hide hk1
          have HK2 := hide hk2
          have HR := hide hrow
          clear hrow hoc hk hk1 hk2 hv HOW HB
          generalize ls.getD j [] = l at *
          generalize (ls.take j).flatten = p at *
          go_wp2_with (at_builtin; refine wpList_append_row _ rfl _ _ 32 rfl w.heap.size 5 i5 (.int .u8 0) 1 Try.underlying32 hi hz0 hz1 hz2 rfl _ p.length _ rfl how.out _ a l.length c2 (octs l) rfl HR.out (octs_one _) ?h1 ?h2 hbl.out.size ?_)
          case h1 => have := HK2.out; unfold maxLen; omega
          case h2 => have := HK2.out; omega
          intro v2 w2 hown hgr _
          obtain ⟨A2, c2', rfl⟩ := own_form hown
          have HB2 := hide (hbl.out.grown hgr hbl.out.size (fun g hg => (how.out.lt g hg).1))
          rw [HK.out] at hown
          have HOW := hide hown
          clear hown hgr
          go_wp2
          go_roundw
          case rel => exact ⟨j + 1, by omega, by go_num, hide ⟨A2, c2', by rw [HK1.out]⟩, hide (by have := HOW.out; rw [HK1.out] at this ⊢; exact this), HB2⟩
          case measure => simp [intOf]; omega
        · obtain rfl : j = ls.length := by omega
          clear hlt
          have how := how.out
          rw [List.take_length] at how ⊢
          have HOW := hide how
          clear how hv
          go_wp2
          go_ret
          exact ⟨A', c', rfl, HOW.out, hbl.out⟩
end Go.Proofs.Ythoedknnchaiaaa
