/-
  countermand/countermandplain.Effects: are two lists alike? (Made by wip/tools/rec.py.)
-/
import Derived.Test.YtdlmpdhbehpmpaaDoorEff
namespace Go.Proofs.YtdlmpdhbehpmpaaDoor
open Go.RowKit
set_option linter.unusedVariables false

theorem effs_any (P Q : Nat → Prop) (A B : Option Addr) (n c m d : Nat) (l k : List Eff) (w : World) (h : RowK w P 5 A n c (effs l)) (h2 : RowK w Q 5 B m d (effs k)) :
    Calls Tryd.prog 16 #[.slice A n c, .slice B m d] w fun e w' => e = .returned (.bool (decide (l = k))) ∧ Below w.heap.size w w' := by
  have hn : l.length = n := by have := h.1; rw [effs_len] at this; omega
  have hm : k.length = m := by have := h2.1; rw [effs_len] at this; omega
  have hc := h.2.1
  have hcb := h.2.2.1
  have hd := h2.2.1
  have hdb := h2.2.2.1
  by_cases hnm : n = m
  · subst hnm
    have H := hide h
    have H2 := hide h2
    have HN := hide hn
    have HM := hide hm
    clear h h2 hn hm
    go_enter Tryd.func16, Tryd.ntmps16
    go_wp2
    go_loopw [5] (fun i wr => ∃ j : Nat, j ≤ n ∧ i = .int .i64 j ∧ Hid (l.take j = k.take j) ∧ Hid (Below w.heap.size w wr)) (fun i _ => n - (intOf i).toNat)
    case atStart => exact ⟨0, Nat.zero_le _, rfl, hide (by simp), hide (Below.refl _ _)⟩
    case round =>
      obtain ⟨j, hj, rfl, heq, hbl⟩ := hrel
      by_cases hlt : j < n
      · obtain ⟨b, o, x, rfl, -, hb, hx, hat⟩ := effs_at ((H.out.inb (by omega)).below (by omega) hbl.out (fun _ h _ => h.2)) hlt
        obtain ⟨b2, o2, y, rfl, -, hb2, hy, hat2⟩ := effs_at ((H2.out.inb (by omega)).below (by omega) hbl.out (fun _ h _ => h.2)) hlt
        have hsx : l.take (j + 1) = l.take j ++ [x] := by rw [List.take_add_one, hx]; rfl
        have hsy : k.take (j + 1) = k.take j ++ [y] := by rw [List.take_add_one, hy]; rfl
        obtain ⟨x0, x1, x2, x3, x4⟩ := hat
        obtain ⟨y0, y1, y2, y3, y4⟩ := hat2
        by_cases hxy : x = y
        · subst hxy
          have HT := hide (show l.take (j + 1) = k.take (j + 1) by rw [hsx, hsy, heq.out])
          clear hsx hsy hx hy
          go_wp2_with fail
          go_quiet (fail)
          have HB := hide (below_drewN hbl.out nq)
          generalize wr.drewN nq = w3 at *
          clear x0 x1 x2 x3 x4 y0 y1 y2 y3 y4
          go_wp2
          go_roundw
          case rel => exact ⟨j + 1, by omega, by go_num, HT, HB⟩
          case measure => simp [intOf]; omega
        · have hlk : decide (l = k) = false := decide_eq_false fun e => by
            rw [e, hy] at hx
            injection hx with hx
            exact hxy hx.symm
          have HLK := hide hlk
          have hq : ∀ W, (Op.equalIn 10000 25 (.agg #[.int .i64 x.k, .int .i64 x.a, .int .i64 x.n, .int .i64 x.p, .int .i64 x.q]) (.agg #[.int .i64 y.k, .int .i64 y.a, .int .i64 y.n, .int .i64 y.p, .int .i64 y.q])).run Tryd.prog W = .ok false W := fun W => by
            have := eff_equal x y 9997 W
            rwa [decide_eq_false hxy] at this
          clear hsx hsy hx hy hlk hxy
          go_wp2_with fail
          go_quiet (fail)
          have HB := hide (below_drewN hbl.out nq)
          generalize wr.drewN nq = w3 at *
          clear x0 x1 x2 x3 x4 y0 y1 y2 y3 y4 hq
          go_wp2
          go_ret
          exact ⟨by rw [HLK.out]; rfl, HB.out⟩
      · obtain rfl : j = n := by omega
        have hlk : decide (l = k) = true := decide_eq_true (by
          have := heq.out
          rwa [List.take_of_length_le (by rw [HN.out]; exact Nat.le_refl _), List.take_of_length_le (by rw [HM.out]; exact Nat.le_refl _)] at this)
        have HLK := hide hlk
        clear hlk hlt
        go_wp2
        go_ret
        exact ⟨by rw [HLK.out]; rfl, hbl.out⟩
  · have hlk : decide (l = k) = false := decide_eq_false fun e => hnm (by rw [← hn, ← hm, e])
    have HLK := hide hlk
    have hne : ¬ ((n : Int) = (m : Int)) := by omega
    clear hlk h h2 hn hm
    go_enter Tryd.func16, Tryd.ntmps16
    go_wp2
    go_ret
    exact ⟨by rw [HLK.out]; rfl, Below.refl _ _⟩
end Go.Proofs.YtdlmpdhbehpmpaaDoor
