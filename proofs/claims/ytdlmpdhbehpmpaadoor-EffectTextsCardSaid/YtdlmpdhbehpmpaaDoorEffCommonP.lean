/-
  The program's contracts of layer 10: Common.
-/
import Derived.Test.YtdlmpdhbehpmpaaDoorEffM
import Derived.BigQuiet
namespace Go.Proofs.YtdlmpdhbehpmpaaDoor
open Go.RowKit
set_option linter.unusedVariables false

theorem commonE_go {l k : List Eff} {j : Nat} {x : Eff} (hj : j ≤ commonE l k) (hx : l[j]? = some x) (hy : k[j]? = some x) : j + 1 ≤ commonE l k := by
  rcases Nat.lt_or_eq_of_le hj with h | h
  · exact h
  · exact absurd rfl (commonE_stop l k x x (by rw [← h]; exact hx) (by rw [← h]; exact hy))
theorem commonE_end {l k : List Eff} {j : Nat} {x y : Eff} (hj : j ≤ commonE l k) (hx : l[j]? = some x) (hy : k[j]? = some y) (hne : x ≠ y) : commonE l k = j := by
  rcases Nat.lt_or_eq_of_le hj with h | h
  · exfalso
    have e := congrArg (fun t => t[j]?) (commonE_take l k)
    simp only [List.getElem?_take, h, if_true] at e
    rw [hx, hy] at e
    injection e with e
    exact hne e
  · exact h.symm

theorem ecommon_any (P Q : Nat → Prop) (A B : Option Addr) (n c m d : Nat) (l k : List Eff) (w : World) (h : RowK w P 5 A n c (effs l)) (h2 : RowK w Q 5 B m d (effs k)) : Calls Tryd.prog 15 #[.slice A n c, .slice B m d] w fun e w' => e = .returned (.int .i64 (commonE l k : Nat)) ∧ Below w.heap.size w w' := by
  have hn : l.length = n := by have := h.1; rw [effs_len] at this; omega
  have hm : k.length = m := by have := h2.1; rw [effs_len] at this; omega
  have hc := h.2.1
  have hcb := h.2.2.1
  have hd := h2.2.1
  have hdb := h2.2.2.1
  have H := hide h
  have H2 := hide h2
  have HLE := hide (commonE_le l k)
  rw [hn, hm] at HLE
  clear h h2 hn hm
  go_enter Tryd.func15, Tryd.ntmps15
  go_wp2
  go_loopw [5] (fun i wr => ∃ j : Nat, j ≤ commonE l k ∧ i = .int .i64 j ∧ Hid (Below w.heap.size w wr)) (fun i _ => n - (intOf i).toNat)
  case atStart => exact ⟨0, Nat.zero_le _, rfl, hide (Below.refl _ _)⟩
  case round =>
    obtain ⟨j, hj, rfl, hbl⟩ := hrel
    have hle := HLE.out
    by_cases hlt : j < n
    · by_cases hlt2 : j < m
      · obtain ⟨b, o, x, rfl, -, hb, hx, hat⟩ := effs_at ((H.out.inb (by omega)).below (by omega) hbl.out (fun _ h _ => h.2)) hlt
        obtain ⟨b2, o2, y, rfl, -, hb2, hy, hat2⟩ := effs_at ((H2.out.inb (by omega)).below (by omega) hbl.out (fun _ h _ => h.2)) hlt2
        obtain ⟨x0, x1, x2, x3, x4⟩ := hat
        obtain ⟨y0, y1, y2, y3, y4⟩ := hat2
        by_cases hxy : x = y
        · subst hxy
          have HG := hide (commonE_go hj hx hy)
          clear hx hy hle hj
          go_wp2_with fail
          go_quiet (fail)
          have HB := hide (below_drewN hbl.out nq)
          generalize wr.drewN nq = w3 at *
          clear x0 x1 x2 x3 x4 y0 y1 y2 y3 y4
          go_wp2
          go_roundw
          case rel => exact ⟨j + 1, HG.out, by go_num, HB⟩
          case measure => simp [intOf]; omega
        · have HE := hide (commonE_end hj hx hy hxy)
          have hq : ∀ W, (Op.equalIn 10000 25 (.agg #[.int .i64 x.k, .int .i64 x.a, .int .i64 x.n, .int .i64 x.p, .int .i64 x.q]) (.agg #[.int .i64 y.k, .int .i64 y.a, .int .i64 y.n, .int .i64 y.p, .int .i64 y.q])).run Tryd.prog W = .ok false W := fun W => by
            have := eff_equal x y 9997 W
            rwa [decide_eq_false hxy] at this
          clear hx hy hle hj hxy
          go_wp2_with fail
          go_quiet (fail)
          have HB := hide (below_drewN hbl.out nq)
          generalize wr.drewN nq = w3 at *
          clear x0 x1 x2 x3 x4 y0 y1 y2 y3 y4 hq
          go_wp2
          go_ret
          exact ⟨by rw [HE.out]; rfl, HB.out⟩
      · have HE := hide (show commonE l k = j by omega)
        have hd : decide ((j : Int) < (m : Int)) = false := decide_eq_false (by omega)
        clear hle hj
        go_wp2_with fail
        go_quiet (fail)
        have HB := hide (below_drewN hbl.out nq)
        generalize wr.drewN nq = w3 at *
        go_wp2
        go_ret
        exact ⟨by rw [HE.out]; rfl, HB.out⟩
    · have HE := hide (show commonE l k = j by omega)
      have hd : decide ((j : Int) < (n : Int)) = false := decide_eq_false (by omega)
      clear hle hj
      go_wp2_with fail
      go_quiet (fail)
      have HB := hide (below_drewN hbl.out nq)
      generalize wr.drewN nq = w3 at *
      go_wp2
      go_ret
      exact ⟨by rw [HE.out]; rfl, HB.out⟩
end Go.Proofs.YtdlmpdhbehpmpaaDoor
