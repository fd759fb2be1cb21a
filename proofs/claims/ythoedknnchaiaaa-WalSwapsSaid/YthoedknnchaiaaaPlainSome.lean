/-
  Octets of any two lists: it tells something.
-/
import Derived.Test.YthoedknnchaiaaaPlain
namespace Go.Proofs.Ythoedknnchaiaaa
open Go.RowKit
set_option linter.unusedVariables false

theorem octets_some (A B : Option Addr) (n m c d : Nat) (ls ks : List (List Int)) (w : World) (h : Parts w A n ls) (k : Parts w B m ks) :
    Calls Try.prog 26 #[.slice A n c, .slice B m d] w fun e w' => ∃ b q, e = .returned (.bool b) ∧ w' = w.drewN q := by
  by_cases hnm : n = m
  · subst hnm
    obtain rfl : n = ls.length := h.1.symm
    have HA := hide h
    have HB := hide k
    have hb : ls.length ≤ 9223372036854775807 := h.2.1
    clear h k
    go_enter Try.func26, Try.ntmps26
    go_wp2
    go_loopw [5] (fun i wr => ∃ j q : Nat, j ≤ ls.length ∧ i = .int .i64 j ∧ Hid (wr = w.drewN q)) (fun i _ => ls.length - (intOf i).toNat)
    case atStart => exact ⟨0, 0, Nat.zero_le _, rfl, hide rfl⟩
    case round =>
      obtain ⟨j, q, hj, rfl, hq⟩ := hrel
      by_cases hlt : j < ls.length
      · have hpa := HA.out.drewN q
        have hpb := HB.out.drewN q
        rw [← hq.out] at hpa hpb
        obtain ⟨b, o, a, c2, rfl, hca, hra, _⟩ := hpa.at_ hlt
        obtain ⟨b2, o2, a2, d2, rfl, hcb, hrb, _⟩ := hpb.at_ hlt
        have hs1 : ∀ k', (convert 32 9 (.slice a (ls.getD j []).length c2)).run Try.prog (wr.drewN k') = .ok (.string (strOfNums (ls.getD j []))) (wr.drewN k') := fun k' => conv_row (show Row (wr.drewN k') _ _ _ _ _ from hra)
        have hs2 : ∀ k', (convert 32 9 (.slice a2 (ks.getD j []).length d2)).run Try.prog (wr.drewN k') = .ok (.string (strOfNums (ks.getD j []))) (wr.drewN k') := fun k' => conv_row (show Row (wr.drewN k') _ _ _ _ _ from hrb)
        have hjl : (j : Int) < (ls.length : Int) := by omega
        clear hra hrb hpa hpb
        generalize ls.getD j [] = l at *
        generalize ks.getD j [] = l2 at *
        generalize strOfNums l = T at *
        generalize strOfNums l2 = T2 at *
        cases htt : (T.toList == T2.toList) with
        | true =>
          have htp : T.toList = T2.toList := by simpa using htt
          go_wp2_with fail
          go_quiet (fail)
          have HQ := hide (show wr.drewN nq = w.drewN (q + nq) by rw [hq.out, World.drewN_drewN])
          go_wp2
          go_roundw
          case rel => exact ⟨j + 1, q + nq, by omega, by go_num, HQ⟩
          case measure => simp [intOf]; omega
        | false =>
          have htp : ¬ (T.toList = T2.toList) := by simpa using htt
          go_wp2_with fail
          go_quiet (fail)
          have HQ := hide (show wr.drewN nq = w.drewN (q + nq) by rw [hq.out, World.drewN_drewN])
          go_wp2
          go_ret
          exact ⟨false, q + nq, rfl, HQ.out⟩
      · go_wp2
        go_ret
        exact ⟨true, q, rfl, hq.out⟩
  · have hi : ¬ ((n : Int) = (m : Int)) := by omega
    clear h k
    go_enter Try.func26, Try.ntmps26
    go_wp2
    go_ret
    exact ⟨false, 0, rfl, rfl⟩
end Go.Proofs.Ythoedknnchaiaaa
