/-
  Contracts of package octet's small functions: a Reader that is good, one that is bad, and none.
-/
import Derived.Test.YtkdnplaoondlbaaDoorMem
import Derived.Lib.SliceRun
import Derived.Handy
namespace Go.Proofs.YtkdnplaoondlbaaDoor
open Go.RowKit
set_option linter.unusedVariables false

theorem in_yes (n lo hi : Int) (w : World) (h1 : lo ≤ n) (h2 : n ≤ hi) :
    Calls Tryd.prog 29 #[.int .i64 n, .int .i64 lo, .int .i64 hi] w fun e w' => e = .returned (.bool true) ∧ w = w' := by
  go_enter Tryd.func29, Tryd.ntmps29
  go_wp2
  go_ret
  exact ⟨rfl, rfl⟩
theorem in_no (n lo hi : Int) (w : World) (h : n < lo ∨ hi < n) :
    Calls Tryd.prog 29 #[.int .i64 n, .int .i64 lo, .int .i64 hi] w fun e w' => e = .returned (.bool false) ∧ w = w' := by
  rcases h with h | h
  · have h' : ¬ (lo ≤ n) := by omega
    go_enter Tryd.func29, Tryd.ntmps29
    go_wp2
    go_ret
    exact ⟨rfl, rfl⟩
  · have h' : ¬ (n ≤ hi) := by omega
    by_cases h1 : lo ≤ n
    · go_enter Tryd.func29, Tryd.ntmps29
      go_wp2
      go_ret
      exact ⟨rfl, rfl⟩
    · go_enter Tryd.func29, Tryd.ntmps29
      go_wp2
      go_ret
      exact ⟨rfl, rfl⟩
theorem info5 : (Tryd.prog.info? 5).map (fun i => (i.zero, i.size, i.bytes)) = some (some (.int .u8 0), 1, 1) := by kernel_rfl

theorem Row.of_own {w : World} {base : Nat} {e : TypeId} {A : Option Addr} {n c : Nat} {xs : List Value} (h : w.ownsRow base e 1 (.slice A n c) n xs) : Row w (fun b => base ≤ b) A n c xs := by
  obtain ⟨h1, h2⟩ := h
  rcases h2 with ⟨h2, rfl⟩ | ⟨g, cap, cur, hv, hb, hg, hn, hc, hs, ht⟩
  · injection h2 with h3 h4 h5
    subst h3 h5
    exact ⟨by omega, by omega, by omega, .inl rfl⟩
  · injection hv with h3 h4 h5
    subst h3 h5
    unfold maxLen at hc
    refine ⟨by omega, hn, hc, .inr ⟨g, 0, rfl, hb, fun j hj => ?_⟩⟩
    rw [cell_of_row w g _ cur e (0, 0) hg, ← ht, List.getElem?_take, if_pos (by omega)]
    simp

end Go.Proofs.YtkdnplaoondlbaaDoor
