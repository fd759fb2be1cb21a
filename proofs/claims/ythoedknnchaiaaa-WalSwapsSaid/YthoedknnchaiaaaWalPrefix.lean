/-
  Is a list of records the front of another one, and long enough?
-/
import Derived.Test.YthoedknnchaiaaaPlain
import Derived.Test.YthoedknnchaiaaaParts
import Derived.Lib.SliceRun
namespace Go.Proofs.Ythoedknnchaiaaa
open Go.RowKit
set_option linter.unusedVariables false

theorem Parts.front {w : World} {A : Option Addr} {n : Nat} {ls : List (List Int)} (h : Parts w A n ls) {k : Nat} (hk : k ≤ n) : Parts w A k (ls.take k) := by
  refine ⟨by rw [List.length_take, h.1]; omega, by have := h.2.1; omega, ?_⟩
  rcases Nat.eq_zero_or_pos k with h0 | h0
  · exact .inl h0
  · rcases h.2.2 with h1 | ⟨b, o, e, hc⟩
    · omega
    · refine .inr ⟨b, o, e, fun i hi => ?_⟩
      have hg : (ls.take k).getD i [] = ls.getD i [] := by
        rw [List.getD_eq_getElem?_getD, List.getD_eq_getElem?_getD, List.getElem?_take, if_pos hi]
      rw [hg]
      exact hc i (by omega)
theorem front_parts (w : World) (A : Option Addr) (n c k : Nat) (hk : k ≤ c) :
    (Instr.slice 37 (.slice A n c) none (some (.int .i64 (k : Int))) none).run Try.prog w = .ok (.slice A k c) w := by
  have h := run_slice_h (P := Try.prog) (w := w) 37 A n c (by kernel_rfl) .i64 (k : Int) (by omega) (by omega)
  rw [h]
  have hs : (sizeOf (Try.prog.elem 37)).run Try.prog w = .ok 1 w := by kernel_rfl
  rw [hs]
  cases A <;> simp [Result.andThen, sliced, Addr.add_zero']
theorem prefix_any (A B : Option Addr) (j n ca cb dur : Nat) (ls : List (List Int)) (w : World) (ha : Parts w A j (ls.take j)) (hb : Parts w B n ls) (h1 : dur ≤ j) (h2 : j ≤ n) (hn : n ≤ cb) :
    Calls Try.prog 24 #[.slice A j ca, .slice B n cb, .int .i64 (dur : Int)] w fun e w' => e = .returned (.bool true) ∧ ∃ q, w' = w.drewN q := by
  have hf := hb.front h2
  have hs := fun W => front_parts W B n cb j (by omega)
  have HP := hide (octets_same A B j ca cb (ls.take j) w ha hf)
  have hb1 : (dur : Int) ≤ (j : Int) := by omega
  have hb2 : (j : Int) ≤ (n : Int) := by omega
  clear ha hb hf
  go_enter Try.func24, Try.ntmps24
  go_wp2_with fail
  refine HP.out.mono ?_
  rintro e w' ⟨rfl, q, rfl⟩
  go_wp2
  go_ret
  exact ⟨rfl, q, rfl⟩
end Go.Proofs.Ythoedknnchaiaaa
