/-
  Slices of a slice of octets, and what a slice of slices is made of.
-/
import Derived.Test.YthoedknnchaiaaaOctC
import Derived.Test.YthoedknnchaiaaaParts
namespace Go.Proofs.Ythoedknnchaiaaa
open Go.RowKit
set_option linter.unusedVariables false

theorem info24 : (Try.prog.info? 32).map (fun i => (i.zero, i.size, i.bytes)) = some (some (.slice none 0 0), 1, 24) := by kernel_rfl
/-- b[i:], i the capacity too. -/
theorem tail_run (w : World) (A : Option Addr) (n c i : Nat) (hi : i ≤ n) (hc : n ≤ c) :
    (Instr.slice 32 (.slice A n c) (some (.int .i64 (i : Int))) none none).run Try.prog w = .ok (.slice (if c = i then A else A.map (·.add i)) (n - i) (c - i)) w := by
  have h := run_slice_l (P := Try.prog) (w := w) 32 A n c (by kernel_rfl) .i64 (i : Int) (by omega) (by omega)
  rw [h]
  have hs : (sizeOf (Try.prog.elem 32)).run Try.prog w = .ok 1 w := by kernel_rfl
  rw [hs]
  simp [Result.andThen, sliced]
end Go.Proofs.Ythoedknnchaiaaa
