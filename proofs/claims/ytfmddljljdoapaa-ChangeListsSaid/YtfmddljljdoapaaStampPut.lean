/-
  The reference's Put, Without, Find: one more change, one less, where one stands.
-/
import Derived.Test.YtfmddljljdoapaaStampRef
import Derived.Test.YtfmddljljdoapaaAppK
import Derived.Test.YtfmddljljdoapaaLater
import Derived.Deep.RegionHeld
namespace Go.Proofs.Ytfmddljljdoapaa
open Go.RowKit
set_option linter.unusedVariables false

theorem infoChg : (Try.prog.info? 25).map (fun i => (i.zero, i.size, i.bytes)) = some (some (.agg #[.int .i64 0, .int .i64 0, .int .i64 0, .int .i64 0, .int .i64 0, .int .i64 0, .int .i64 0, .int .i64 0, .int .i64 0]), 9, 72) := by kernel_rfl
theorem front_runC (w : World) (A : Option Addr) (n c k : Nat) (hk : k ≤ c) :
    (Instr.slice 39 (.slice A n c) none (some (.int .i64 (k : Int))) none).run Try.prog w = .ok (.slice A k c) w := by
  have h := run_slice_h (P := Try.prog) (w := w) 39 A n c (by kernel_rfl) .i64 (k : Int) (by omega) (by omega)
  rw [h]
  have hs : (sizeOf (Try.prog.elem 39)).run Try.prog w = .ok 9 w := by kernel_rfl
  rw [hs]
  cases A <;> simp [Result.andThen, sliced, Addr.add]
theorem tail_runC (w : World) (A : Option Addr) (n c i : Nat) (hi : i ≤ n) (hc : n ≤ c) :
    (Instr.slice 39 (.slice A n c) (some (.int .i64 (i : Int))) none none).run Try.prog w = .ok (.slice (if c = i then A else A.map (·.add (i * 9))) (n - i) (c - i)) w := by
  have h := run_slice_l (P := Try.prog) (w := w) 39 A n c (by kernel_rfl) .i64 (i : Int) (by omega) (by omega)
  rw [h]
  have hs : (sizeOf (Try.prog.elem 39)).run Try.prog w = .ok 9 w := by kernel_rfl
  rw [hs]
  simp [Result.andThen, sliced]

/-- A list of changes in memory of its own. -/
def FreshC (w : World) (m : List Chg) (w' : World) (e : Ending) : Prop :=
  ∃ A c, e = .returned (.slice A m.length c) ∧ w'.ownsRow w.heap.size 25 9 (.slice A m.length c) m.length (chgs m) ∧ Below w.heap.size w w'
/-- Behind the last one of the first j that is not above c. -/
def lastAt (c : Chg) (l : List Chg) : Nat → Nat
  | 0 => 0
  | j + 1 => match l[j]? with
    | some x => if lessC c x then lastAt c l j else j + 1
    | none => lastAt c l j
theorem lastAt_le (c : Chg) (l : List Chg) (j : Nat) : lastAt c l j ≤ j := by
  induction j with
  | zero => exact Nat.le_refl _
  | succ j ih =>
    unfold lastAt
    split
    · split <;> omega
    · omega
def putC (l : List Chg) (c : Chg) : List Chg := l.take (lastAt c l l.length) ++ c :: l.drop (lastAt c l l.length)
theorem Since.trans {a b c : World} (h : Since a b) (k : Since b c) : Since a c := Below.trans h (Below.mono k (Below.size h))
theorem own_formK {w : World} {base : Nat} {e : TypeId} {size : Nat} {v : Value} {n : Nat} {xs : List Value} (h : w.ownsRow base e size v n xs) : ∃ A c, v = .slice A n c := by
  rcases h.2 with ⟨rfl, rfl⟩ | ⟨g, cap, cur, rfl, _⟩
  · exact ⟨_, _, rfl⟩
  · exact ⟨_, _, rfl⟩
theorem own_baseK {w : World} {base base' : Nat} {e : TypeId} {size : Nat} {v : Value} {n : Nat} {xs : List Value} (h : w.ownsRow base e size v n xs) (hb : base' ≤ base) : w.ownsRow base' e size v n xs :=
  ⟨h.1, h.2.imp id fun ⟨g, cap, cur, hv, hg, r⟩ => ⟨g, cap, cur, hv, Nat.le_trans hb hg, r⟩⟩
theorem At.later {w1 w' : World} {b o : Nat} {x : Chg} (h : At w1 b o x) (hb : b < w1.heap.size) (hs : Since w1 w') : At w' b o x := h.below hs hb

end Go.Proofs.Ytfmddljljdoapaa
