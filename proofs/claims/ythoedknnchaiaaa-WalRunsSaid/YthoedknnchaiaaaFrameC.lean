/-
  What the calls of package frame come to, in words of lists.
-/
import Derived.Test.YthoedknnchaiaaaFrameRef
namespace Go.Proofs.Ythoedknnchaiaaa
open Go.RowKit
set_option linter.unusedVariables false

def fsize (n : Int) : Int := if 1 ≤ n ∧ n ≤ 4096 then n + 7 else 0
/-- What Put answers. -/
def FPut (w : World) (l : List Int) (w' : World) (e : Ending) : Prop :=
  (l.length = 0 → e = .returned (.tuple #[.slice none 0 0, .int .i64 4])) ∧ (4096 < l.length → e = .returned (.tuple #[.slice none 0 0, .int .i64 5])) ∧
  (1 ≤ l.length → l.length ≤ 4096 → ∃ A c, e = .returned (.tuple #[.slice A (l.length + 7) c, .int .i64 0]) ∧ w'.ownsRow w.heap.size 5 1 (.slice A (l.length + 7) c) (l.length + 7) (octs (frameOf l))) ∧ Below w.heap.size w w'
/-- What Get answers. -/
def FGot (w : World) (l : List Int) (w' : World) (e : Ending) : Prop :=
  (front l = 0 → e = .returned (.tuple #[.slice none 0 0, .int .i64 0, .bool false])) ∧
  (front l ≠ 0 → ∃ A c, e = .returned (.tuple #[.slice A (front l) c, .int .i64 ((front l : Int) + 7), .bool true]) ∧ w'.ownsRow w.heap.size 5 1 (.slice A (front l) c) (front l) (octs ((l.drop 2).take (front l)))) ∧ Below w.heap.size w w'

theorem frames_two {x : List Int} (h1 : 1 ≤ x.length) (h2 : x.length ≤ 4096) : frames (frameOf x ++ frameOf x) = ([x, x], x.length + 7 + (x.length + 7)) := by
  have f1 := front_frame (frameOf x) h1 h2
  have f2 := front_frame [] h1 h2
  have b2 := frameOf_body x []
  rw [List.append_nil] at f2 b2
  rw [frames_step (by rw [f1]; omega), f1, frameOf_body, List.drop_left' (frameOf_len x), frames_step (by rw [f2]; omega), f2, b2, List.drop_of_length_le (by rw [frameOf_len]; exact Nat.le_refl _), frames_stop front_nil]
  rfl
end Go.Proofs.Ythoedknnchaiaaa
