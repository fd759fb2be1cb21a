/-
  The statements' own alive of stage 3.
-/
import Derived.Test.YtimohlnghcbanaaCrcB
import Derived.Test.YtimohlnghcbanaaApp
import Derived.Lib.SlBytesConst
namespace Go.Proofs.Ytimohlnghcbanaa
open Go.RowKit
set_option linter.unusedVariables false

/-- The cells of "123456789". -/
def nine : Array Value := #[.int .u8 49, .int .u8 50, .int .u8 51, .int .u8 52, .int .u8 53, .int .u8 54, .int .u8 55, .int .u8 56, .int .u8 57]
theorem nine_row (w : World) (t : TypeId) : Row (w.alloc (.cells nine t (9, 10))) (fun _ => True) (some ⟨w.heap.size, 0, none⟩) 9 9 (octs [49, 50, 51, 52, 53, 54, 55, 56, 57]) := by
  refine ⟨rfl, by omega, by omega, .inr ⟨w.heap.size, 0, rfl, trivial, fun j hj => ?_⟩⟩
  rw [Nat.zero_add, cell_of_row _ w.heap.size j nine t (9, 10) (heap_alloc_new w _)]
  rcases j with _ | _ | _ | _ | _ | _ | _ | _ | _ | j <;> first | rfl | omega

theorem sum_nil (w : World) :
    Calls Try.prog 9 #[.slice none 0 0] w fun e w' => e = .returned (.int .u32 0) ∧ w = w' := by
  refine (sum_any none 0 0 [] w (Parts.nil _ _)).mono ?_
  rintro e w' ⟨rfl, h⟩
  rw [List.flatten_nil, crc_nil]
  exact ⟨rfl, h⟩
theorem put_nil (w : World) :
    Calls Try.prog 11 #[.slice none 0 0] w fun e w' => Fresh w (inOcts 0 4) w' e :=
  (put_any (fun _ => True) none 0 0 [] 0 w crc_nil.symm (Row.nil _ _ none) (fun n hn => by cases hn) (by omega)).mono fun e w' h => h
/-- The world in which "123456789" lies, and a slice that holds it. -/
def nineWorld (w : World) : World := (w.alloc (.cells nine 5 (9, 10))).alloc (.cells #[.slice (some ⟨w.heap.size, 0, none⟩) 9 9] 24)
theorem nine_parts (w : World) : Parts (nineWorld w) (some ⟨w.heap.size + 1, 0, none⟩) 1 [[49, 50, 51, 52, 53, 54, 55, 56, 57]] := by
  have h := parts_one (nine_row w 5) (by intro n hn; simp at hn; omega) 24
  rw [show (w.alloc (.cells nine 5 (9, 10))).heap.size = w.heap.size + 1 by simp] at h
  exact h
theorem nine_below (w : World) : Below w.heap.size w (nineWorld w) := ((Below.refl w.heap.size w).alloc (Nat.le_refl _) _).alloc (by simp) _
theorem sum_nine (w : World) :
    Calls Try.prog 9 #[.slice (some ⟨w.heap.size + 1, 0, none⟩) 1 1] (nineWorld w) fun e w' => e = .returned (.int .u32 3421780262) ∧ nineWorld w = w' := by
  refine (sum_any _ _ 1 _ _ (nine_parts w)).mono ?_
  rintro e w' ⟨rfl, h⟩
  rw [List.flatten_singleton, crc_nine]
  exact ⟨rfl, h⟩

/-- The statements' own 'alive' is true. -/
theorem alive03 (w : World) :
    Calls Try.prog 6 #[] w fun e w' => e = .returned (.bool true) ∧ Below w.heap.size w w' := by
  have kc : ∀ w : World, (convert 24 24 (.slice (some ⟨w.heap.size, 0, none⟩) 9 9)).run Try.prog (w.alloc (.cells nine 5)) = .ok (.slice (some ⟨w.heap.size, 0, none⟩) 9 9) (w.alloc (.cells nine 5 (9, 10))) :=
    fun w => Lib.run_convert_bytes_const (P := Try.prog) w 24 5 nine 9 9 Try.underlying24 Try.underlying5
  have HS := hide (sum_nine w)
  have HB2 := hide (nine_below w)
  unfold nineWorld nine at HS HB2
  unfold nine at kc
  go_enter Try.func6, Try.ntmps6
  go_wp2_with fail
  refine HS.out.mono ?_
  clear HS
  rintro e w' ⟨rfl, rfl⟩
  generalize (w.alloc (.cells #[.int .u8 49, .int .u8 50, .int .u8 51, .int .u8 52, .int .u8 53, .int .u8 54, .int .u8 55, .int .u8 56, .int .u8 57] 5 (9, 10))).alloc (.cells #[.slice (some ⟨w.heap.size, 0, none⟩) 9 9] 24) = w2 at *
  go_wp2_with fail
  refine (sum_nil _).mono ?_
  rintro e w' ⟨rfl, rfl⟩
  go_wp2_with fail
  refine (put_nil _).mono ?_
  rintro e w3 ⟨A', c', rfl, hown, hb⟩
  have HB3 := hide (HB2.out.trans (hb.mono HB2.out.size))
  rw [inOcts_len]
  clear hown hb
  go_wp2
  go_ret
  exact ⟨rfl, HB3.out⟩
end Go.Proofs.Ytimohlnghcbanaa
