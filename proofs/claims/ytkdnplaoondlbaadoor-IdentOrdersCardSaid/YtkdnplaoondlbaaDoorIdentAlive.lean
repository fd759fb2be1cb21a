/-
  The statements' own alive of stage 6.
-/
import Derived.Test.YtkdnplaoondlbaaDoorIdentP
import Derived.Lib.SlicesS
namespace Go.Proofs.YtkdnplaoondlbaaDoor
open Go.RowKit
set_option linter.unusedVariables false

theorem text_21 : textId 2 1 = [50, 46, 49] := by
  unfold textId
  rw [show Lib.itoa 2 = [50] by rw [Lib.itoa, if_neg (by omega)]; exact Lib.decDigits_one (by decide), show Lib.itoa 1 = [49] by rw [Lib.itoa, if_neg (by omega)]; exact Lib.decDigits_one (by decide)]
  rfl
theorem textkey_213 : textKey 2 1 3 true = [50, 46, 49, 47, 51, 45] := by
  unfold textKey
  rw [text_21, show Lib.itoa 3 = [51] by rw [Lib.itoa, if_neg (by omega)]; exact Lib.decDigits_one (by decide)]
  rfl

/-- The two cells of an Id's block. -/
theorem Blk.two {w : World} {g : Nat} {t : TypeId} {a b : Value} (h : Blk w g t #[a, b]) : w.cell? ⟨g, 0, none⟩ = some a ∧ w.cell? ⟨g, 1, none⟩ = some b := ⟨(h.cell 0).trans rfl, (h.cell 1).trans rfl⟩

theorem alive06 (w : World) (hg : Good w) :
    Calls Tryd.prog 6 #[] w fun e w' => e = .returned (.bool true) ∧ Below w.heap.size w w' := by
  have hid : idText mayId [50, 46, 49] = some (2, 1) := idText_some (by decide) text_21
  have HID := hide hid
  have HTK := hide textkey_213
  have hm : mayId 2 1 = true := by decide
  have hstr : (txt [50, 46, 49, 47, 51, 45]).toList = [50, 46, 49, 47, 51, 45] := by rw [ByteArray.toList_eq]; rfl
  have hfield : ∀ W : World, (Instr.field 25 (.agg #[.int .i64 2, .int .i64 1, .int .i64 3, .bool true]) 2).run Tryd.prog W = .ok (.bool true) W := fun W => by kernel_rfl
  have hl : lessId 2 1 0 2 = true := by decide
  clear hid
  have HG := hide hg.later
  clear hg
  go_enter Tryd.func6, Tryd.ntmps6
  go_wp2_with fail
  refine (pparse_any [50, 46, 49] _ (HG.out _ (((Below.refl w.heap.size w).alloc (Nat.le_refl _) (.cells #[.int .i64 2, .int .i64 1] 23)).alloc (by simp) (.cells #[.int .i64 0, .int .i64 2] 23))) (by decide)).mono ?_
  rintro e w1 hp
  obtain ⟨he, hb⟩ := hp.some HID.out
  subst he
  have hW : ((w.alloc (.cells #[.int .i64 2, .int .i64 1] 23)).alloc (.cells #[.int .i64 0, .int .i64 2] 23)).heap.size = w.heap.size + 2 := by simp
  have hA : Blk w1 w.heap.size 23 #[.int .i64 2, .int .i64 1] := ((Blk.new w _ _).alloc _).below hb (by rw [hW]; omega)
  have hB : Blk w1 (w.heap.size + 1) 23 #[.int .i64 0, .int .i64 2] := by
    have h := Blk.new (w.alloc (.cells #[.int .i64 2, .int .i64 1] 23)) 23 #[.int .i64 0, .int .i64 2]
    rw [show (w.alloc (.cells #[.int .i64 2, .int .i64 1] 23)).heap.size = w.heap.size + 1 by simp] at h
    exact h.below hb (by rw [hW]; omega)
  have HB := hide ((((Below.refl w.heap.size w).alloc (Nat.le_refl _) (.cells #[.int .i64 2, .int .i64 1] 23)).alloc (by simp) (.cells #[.int .i64 0, .int .i64 2] 23)).trans (hb.mono (by rw [hW]; omega)))
  clear hb hp hW
  unfold idOf
  have HA := hide (hA.alloc (.cells #[.int .i64 2, .int .i64 1] 23))
  have HBB := hide (hB.alloc (.cells #[.int .i64 2, .int .i64 1] 23))
  have HC := hide (Blk.new w1 23 #[.int .i64 2, .int .i64 1])
  have HB := hide (HB.out.alloc HB.out.size (.cells #[.int .i64 2, .int .i64 1] 23))
  obtain ⟨a0, a1⟩ := HA.out.two
  obtain ⟨b0, b1⟩ := HBB.out.two
  have hg1 : w.heap.size < w1.heap.size := hA.lt
  have hg2 : w.heap.size + 1 < w1.heap.size := hB.lt
  clear hA hB
  go_wp2_with fail
  refine (pmay_any 2 1 _).mono ?_
  rintro e w2 ⟨rfl, hb⟩
  rw [hm]
  have HA2 := HA.out.below hb (by simp; omega)
  have HB2 := HBB.out.below hb (by simp; omega)
  have HC2 := HC.out.below hb (by simp)
  have HBL2 := hide (HB.out.trans (hb.mono HB.out.size))
  clear hb a0 a1 b0 b1 HA HBB HC HB hg1 hg2
  obtain ⟨a0, a1⟩ := HA2.two
  obtain ⟨b0, b1⟩ := HB2.two
  have A2 := hide HA2
  have B2 := hide HB2
  have C2 := hide HC2
  clear HA2 HB2 HC2
  go_wp2_with fail
  refine (pless_any 2 1 0 2 _).mono ?_
  rintro e w3 ⟨rfl, hb⟩
  rw [hl]
  have A3 := A2.out.below hb A2.out.lt
  have C3 := C2.out.below hb C2.out.lt
  have HBL3 := hide (HBL2.out.trans (hb.mono HBL2.out.size))
  clear hb a0 a1 b0 b1 A2 B2 C2
  obtain ⟨a0, a1⟩ := A3.two
  obtain ⟨c0, c1⟩ := C3.two
  have A3 := hide A3
  go_wp2_with fail
  refine (ptextkey_any 2 1 3 true _ (HG.out _ HBL3.out) (by omega) (by omega) (by omega) (by omega) (by omega) (by omega)).mono ?_
  rintro e w4 ⟨rfl, hb⟩
  rw [HTK.out]
  have A4 := A3.out.below hb A3.out.lt
  have HBL4 := hide (HBL3.out.trans (hb.mono HBL3.out.size))
  clear hb a0 a1 c0 c1 A3 C3
  obtain ⟨a0, a1⟩ := A4.two
  clear A4
  go_wp2_with fail
  refine (pother_any 2 1 3 false _).mono ?_
  rintro e w5 ⟨rfl, hb⟩
  unfold keyOf
  have HBL5 := hide (HBL4.out.trans (hb.mono HBL4.out.size))
  go_wp2
  go_ret
  exact ⟨rfl, HBL5.out⟩
end Go.Proofs.YtkdnplaoondlbaaDoor
