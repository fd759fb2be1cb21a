/-
  The statements' alive of layer 8: it is true; arrays of four compared.
-/
import Derived.Test.YtakjlcnojgboeaaVectorP
namespace Go.Proofs.Ytakjlcnojgboeaa
open Go.RowKit
set_option linter.unusedVariables false


def vc1 : Chg := ⟨1, 2, 0, 0, 0, 0, 0, 0, 0⟩
def vc2 : Chg := ⟨1, 1, 0, 0, 0, 0, 0, 0, 0⟩
theorem ok_vc : ∀ x ∈ [vc1, vc2], x.ok := by
  intro x hx
  simp only [List.mem_cons, List.not_mem_nil, or_false] at hx
  rcases hx with rfl | rfl <;> simp [Chg.ok, I64, vc1, vc2]
set_option maxHeartbeats 1000000 in
theorem alive08 (w : World) : Calls Try.prog 5 #[] w fun e w' => e = .returned (.bool true) ∧ Below w.heap.size w w' := by
  have HR := hide (rowK_new w [vc1, vc2] #[.int .i64 1, .int .i64 2, .int .i64 0, .int .i64 0, .int .i64 0, .int .i64 0, .int .i64 0, .int .i64 0, .int .i64 0, .int .i64 1, .int .i64 1, .int .i64 0, .int .i64 0, .int .i64 0, .int .i64 0, .int .i64 0, .int .i64 0, .int .i64 0] 2 34 rfl rfl (by omega))
  have HB0 := hide ((Below.refl w.heap.size w).alloc (Nat.le_refl _) (.cells #[.int .i64 1, .int .i64 2, .int .i64 0, .int .i64 0, .int .i64 0, .int .i64 0, .int .i64 0, .int .i64 0, .int .i64 0, .int .i64 1, .int .i64 1, .int .i64 0, .int .i64 0, .int .i64 0, .int .i64 0, .int .i64 0, .int .i64 0, .int .i64 0] 34))
  have E := hide (show (ofV [vc1, vc2]).val = .agg #[.int .i64 0, .int .i64 2, .int .i64 0, .int .i64 0] from rfl)
  have h1 : hasV ⟨0, 2, 0, 0⟩ 1 2 = true := by decide
  have h2 : coversV ⟨0, 2, 0, 0⟩ ⟨1, 0, 0, 0⟩ = false := by decide
  have h3 : nextV ⟨0, 2, 0, 0⟩ 1 = (1, 3) := by decide
  have hq : ∀ W, (Op.equalIn 10000 22 (.agg #[.int .i64 0, .int .i64 2, .int .i64 0, .int .i64 0]) (.agg #[.int .i64 0, .int .i64 2, .int .i64 0, .int .i64 0])).run Try.prog W = .ok true W := fun W => by
    have := four_equal 0 2 0 0 0 2 0 0 W
    rwa [decide_eq_true ⟨rfl, rfl, rfl, rfl⟩] at this
  go_enter Try.func5, Try.ntmps5
  go_wp2_with fail
  refine (vof_any _ _ 2 2 [vc1, vc2] _ HR.out ok_vc).mono ?_
  rintro e w1 ⟨rfl, hb⟩
  rw [E.out]
  have HB1 := hide ((HB0.out.trans (hb.mono HB0.out.size)).alloc (HB0.out.trans (hb.mono HB0.out.size)).size (.cells #[.int .i64 0, .int .i64 2, .int .i64 0, .int .i64 0] 22))
  have HV := hide (Blk.new w1 22 #[.int .i64 0, .int .i64 2, .int .i64 0, .int .i64 0])
  clear hb HR HB0 E
  go_wp2_with fail
  refine (vhas_any ⟨0, 2, 0, 0⟩ 1 2 _).mono ?_
  rintro e w2 ⟨rfl, hb⟩
  rw [h1]
  have HV2 := hide (HV.out.below hb HV.out.lt)
  have HB2 := hide (HB1.out.trans (hb.mono HB1.out.size))
  obtain ⟨c0, c1, c2, c3⟩ := four_cells HV2.out
  clear hb HV
  go_wp2_with fail
  refine (vcovers_any ⟨0, 2, 0, 0⟩ ⟨1, 0, 0, 0⟩ _).mono ?_
  rintro e w3 ⟨rfl, hb⟩
  rw [h2]
  have HV3 := hide (HV2.out.below hb HV2.out.lt)
  have HB3 := hide (HB2.out.trans (hb.mono HB2.out.size))
  clear hb HV2 c0 c1 c2 c3
  obtain ⟨c0, c1, c2, c3⟩ := four_cells HV3.out
  go_wp2_with fail
  refine (vnext_any ⟨0, 2, 0, 0⟩ 1 _ (by decide)).mono ?_
  rintro e w4 ⟨rfl, hb⟩
  rw [h3]
  have HB4 := hide (HB3.out.trans (hb.mono HB3.out.size))
  clear hb c0 c1 c2 c3
  go_wp2
  go_ret
  exact ⟨rfl, HB4.out⟩
end Go.Proofs.Ytakjlcnojgboeaa
