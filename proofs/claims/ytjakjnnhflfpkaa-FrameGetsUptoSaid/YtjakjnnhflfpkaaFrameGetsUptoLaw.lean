/-
  For every input the Go function countermand/countermandlaw04.FrameGets returns true, and what it was handed reads behind the call as it did before.
  Conditions: the arguments are together of bulk at most 1048576.
-/
import Derived.Test.YtjakjnnhflfpkaaLift
import Derived.Test.YtjakjnnhflfpkaaFrameGets
import Derived.Carry
import Derived.Test.YtjakjnnhflfpkaaParts
import Derived.Deep.CondSized
namespace Go.Proofs.Ytjakjnnhflfpkaa.frameGetsUpto
open Go.ChangeShapes Go.WideShapes Go.ChangeAt Go.RowKit
open Go.ChangeMaps (open_string shut_string)
set_option linter.unusedVariables false

set_option maxRecDepth 100000 in
theorem lifted (os : Os) (started : os.Started) (H : Type) (enc : TypeId × Value → H) (F : Stop.Interp) :
    ReturnsInHanded {} Try.checked os 4 .any ((Rows.OpenSpec.upto Rows.frameGetsSpec).pre6 enc Try.prog Try.f4 Rows.frameGetsUptoRow.domain false) (((Rows.OpenSpec.upto Rows.frameGetsSpec).at F).post enc Try.prog Try.f4 false true false false) := by
  refine returnsInHanded_of_cond_sized (C := Try.checked) (s := (Rows.OpenSpec.upto Rows.frameGetsSpec)) (k := Rows.uptoSmall) rfl own started (by kernel_rfl) Try.func4
    (OpenSpec.witness (enc := enc) (C := Try.checked) (s := (Rows.OpenSpec.upto Rows.frameGetsSpec)) (k := Rows.uptoSmall) rfl false ⟨#[], #[.slice none 0 0], []⟩ 8 (by kernel_rfl) (by kernel_rfl) (by kernel_rfl)
      (x := ([.nil], [], [])) (by kernel_rfl) rfl (by kernel_rfl)) ?_
  intro W base args ds gs before hval0 hW hcnd hbulk0 hsz0 _
  have hbulk : Rows.uptoBulkAll (ds ++ gs) ≤ 1048576 := bulk_of hbulk0
  clear hbulk0
  have hsz : (DataW.weightsEach Try.prog (Try.f4.params.toList ++ ((Rows.OpenSpec.upto Rows.frameGetsSpec)).bare.plain.varTypes Try.prog) (ds ++ gs)).all (· ≤ reachBytes) = true := hsz0
  clear hsz0
  have hval : ∀ (j : Nat) t v, Try.f4.params[j]? = some t → args[j]? = some v → Value.okWide Try.prog W .any base t v := hval0
  have hW' := hW
  obtain ⟨p, q, hA0, hV, rfl, hfz, hnd⟩ := hW
  have hA : DataW.TrodAll enc Try.prog W 0 (fun _ => true) true Try.f4.params.toList args.toList ds p := hA0
  rw [Try.params4] at hA hval hsz
  obtain ⟨v0, vs0, d0, ds0, p0, q0, hargs, rfl, rfl, h0, r0'⟩ := trodAll_cons hA
  obtain ⟨rfl, rfl, rfl⟩ := trodAll_nil r0'
  obtain rfl : args = #[v0] := by cases args; simp_all
  obtain ⟨rfl, rfl⟩ := trodVars_none hV
  obtain ⟨A0, n0, c0, rfl⟩ := okWide_slice Try.underlying22 (hval 0 22 v0 rfl rfl)
  have lt0 : ∀ x ∈ p0, x.block < W.heap.size := by obtain ⟨m, hm⟩ := h0; exact DataW.trod_lt m _ _ _ hm
  obtain ⟨l0, r0, o0, z0⟩ := lift_bytes Try.underlying22 Try.underlying5 (by kernel_rfl) h0 (by kernel_rfl) (fun es sp hd => by subst hd; exact sized_slice hsz (j := 0) (t := 22) (e := 5) rfl rfl Try.underlying22)
  have b0 := bulk_ints Try.underlying22 Try.underlying5 (by kernel_rfl) h0
  clear hA0 hval0
  have hk : Rows.uptoBulkAll [d0] ≤ 1048576 := hbulk
  refine (gets_walk A0 n0 c0 l0 W r0 o0 (by simp only [Rows.uptoBulkAll] at hk; omega)).mono fun e W' ⟨he, bel⟩ => ?_
  subst he
  exact ⟨_, rfl, _, _, _, [], _, [], hW', trodAll_mk1 (shut_bool Try.underlying4 _), (trodAll_cons_mk (Below.trod laidOut (by kernel_rfl) (of_decide_eq_true (by kernel_rfl)) h0 bel lt0) trodAll_mk0), rfl, bel.frame _, fun h => by cases h⟩

theorem over : Rows.frameGetsUptoRow.holds Try.pinned (Rows.OpenSpec.upto Rows.frameGetsSpec) :=
  OpenClaim.holds_of_cond 4 Try.f4 rfl rfl rfl rfl rfl rfl rfl ⟨rfl, rfl, rfl, rfl, rfl⟩ rfl rfl rfl rfl rfl (by kernel_rfl) Try.func4 (by kernel_rfl)
    (of_decide_eq_true (by kernel_rfl)) (by unfold Func.isWrapper; first | (rw [if_pos (by decide +kernel)]; kernel_rfl) | (rw [if_neg (by decide +kernel)]; exact ⟨rfl, rfl⟩))
    (fun os started H enc _ F => lifted os started H enc F)

/-- The statement. -/
theorem proved : Rows.FrameGetsUptoSaid := over
#print axioms proved
end Go.Proofs.Ytjakjnnhflfpkaa.frameGetsUpto
