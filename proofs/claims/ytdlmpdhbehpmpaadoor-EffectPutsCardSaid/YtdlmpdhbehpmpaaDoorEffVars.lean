/-
  A variable of type countermand/api.Effect: zero yet, and written. (Made by wip/tools/rec.py.)
-/
import Derived.Test.YtdlmpdhbehpmpaaDoorEff
import Derived.Test.YtdlmpdhbehpmpaaDoorLater
namespace Go.Proofs.YtdlmpdhbehpmpaaDoor
open Go.RowKit
set_option linter.unusedVariables false

def zerosEff : Array Value := #[.int .i64 0, .int .i64 0, .int .i64 0, .int .i64 0, .int .i64 0]
/-- What the two variables hold behind a call that only makes memory: nothing yet, and X. -/
theorem two_effs (w w5 W' : World) (X : Eff) (t : TypeId) (hW : W' = ((w.alloc (.cells zerosEff t)).alloc (.cells #[.int .i64 X.k, .int .i64 X.a, .int .i64 X.n, .int .i64 X.p, .int .i64 X.q] t)).drew) (hb : Below W'.heap.size W' w5) :
    Blk w5 w.heap.size t zerosEff ∧ Eff.At w5 (w.heap.size + 1) 0 X ∧ Below w.heap.size w w5 := by
  obtain ⟨V, hV⟩ : ∃ V, V = w.alloc (.cells zerosEff t) := ⟨_, rfl⟩
  have hVs : V.heap.size = w.heap.size + 1 := by rw [hV]; simp
  rw [← hV] at hW
  have hs : V.heap.size + 1 ≤ W'.heap.size := by rw [hW]; show _ ≤ (World.alloc _ _).heap.size; simp
  have h0 : Below V.heap.size V W' := by rw [hW]; exact Below.drew (Below.alloc (Below.refl _ _) (Nat.le_refl _) _)
  have h1 : Below V.heap.size V w5 := h0.trans (hb.mono (by omega))
  have hx : Eff.At W' V.heap.size 0 X := by rw [hW]; exact eff_at_new V X t
  have hz : Blk V w.heap.size t zerosEff := by rw [hV]; exact Blk.new w t zerosEff
  refine ⟨hz.below h1 (by omega), ?_, ?_⟩
  · rw [← hVs]; exact hx.below hb (by omega)
  · exact Below.trans (b := V) (by rw [hV]; exact (Below.refl _ w).alloc (Nat.le_refl _) _) (h1.mono (by omega))
/-- A variable, written. -/
def storeEff (w : World) (g : Nat) (X : Eff) : World := ((((w.setCell ⟨g, 0, none⟩ (.int .i64 X.k)).setCell ⟨g, 1, none⟩ (.int .i64 X.a)).setCell ⟨g, 2, none⟩ (.int .i64 X.n)).setCell ⟨g, 3, none⟩ (.int .i64 X.p)).setCell ⟨g, 4, none⟩ (.int .i64 X.q)
theorem setEff (a b c d e : Value) : ((((zerosEff.setIfInBounds 0 a).setIfInBounds 1 b).setIfInBounds 2 c).setIfInBounds 3 d).setIfInBounds 4 e = #[a, b, c, d, e] := by
  simp [zerosEff]
theorem storeEff_at {w : World} {g : Nat} {t : TypeId} (h : Blk w g t zerosEff) (X : Eff) : Eff.At (storeEff w g X) g 0 X := by
  have hB := ((((h.store 0 (.int .i64 X.k)).store 1 (.int .i64 X.a)).store 2 (.int .i64 X.n)).store 3 (.int .i64 X.p)).store 4 (.int .i64 X.q)
  rw [setEff] at hB
  exact ⟨hB.cell 0, hB.cell 1, hB.cell 2, hB.cell 3, hB.cell 4⟩
theorem storeEff_below {w0 w : World} {B g : Nat} (h : Below B w0 w) (hg : B ≤ g) (X : Eff) : Below B w0 (storeEff w g X) :=
  ((((h.setCell (p := ⟨g, 0, none⟩) hg _).setCell (p := ⟨g, 1, none⟩) hg _).setCell (p := ⟨g, 2, none⟩) hg _).setCell (p := ⟨g, 3, none⟩) hg _).setCell (p := ⟨g, 4, none⟩) hg _
end Go.Proofs.YtdlmpdhbehpmpaaDoor
