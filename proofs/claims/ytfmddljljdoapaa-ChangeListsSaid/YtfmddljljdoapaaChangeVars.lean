/-
  A variable of a change: none yet, and written.
-/
import Derived.Test.YtfmddljljdoapaaChg
import Derived.Test.YtfmddljljdoapaaLater
namespace Go.Proofs.Ytfmddljljdoapaa
open Go.RowKit
set_option linter.unusedVariables false

def zeros9 : Array Value := #[.int .i64 0, .int .i64 0, .int .i64 0, .int .i64 0, .int .i64 0, .int .i64 0, .int .i64 0, .int .i64 0, .int .i64 0]
/-- What the two variables hold behind a call that only makes memory: no change yet, and X. -/
theorem two_vars (w w5 W' : World) (X : Chg) (t : TypeId) (hW : W' = ((w.alloc (.cells zeros9 t)).alloc (.cells #[.int .i64 X.r, .int .i64 X.s, .int .i64 X.t, .int .i64 X.k, .int .i64 X.a, .int .i64 X.b, .int .i64 X.n, .int .i64 X.p, .int .i64 X.q] t)).drew) (hb : Below W'.heap.size W' w5) :
    Blk w5 w.heap.size t zeros9 ∧ At w5 (w.heap.size + 1) 0 X ∧ Below w.heap.size w w5 := by
  obtain ⟨V, hV⟩ : ∃ V, V = w.alloc (.cells zeros9 t) := ⟨_, rfl⟩
  have hVs : V.heap.size = w.heap.size + 1 := by rw [hV]; simp
  rw [← hV] at hW
  have hs : V.heap.size + 1 ≤ W'.heap.size := by rw [hW]; show _ ≤ (World.alloc _ _).heap.size; simp
  have h0 : Below V.heap.size V W' := by rw [hW]; exact Below.drew (Below.alloc (Below.refl _ _) (Nat.le_refl _) _)
  have h1 : Below V.heap.size V w5 := h0.trans (hb.mono (by omega))
  have hx : At W' V.heap.size 0 X := by rw [hW]; exact at_new V X t
  have hz : Blk V w.heap.size t zeros9 := by rw [hV]; exact Blk.new w t zeros9
  refine ⟨hz.below h1 (by omega), ?_, ?_⟩
  · rw [← hVs]; exact hx.below hb (by omega)
  · exact Below.trans (b := V) (by rw [hV]; exact (Below.refl _ w).alloc (Nat.le_refl _) _) (h1.mono (by omega))
/-- A variable of a change, written. -/
def store9 (w : World) (g : Nat) (X : Chg) : World := ((((((((w.setCell ⟨g, 0, none⟩ (.int .i64 X.r)).setCell ⟨g, 1, none⟩ (.int .i64 X.s)).setCell ⟨g, 2, none⟩ (.int .i64 X.t)).setCell ⟨g, 3, none⟩ (.int .i64 X.k)).setCell ⟨g, 4, none⟩ (.int .i64 X.a)).setCell ⟨g, 5, none⟩ (.int .i64 X.b)).setCell ⟨g, 6, none⟩ (.int .i64 X.n)).setCell ⟨g, 7, none⟩ (.int .i64 X.p)).setCell ⟨g, 8, none⟩ (.int .i64 X.q)
theorem nine_set (a b c d e f g h i : Value) : ((((((((zeros9.setIfInBounds 0 a).setIfInBounds 1 b).setIfInBounds 2 c).setIfInBounds 3 d).setIfInBounds 4 e).setIfInBounds 5 f).setIfInBounds 6 g).setIfInBounds 7 h).setIfInBounds 8 i = #[a, b, c, d, e, f, g, h, i] := by
  simp [zeros9]
theorem store9_at {w : World} {g : Nat} {t : TypeId} (h : Blk w g t zeros9) (X : Chg) : At (store9 w g X) g 0 X := by
  have hB := ((((((((h.store 0 (.int .i64 X.r)).store 1 (.int .i64 X.s)).store 2 (.int .i64 X.t)).store 3 (.int .i64 X.k)).store 4 (.int .i64 X.a)).store 5 (.int .i64 X.b)).store 6 (.int .i64 X.n)).store 7 (.int .i64 X.p)).store 8 (.int .i64 X.q)
  rw [nine_set] at hB
  exact ⟨hB.cell 0, hB.cell 1, hB.cell 2, hB.cell 3, hB.cell 4, hB.cell 5, hB.cell 6, hB.cell 7, hB.cell 8⟩
theorem store9_below {w0 w : World} {B g : Nat} (h : Below B w0 w) (hg : B ≤ g) (X : Chg) : Below B w0 (store9 w g X) :=
  ((((((((h.setCell (p := ⟨g, 0, none⟩) hg _).setCell (p := ⟨g, 1, none⟩) hg _).setCell (p := ⟨g, 2, none⟩) hg _).setCell (p := ⟨g, 3, none⟩) hg _).setCell (p := ⟨g, 4, none⟩) hg _).setCell (p := ⟨g, 5, none⟩) hg _).setCell (p := ⟨g, 6, none⟩) hg _).setCell (p := ⟨g, 7, none⟩) hg _).setCell (p := ⟨g, 8, none⟩) hg _
end Go.Proofs.Ytfmddljljdoapaa
