/-
  Whole rows out of the middle of a block, and into it.
-/
import Derived.Test.YthoedknnchaiaaaMem
import Derived.Deep.MidRow
namespace Go.Proofs.Ythoedknnchaiaaa
open Go.RowKit
set_option linter.unusedVariables false

theorem range_all {w : World} {g : Nat} {t : TypeId} {C : Array Value} (hb : Blk w g t C) : w.rangeAt g 0 C.toList := fun j v hv => by
  rw [Nat.zero_add, hb.cell j, ← Array.getElem?_toList]
  exact hv
/-- A whole row out of the middle of a block, guarded or not. -/
theorem wpList_load_row {P : Program} {ops : Array Oper} {rest : List Oper} {op : Oper} {a : Act} {w : World} {Q : Exit → Act → World → Prop} (hw : Region.wanted op (yielded ops a.tmps) = true) (ty : TypeId) (x : Operand) (ho : op.op = .load ty x)
    (b o : Nat) (hx : a.eval x = .pointer (some ⟨b, o, none⟩)) (cs : List Value) (d : TypeDesc) (hc : w.rangeAt b o cs)
    (hu : P.underlying ty = some d) (hd : d.isRow = true) (hi : (P.info? ty).map (·.size) = some cs.length)
    (h : wpList P ops Q rest (a.put op.dst (.agg cs.toArray)) w) : wpList P ops Q (op :: rest) a w :=
  wpList_step fun K hK => by rw [if_pos hw]; exact wp_load_mid ty x ho b o hx cs d hc hu hd hi (hK _ _ h)
/-- Cells, some of them laid anew. -/
def setRange (Z : Array Value) : Nat → List Value → Array Value
  | _, [] => Z
  | o, v :: r => setRange (Z.setIfInBounds o v) (o + 1) r
theorem setRange_get : ∀ (vs : List Value) (o : Nat) (Z : Array Value), o + vs.length ≤ Z.size → ∀ i, (setRange Z o vs)[i]? = if o ≤ i ∧ i < o + vs.length then vs[i - o]? else Z[i]?
  | [], o, Z, _, i => by rw [if_neg (by simp only [List.length_nil]; omega)]; rfl
  | v :: r, o, Z, h, i => by
    rw [List.length_cons] at h
    rw [setRange, setRange_get r (o + 1) _ (by rw [Array.size_setIfInBounds]; omega), List.length_cons]
    by_cases h1 : o + 1 ≤ i ∧ i < o + 1 + r.length
    · rw [if_pos h1, if_pos (by omega), show i - o = (i - (o + 1)) + 1 by omega, List.getElem?_cons_succ]
    · rw [if_neg h1, Array.getElem?_setIfInBounds]
      by_cases h2 : o = i
      · subst h2
        rw [if_pos rfl, if_pos (by omega), if_pos (by omega), Nat.sub_self, List.getElem?_cons_zero]
      · rw [if_neg h2, if_neg (by omega)]
theorem setRange_all {Z C : Array Value} (h : Z.size = C.size) : setRange Z 0 C.toList = C := by
  apply Array.ext_getElem?
  intro i
  rw [setRange_get _ _ _ (by rw [Array.length_toList, Nat.zero_add, h]; exact Nat.le_refl _)]
  rw [Array.length_toList]
  by_cases hi : i < C.size
  · rw [if_pos (by omega), Nat.sub_zero, Array.getElem?_toList]
  · rw [if_neg (by omega), Array.getElem?_eq_none (by omega), Array.getElem?_eq_none (by omega)]
theorem Blk.cells : ∀ (vs : List Value) (o : Nat) {w : World} {g : Nat} {t : TypeId} {Z : Array Value}, Blk w g t Z → Blk (w.setCells g o vs) g t (setRange Z o vs)
  | [], _, _, _, _, _, h => h
  | v :: r, o, _, _, _, _, h => Blk.cells r (o + 1) (h.store o v)
theorem far_cells : ∀ (vs : List Value) (o : Nat) {w : World} {g n : Nat}, n ≠ g → (w.setCells g o vs).heap[n]? = w.heap[n]?
  | [], _, _, _, _, _ => rfl
  | v :: r, o, w, g, n, h => (far_cells r (o + 1) h).trans (Below.heap_setCell w ⟨g, o, none⟩ v n h)
theorem size_cells : ∀ (vs : List Value) (o : Nat) {w : World} {g : Nat}, (w.setCells g o vs).heap.size = w.heap.size
  | [], _, _, _ => rfl
  | v :: r, o, w, g => (size_cells r (o + 1)).trans (by simp)
theorem below_cells : ∀ (vs : List Value) (o : Nat) {B : Nat} {a w : World} {g : Nat}, Below B a w → B ≤ g → Below B a (w.setCells g o vs)
  | [], _, _, _, _, _, h, _ => h
  | v :: r, o, B, a, w, g, h, hg => below_cells r (o + 1) (h.setCell (p := ⟨g, o, none⟩) hg v) hg
theorem there_blk {w : World} {g : Nat} {t : TypeId} {Z : Array Value} (h : Blk w g t Z) : w.there g 0 Z.size := fun j hj => by
  rw [Nat.zero_add]
  exact ⟨by rw [h.cell j, Array.getElem?_eq_getElem hj]; rfl, h.frozen j⟩
/-- A new variable, and what is stored into it. -/
theorem var_new (w : World) (t : TypeId) {Z C : Array Value} (h : Z.size = C.size) :
    Blk ((w.alloc (.cells Z t)).setCells w.heap.size 0 C.toList) w.heap.size t C ∧ Below w.heap.size w ((w.alloc (.cells Z t)).setCells w.heap.size 0 C.toList) ∧ (w.alloc (.cells Z t)).there w.heap.size 0 C.size := by
  have hb := Blk.new w t Z
  refine ⟨?_, below_cells _ _ ((Below.refl _ _).alloc (Nat.le_refl _) _) (Nat.le_refl _), h ▸ there_blk hb⟩
  have := Blk.cells C.toList 0 hb
  rwa [setRange_all h] at this
/-- A store of a whole row, guarded or not. -/
theorem wpList_store_row {P : Program} {ops : Array Oper} {rest : List Oper} {op : Oper} {a : Act} {w : World} {Q : Exit → Act → World → Prop} (hw : Region.wanted op (yielded ops a.tmps) = true) (ty : TypeId) (x y : Operand) (ho : op.op = .store ty x y)
    (b o : Nat) (cells : Array Value) (hx : a.eval x = .pointer (some ⟨b, o, none⟩)) (hy : a.eval y = .agg cells)
    (ht : w.there b o cells.size) (hi : (P.info? ty).map (·.size) = some cells.size) (h1 : cells.all (·.oneCell') = true)
    (h : wpList P ops Q rest (a.put op.dst undef) (w.setCells b o cells.toList)) : wpList P ops Q (op :: rest) a w :=
  wpList_step fun K hK => by rw [if_pos hw]; exact wp_store_mid ty x y ho b o cells hx hy ht hi h1 (hK _ _ h)
end Go.Proofs.Ythoedknnchaiaaa
