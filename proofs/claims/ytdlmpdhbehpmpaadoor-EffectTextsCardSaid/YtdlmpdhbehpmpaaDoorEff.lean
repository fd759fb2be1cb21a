/-
  countermand/api.Effect, as data: words, and what reads as some. (Made by wip/tools/rec.py.)
-/
import Derived.Test.YtdlmpdhbehpmpaaDoorChg
import Derived.Test.YtdlmpdhbehpmpaaDoorStampRef
import Derived.Test.YtdlmpdhbehpmpaaDoorStampPut
import Derived.Handy
namespace Go.Proofs.YtdlmpdhbehpmpaaDoor
open Go.RowKit
set_option linter.unusedVariables false

structure Eff where
  k : Int
  a : Int
  n : Int
  p : Int
  q : Int
theorem Eff.ext' {x y : Eff} (h0 : x.k = y.k) (h1 : x.a = y.a) (h2 : x.n = y.n) (h3 : x.p = y.p) (h4 : x.q = y.q) : x = y := by
  cases x; cases y; simp only at *; subst h0 h1 h2 h3 h4; rfl
instance : DecidableEq Eff := fun x y =>
  if h : x.k = y.k ∧ x.a = y.a ∧ x.n = y.n ∧ x.p = y.p ∧ x.q = y.q then .isTrue (Eff.ext' h.1 h.2.1 h.2.2.1 h.2.2.2.1 h.2.2.2.2)
  else .isFalse fun e => h (by subst e; exact ⟨rfl, rfl, rfl, rfl, rfl⟩)
def Eff.cells (x : Eff) : List Value := [.int .i64 x.k, .int .i64 x.a, .int .i64 x.n, .int .i64 x.p, .int .i64 x.q]
def Eff.val (x : Eff) : Value := .agg #[.int .i64 x.k, .int .i64 x.a, .int .i64 x.n, .int .i64 x.p, .int .i64 x.q]
def Eff.ok (x : Eff) : Prop := I64 x.k ∧ I64 x.a ∧ I64 x.n ∧ I64 x.p ∧ I64 x.q
def zeroEff : Eff := ⟨0, 0, 0, 0, 0⟩
theorem zeroEff_ok : zeroEff.ok := by simp [Eff.ok, I64, zeroEff]
def effs (l : List Eff) : List Value := l.flatMap Eff.cells
theorem eff_len (x : Eff) : x.cells.length = 5 := rfl
theorem effs_len (l : List Eff) : (effs l).length = l.length * 5 := flat_len _ 5 eff_len l
theorem effs_take (l : List Eff) (i : Nat) : (effs l).take (i * 5) = effs (l.take i) := flat_take _ 5 eff_len l i
theorem effs_drop (l : List Eff) (i : Nat) : (effs l).drop (i * 5) = effs (l.drop i) := flat_drop _ 5 eff_len l i
theorem effs_append (l m : List Eff) : effs l ++ effs m = effs (l ++ m) := by simp [effs]
theorem effs_one (l : List Eff) : ∀ u ∈ effs l, u.oneCell' = true := by
  intro u hu
  obtain ⟨x, _, hx⟩ := List.mem_flatMap.1 hu
  simp only [Eff.cells, List.mem_cons, List.not_mem_nil, or_false] at hx
  rcases hx with rfl | rfl | rfl | rfl | rfl <;> rfl
def Eff.At (w : World) (b o : Nat) (x : Eff) : Prop :=
  w.cell? ⟨b, o, none⟩ = some (.int .i64 x.k) ∧ w.cell? ⟨b, o + 1, none⟩ = some (.int .i64 x.a) ∧ w.cell? ⟨b, o + 2, none⟩ = some (.int .i64 x.n) ∧ w.cell? ⟨b, o + 3, none⟩ = some (.int .i64 x.p) ∧ w.cell? ⟨b, o + 4, none⟩ = some (.int .i64 x.q)
theorem eff_at_of {w : World} {b o : Nat} {x : Eff} (h : ∀ j, j < 5 → w.cell? ⟨b, o + j, none⟩ = x.cells[j]?) : Eff.At w b o x :=
  ⟨h 0 (by omega), h 1 (by omega), h 2 (by omega), h 3 (by omega), h 4 (by omega)⟩
theorem effs_at {w : World} {P : Nat → Prop} {A : Option Addr} {n c : Nat} {l : List Eff} (h : RowK w P 5 A n c (effs l)) {i : Nat} (hi : i < n) :
    ∃ b o x, A = some ⟨b, o, none⟩ ∧ P b ∧ b < w.heap.size ∧ l[i]? = some x ∧ Eff.At w b (o + i * 5) x := by
  obtain ⟨b, o, e, hp, hlt, hc⟩ := h.some_ (by omega) (by omega)
  have hl : l.length = n := by have := h.1; rw [effs_len] at this; omega
  refine ⟨b, o, l[i]'(by omega), e, hp, hlt, List.getElem?_eq_getElem (by omega), eff_at_of fun j hj => ?_⟩
  have := hc (i * 5 + j) (by omega)
  rw [Nat.add_assoc, this, effs, flat_get _ 5 eff_len _ _ _ hj, List.getElem?_eq_getElem (by omega)]
  rfl
theorem Eff.At.below {w w' : World} {B b o : Nat} {x : Eff} (h : Eff.At w b o x) (hb : Below B w w') (hlt : b < B) : Eff.At w' b o x := by
  obtain ⟨h0, h1, h2, h3, h4⟩ := h
  exact ⟨(hb.cell hlt).trans h0, (hb.cell hlt).trans h1, (hb.cell hlt).trans h2, (hb.cell hlt).trans h3, (hb.cell hlt).trans h4⟩
theorem Eff.At.later {w1 w' : World} {b o : Nat} {x : Eff} (h : Eff.At w1 b o x) (hb : b < w1.heap.size) (hs : Since w1 w') : Eff.At w' b o x := h.below hs hb
theorem eff_at_new (w : World) (x : Eff) (t : TypeId) : Eff.At (w.alloc (.cells #[.int .i64 x.k, .int .i64 x.a, .int .i64 x.n, .int .i64 x.p, .int .i64 x.q] t)) w.heap.size 0 x :=
  eff_at_of fun j hj => by
    have h := (Blk.new w t #[.int .i64 x.k, .int .i64 x.a, .int .i64 x.n, .int .i64 x.p, .int .i64 x.q]).cell j
    rw [Nat.zero_add, h, List.getElem?_toArray]
    rfl
theorem flat_eff : Flat Tryd.prog 25 [.num .i64, .num .i64, .num .i64, .num .i64, .num .i64] :=
  flat_struct Tryd.underlying25 [[.num .i64], [.num .i64], [.num .i64], [.num .i64, .num .i64]] rfl
    ⟨rfl, by kernel_rfl, flat_num Tryd.underlying3,
      rfl, by kernel_rfl, flat_num Tryd.underlying3,
      rfl, by kernel_rfl, flat_num Tryd.underlying2,
      rfl, by kernel_rfl, flat_id, trivial⟩ (by kernel_rfl)
theorem fits_eff {vs : List Value} (h : Fits [.num .i64, .num .i64, .num .i64, .num .i64, .num .i64] vs) : ∃ x : Eff, vs = x.cells ∧ x.ok := by
  obtain ⟨x0, vs, rfl, h0, h⟩ := fits_num h
  obtain ⟨x1, vs, rfl, h1, h⟩ := fits_num h
  obtain ⟨x2, vs, rfl, h2, h⟩ := fits_num h
  obtain ⟨x3, vs, rfl, h3, h⟩ := fits_num h
  obtain ⟨x4, vs, rfl, h4, h⟩ := fits_num h
  obtain rfl := h.unnil
  exact ⟨⟨x0, x1, x2, x3, x4⟩, rfl, h0, h1, h2, h3, h4⟩
theorem fits_effs {vss : List (List Value)} (h : ∀ vs ∈ vss, Fits [.num .i64, .num .i64, .num .i64, .num .i64, .num .i64] vs) : ∃ l : List Eff, vss.flatten = effs l ∧ l.length = vss.length ∧ ∀ x ∈ l, x.ok := by
  induction vss with
  | nil => exact ⟨[], rfl, rfl, by simp⟩
  | cons vs vss ih =>
    obtain ⟨x, rfl, hx⟩ := fits_eff (h vs List.mem_cons_self)
    obtain ⟨l, h1, h2, h3⟩ := ih fun vs hv => h vs (List.mem_cons_of_mem _ hv)
    exact ⟨x :: l, by rw [List.flatten_cons, h1]; rfl, by simp [h2], fun y hy => by
      rcases List.mem_cons.1 hy with rfl | hy
      · exact hx
      · exact h3 y hy⟩
theorem effs_new (w : World) (l : List Eff) (cs : Array Value) (n : Nat) (t : TypeId) (h : cs.toList = effs l) (hn : l.length = n) (hb : n ≤ 1000000) : RowK (w.alloc (.cells cs t)) (fun _ => True) 5 (some ⟨w.heap.size, 0, none⟩) n n (effs l) := by
  refine ⟨by rw [effs_len, hn], Nat.le_refl _, by omega, .inr ⟨w.heap.size, 0, rfl, trivial, fun j _ => ?_⟩⟩
  rw [Nat.zero_add, (Blk.new w t cs).cell j, ← h]
  simp
theorem infoEff : (Tryd.prog.info? 25).map (fun i => (i.zero, i.size, i.bytes)) = some (some (.agg #[.int .i64 0, .int .i64 0, .int .i64 0, .int .i64 0, .int .i64 0]), 5, 40) := by kernel_rfl
/-- A list in memory of its own. -/
def FreshEff (w : World) (m : List Eff) (w' : World) (e : Ending) : Prop :=
  ∃ A c, e = .returned (.slice A m.length c) ∧ w'.ownsRow w.heap.size 25 5 (.slice A m.length c) m.length (effs m) ∧ Below w.heap.size w w'
theorem FreshEff.row {w w' : World} {m : List Eff} {e : Ending} (h : FreshEff w m w' e) {k : Nat} (hk : m.length = k) : ∃ A c, e = .returned (.slice A k c) ∧ w'.ownsRow w.heap.size 25 5 (.slice A k c) k (effs m) ∧ Below w.heap.size w w' := by
  subst hk; exact h
theorem eff_equal (x y : Eff) (d : Nat) (W : World) : (Op.equalIn (d + 3) 25 x.val y.val).run Tryd.prog W = .ok (decide (x = y)) W := by
  have e : decide (x = y) = decide (x.k = y.k ∧ x.a = y.a ∧ x.n = y.n ∧ (x.p = y.p ∧ x.q = y.q)) := by
    rw [Bool.eq_iff_iff, decide_eq_true_iff, decide_eq_true_iff]
    constructor
    · intro h; subst h; simp
    · rintro ⟨h0, h1, h2, ⟨h3, h4⟩⟩
      exact Eff.ext' h0 h1 h2 h3 h4
  rw [e]
  obtain ⟨xk, xa, xn, xp, xq⟩ := x
  obtain ⟨yk, ya, yn, yp, yq⟩ := y
  unfold Eff.val
  have u1 := Tryd.underlying3
  have a1 := Tryd.isAgg3
  have z1 := Tryd.sizeOf3
  have u2 := Tryd.underlying2
  have a2 := Tryd.isAgg2
  have z2 := Tryd.sizeOf2
  have a3 := Tryd.isAgg23
  have z3 := Tryd.sizeOf23
  have hS : Tryd.prog.underlying 25 = some (.struct (Tryd.prog.fieldsOf 25)) := by kernel_rfl
  have hp : Tryd.prog.stoodInHeld 25 = false := by kernel_rfl
  have hi0 : ∀ W, (Op.equalIn (d + 2) 23 (.agg #[.int .i64 xp, .int .i64 xq]) (.agg #[.int .i64 yp, .int .i64 yq])).run Tryd.prog W = _ := fun W => id_equal xp xq yp yq (d + 0) W
  rw [show d + 3 = (d + 2) + 1 from rfl, run_equalIn_agg W (d + 2) 25 _ _ hS hp]
  simp only [Program.fieldsOf, Tryd.underlying25]
  go_simp
  by_cases h0 : xk = yk
  · by_cases h1 : xa = ya
    · by_cases h2 : xn = yn
      · by_cases h3 : xp = yp
        · by_cases h4 : xq = yq
          · simp [h0, h1, h2, h3, h4]
          · simp [h0, h1, h2, h3, h4]
        · simp [h0, h1, h2, h3]
      · simp [h0, h1, h2]
    · simp [h0, h1]
  · simp [h0]
end Go.Proofs.YtdlmpdhbehpmpaaDoor
