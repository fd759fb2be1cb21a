/-
  Changes, as data: words, and what reads as some.
-/
import Derived.Test.YtdlmpdhbehpmpaaDoorFlat
import Derived.Handy
namespace Go.Proofs.YtdlmpdhbehpmpaaDoor
open Go.RowKit
set_option linter.unusedVariables false

/-- A change: its Id (r, s), Time, Kind, A, B, N, and Ref (p, q). -/
structure Chg where
  r : Int
  s : Int
  t : Int
  k : Int
  a : Int
  b : Int
  n : Int
  p : Int
  q : Int
theorem Chg.ext' {x y : Chg} (h1 : x.r = y.r) (h2 : x.s = y.s) (h3 : x.t = y.t) (h4 : x.k = y.k) (h5 : x.a = y.a) (h6 : x.b = y.b) (h7 : x.n = y.n) (h8 : x.p = y.p) (h9 : x.q = y.q) : x = y := by
  cases x; cases y; simp only at *; subst h1 h2 h3 h4 h5 h6 h7 h8 h9; rfl
instance : DecidableEq Chg := fun x y =>
  if h : x.r = y.r ∧ x.s = y.s ∧ x.t = y.t ∧ x.k = y.k ∧ x.a = y.a ∧ x.b = y.b ∧ x.n = y.n ∧ x.p = y.p ∧ x.q = y.q then
    .isTrue (Chg.ext' h.1 h.2.1 h.2.2.1 h.2.2.2.1 h.2.2.2.2.1 h.2.2.2.2.2.1 h.2.2.2.2.2.2.1 h.2.2.2.2.2.2.2.1 h.2.2.2.2.2.2.2.2)
  else .isFalse fun e => h (by subst e; exact ⟨rfl, rfl, rfl, rfl, rfl, rfl, rfl, rfl, rfl⟩)
def Chg.cells (x : Chg) : List Value := [.int .i64 x.r, .int .i64 x.s, .int .i64 x.t, .int .i64 x.k, .int .i64 x.a, .int .i64 x.b, .int .i64 x.n, .int .i64 x.p, .int .i64 x.q]
def Chg.val (x : Chg) : Value := .agg #[.int .i64 x.r, .int .i64 x.s, .int .i64 x.t, .int .i64 x.k, .int .i64 x.a, .int .i64 x.b, .int .i64 x.n, .int .i64 x.p, .int .i64 x.q]
def Chg.ok (x : Chg) : Prop := I64 x.r ∧ I64 x.s ∧ I64 x.t ∧ I64 x.k ∧ I64 x.a ∧ I64 x.b ∧ I64 x.n ∧ I64 x.p ∧ I64 x.q
/-- The cells of some changes. -/
def chgs (l : List Chg) : List Value := l.flatMap Chg.cells
theorem chg_len (x : Chg) : x.cells.length = 9 := rfl
theorem chgs_len (l : List Chg) : (chgs l).length = l.length * 9 := flat_len _ 9 chg_len l
theorem chgs_take (l : List Chg) (i : Nat) : (chgs l).take (i * 9) = chgs (l.take i) := flat_take _ 9 chg_len l i
theorem chgs_drop (l : List Chg) (i : Nat) : (chgs l).drop (i * 9) = chgs (l.drop i) := flat_drop _ 9 chg_len l i
theorem chgs_append (l m : List Chg) : chgs l ++ chgs m = chgs (l ++ m) := by simp [chgs]
theorem chgs_one (l : List Chg) : ∀ u ∈ chgs l, u.oneCell' = true := by
  intro u hu
  obtain ⟨x, _, hx⟩ := List.mem_flatMap.1 hu
  simp only [Chg.cells, List.mem_cons, List.not_mem_nil, or_false] at hx
  rcases hx with rfl | rfl | rfl | rfl | rfl | rfl | rfl | rfl | rfl <;> rfl

/-- The nine cells of a change at an address. -/
def At (w : World) (b o : Nat) (x : Chg) : Prop :=
  w.cell? ⟨b, o, none⟩ = some (.int .i64 x.r) ∧ w.cell? ⟨b, o + 1, none⟩ = some (.int .i64 x.s) ∧ w.cell? ⟨b, o + 2, none⟩ = some (.int .i64 x.t) ∧ w.cell? ⟨b, o + 3, none⟩ = some (.int .i64 x.k) ∧
  w.cell? ⟨b, o + 4, none⟩ = some (.int .i64 x.a) ∧ w.cell? ⟨b, o + 5, none⟩ = some (.int .i64 x.b) ∧ w.cell? ⟨b, o + 6, none⟩ = some (.int .i64 x.n) ∧ w.cell? ⟨b, o + 7, none⟩ = some (.int .i64 x.p) ∧ w.cell? ⟨b, o + 8, none⟩ = some (.int .i64 x.q)
theorem at_of {w : World} {b o : Nat} {x : Chg} (h : ∀ j, j < 9 → w.cell? ⟨b, o + j, none⟩ = x.cells[j]?) : At w b o x :=
  ⟨h 0 (by omega), h 1 (by omega), h 2 (by omega), h 3 (by omega), h 4 (by omega), h 5 (by omega), h 6 (by omega), h 7 (by omega), h 8 (by omega)⟩
theorem chgs_at {w : World} {P : Nat → Prop} {A : Option Addr} {n c : Nat} {l : List Chg} (h : RowK w P 9 A n c (chgs l)) {i : Nat} (hi : i < n) :
    ∃ b o x, A = some ⟨b, o, none⟩ ∧ P b ∧ b < w.heap.size ∧ l[i]? = some x ∧ At w b (o + i * 9) x := by
  obtain ⟨b, o, e, hp, hlt, hc⟩ := h.some_ (by omega) (by omega)
  have hl : l.length = n := by have := h.1; rw [chgs_len] at this; omega
  refine ⟨b, o, l[i]'(by omega), e, hp, hlt, List.getElem?_eq_getElem (by omega), at_of fun j hj => ?_⟩
  have := hc (i * 9 + j) (by omega)
  rw [Nat.add_assoc, this, chgs, flat_get _ 9 chg_len _ _ _ hj, List.getElem?_eq_getElem (by omega)]
  rfl
theorem At.below {w w' : World} {B b o : Nat} {x : Chg} (h : At w b o x) (hb : Below B w w') (hlt : b < B) : At w' b o x := by
  obtain ⟨h0, h1, h2, h3, h4, h5, h6, h7, h8⟩ := h
  exact ⟨(hb.cell hlt).trans h0, (hb.cell hlt).trans h1, (hb.cell hlt).trans h2, (hb.cell hlt).trans h3, (hb.cell hlt).trans h4, (hb.cell hlt).trans h5, (hb.cell hlt).trans h6, (hb.cell hlt).trans h7, (hb.cell hlt).trans h8⟩
/-- A change that was laid in memory of its own. -/
theorem at_new (w : World) (x : Chg) (t : TypeId) : At (w.alloc (.cells #[.int .i64 x.r, .int .i64 x.s, .int .i64 x.t, .int .i64 x.k, .int .i64 x.a, .int .i64 x.b, .int .i64 x.n, .int .i64 x.p, .int .i64 x.q] t)) w.heap.size 0 x :=
  at_of fun j hj => by
    have h := (Blk.new w t #[.int .i64 x.r, .int .i64 x.s, .int .i64 x.t, .int .i64 x.k, .int .i64 x.a, .int .i64 x.b, .int .i64 x.n, .int .i64 x.p, .int .i64 x.q]).cell j
    rw [Nat.zero_add, h, List.getElem?_toArray]
    rfl

theorem fits_chg {vs : List Value} (h : Fits [.num .i64, .num .i64, .num .i64, .num .i64, .num .i64, .num .i64, .num .i64, .num .i64, .num .i64] vs) : ∃ x : Chg, vs = x.cells ∧ x.ok := by
  obtain ⟨x0, vs, rfl, h0, h⟩ := fits_num h
  obtain ⟨x1, vs, rfl, h1, h⟩ := fits_num h
  obtain ⟨x2, vs, rfl, h2, h⟩ := fits_num h
  obtain ⟨x3, vs, rfl, h3, h⟩ := fits_num h
  obtain ⟨x4, vs, rfl, h4, h⟩ := fits_num h
  obtain ⟨x5, vs, rfl, h5, h⟩ := fits_num h
  obtain ⟨x6, vs, rfl, h6, h⟩ := fits_num h
  obtain ⟨x7, vs, rfl, h7, h⟩ := fits_num h
  obtain ⟨x8, vs, rfl, h8, h⟩ := fits_num h
  obtain rfl := h.unnil
  exact ⟨⟨x0, x1, x2, x3, x4, x5, x6, x7, x8⟩, rfl, h0, h1, h2, h3, h4, h5, h6, h7, h8⟩
theorem fits_chgs {vss : List (List Value)} (h : ∀ vs ∈ vss, Fits [.num .i64, .num .i64, .num .i64, .num .i64, .num .i64, .num .i64, .num .i64, .num .i64, .num .i64] vs) : ∃ l : List Chg, vss.flatten = chgs l ∧ l.length = vss.length ∧ ∀ x ∈ l, x.ok := by
  induction vss with
  | nil => exact ⟨[], rfl, rfl, by simp⟩
  | cons vs vss ih =>
    obtain ⟨x, rfl, hx⟩ := fits_chg (h vs List.mem_cons_self)
    obtain ⟨l, h1, h2, h3⟩ := ih fun vs hv => h vs (List.mem_cons_of_mem _ hv)
    exact ⟨x :: l, by rw [List.flatten_cons, h1]; rfl, by simp [h2], fun y hy => by
      rcases List.mem_cons.1 hy with rfl | hy
      · exact hx
      · exact h3 y hy⟩
/-- Changes that were laid in memory of their own. -/
theorem rowK_new (w : World) (l : List Chg) (cs : Array Value) (n : Nat) (t : TypeId) (h : cs.toList = chgs l) (hn : l.length = n) (hb : n ≤ 1000000) : RowK (w.alloc (.cells cs t)) (fun _ => True) 9 (some ⟨w.heap.size, 0, none⟩) n n (chgs l) := by
  refine ⟨by rw [chgs_len, hn], Nat.le_refl _, by omega, .inr ⟨w.heap.size, 0, rfl, trivial, fun j _ => ?_⟩⟩
  rw [Nat.zero_add, (Blk.new w t cs).cell j, ← h]
  simp

end Go.Proofs.YtdlmpdhbehpmpaaDoor
