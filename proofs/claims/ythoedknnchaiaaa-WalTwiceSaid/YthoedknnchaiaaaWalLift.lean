/-
  The calls of a log's script that was handed in; a slice of slices of octets that was handed in, with each one's bound.
-/
import Derived.Test.YthoedknnchaiaaaDeepRow
import Derived.Test.YthoedknnchaiaaaLift
import Derived.Test.YthoedknnchaiaaaWalStep
import Derived.Test.YthoedknnchaiaaaParts
import Derived.Deep.Strs
namespace Go.Proofs.Ythoedknnchaiaaa
open Go.ChangeShapes Go.WideShapes Go.ChangeAt Go.RowKit
set_option linter.unusedVariables false

theorem list3 {α : Type} {cs : List α} (h : cs.length = 3) : ∃ c0 c1 c2, cs = [c0, c1, c2] := by
  match cs, h with
  | [c0, c1, c2], _ => exact ⟨c0, c1, c2, rfl⟩
set_option maxRecDepth 100000 in
theorem lift_wops {H : Type} {enc : TypeId × Value → H} {W : World} {a : Option Addr} {n c : Nat} {d : DataW H} {p : List MemPlace}
    (h : DataW.Trod enc Try.prog W 0 (fun _ => true) true 22 (.slice a n c) d p) (hz : ∀ x ∈ d.weights Try.prog 22, x ≤ reachBytes) :
    ∃ l : List WOp, WOps W (· < W.heap.size) a n c l := by
  obtain ⟨vss, h1, h2, h3, h4⟩ := lift_each (fun cs => ∃ o : WOp, cs = o.cells ∧ o.at W (· < W.heap.size)) Try.underlying22 (k := 3) (by kernel_rfl) (by decide) h hz (fun fuel cs y hl ht hw => by
    obtain ⟨y0, y1, y2, m, hy, _, h0, h1, h2⟩ := Deep.trod_struct3 Try.underlying34 ht
    obtain ⟨c0, c1, c2, rfl⟩ := list3 hl
    have h0' : DataW.trod enc Try.prog W 0 (fun _ => true) true m 3 [c0] = some y0 := h0
    have h1' : DataW.trod enc Try.prog W 0 (fun _ => true) true m 3 [c1] = some y1 := h1
    have h2' : DataW.trod enc Try.prog W 0 (fun _ => true) true m 32 [c2] = some y2 := h2
    obtain ⟨k0, rfl, i0⟩ := num_cell Try.underlying3 h0'
    obtain ⟨k1, rfl, i1⟩ := num_cell Try.underlying3 h1'
    obtain ⟨A, n, k, rfl⟩ := slice_cell Try.underlying32 h2'
    obtain ⟨l, hr, ho, hb⟩ := lift_bytes Try.underlying32 Try.underlying5 (by kernel_rfl) (d := y2.1) (p := y2.2) ⟨m, h2'⟩ (by kernel_rfl) (fun es sp he => by
      refine hw _ ?_
      rw [hy]
      unfold DataW.weights
      rw [Try.underlying34]
      refine DataW.weights_mem_each (j := 2) (t := 32) (d := y2.1) rfl rfl _ ?_
      rw [he]
      unfold DataW.weights
      rw [Try.underlying32]
      exact List.mem_cons_self)
    exact ⟨⟨k0, k1, A, n, k, l⟩, rfl, hr, ho, i0, i1, hb⟩)
  obtain ⟨l, e1, e2, e3⟩ := rows_list WOp.cells (fun o => o.at W (· < W.heap.size)) (fun vs hvs => (h2 vs hvs).1)
  rw [e1] at h3
  exact ⟨l, h3, e3⟩

/-- A slice of octets, as it stands in another one. -/
structure PSl where
  A : Option Addr
  m : Nat
  c : Nat
  b : List Int
def PSl.cells (o : PSl) : List Value := [.slice o.A o.m o.c]
def PSl.at (w : World) (o : PSl) : Prop := Row w (· < w.heap.size) o.A o.m o.c (octs o.b) ∧ Octs o.b ∧ o.c ≤ 140737488351232
theorem lift_pparts {H : Type} {enc : TypeId × Value → H} {W : World} {a : Option Addr} {n c : Nat} {d : DataW H} {p : List MemPlace}
    (h : DataW.Trod enc Try.prog W 0 (fun _ => true) true 37 (.slice a n c) d p) (hz : ∀ x ∈ d.weights Try.prog 37, x ≤ reachBytes) :
    ∃ ls : List (List Int), Parts W a n ls ∧ (∀ i, i < n → (ls.getD i []).length ≤ 140737488351232) ∧ n ≤ c ∧ c ≤ 9223372036854775807 := by
  obtain ⟨vss, h1, h2, h3, h4⟩ := lift_each (fun cs => ∃ o : PSl, cs = o.cells ∧ o.at W) Try.underlying37 (k := 1) (by kernel_rfl) (by decide) h hz (fun fuel cs y hl ht hw => by
    match cs, hl with
    | [c0], _ =>
      obtain ⟨A, n, k, rfl⟩ := slice_cell Try.underlying32 ht
      obtain ⟨l, hr, ho, hb⟩ := lift_bytes Try.underlying32 Try.underlying5 (by kernel_rfl) (d := y.1) (p := y.2) ⟨fuel, ht⟩ (by kernel_rfl) (fun es sp he => by
        refine hw _ ?_
        rw [he]
        unfold DataW.weights
        rw [Try.underlying32]
        exact List.mem_cons_self)
      exact ⟨⟨A, n, k, l⟩, rfl, hr, ho, hb⟩)
  obtain ⟨l, e1, e2, e3⟩ := rows_list PSl.cells (fun o => o.at W) (fun vs hvs => (h2 vs hvs).1)
  rw [e1] at h3
  have hln : l.length = n := e2.trans h1
  have hgd : ∀ i (hi : i < l.length), (l.map (·.b)).getD i [] = (l[i]'hi).b := fun i hi => by
    rw [List.getD_eq_getElem?_getD, List.getElem?_map, List.getElem?_eq_getElem hi]
    rfl
  have hlen : ∀ o ∈ l, o.b.length = o.m := fun o ho => by
    have := (e3 o ho).1.1
    rwa [octs_len] at this
  refine ⟨l.map (·.b), ⟨by simp [hln], by have := h3.2.1; have := h3.2.2.1; omega, ?_⟩, fun i hi => ?_, h3.2.1, h3.2.2.1⟩
  · rcases Nat.eq_zero_or_pos n with h0 | h0
    · exact .inl h0
    · obtain ⟨b, o, e, hp, hlt, hc⟩ := h3.some_ (by decide) h0
      refine .inr ⟨b, o, e, fun i hi => ?_⟩
      have hil : i < l.length := by omega
      have hm := List.getElem_mem hil
      have h5 := hc i (by omega)
      have h6 := flat_get PSl.cells 1 (fun _ => rfl) l i 0 (by decide)
      rw [Nat.mul_one, Nat.add_zero, List.getElem?_eq_getElem hil] at h6
      rw [hgd i hil, hlen _ hm]
      refine ⟨(l[i]'hil).A, (l[i]'hil).c, h5.trans (h6.trans rfl), (e3 _ hm).1.all, (e3 _ hm).2.1⟩
  · have hil : i < l.length := by omega
    have hm := List.getElem_mem hil
    rw [hgd i hil, hlen _ hm]
    have := (e3 _ hm).1.2.1
    have := (e3 _ hm).2.2
    omega
end Go.Proofs.Ythoedknnchaiaaa
