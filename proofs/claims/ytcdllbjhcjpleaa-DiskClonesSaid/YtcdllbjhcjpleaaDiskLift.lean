/-
  The calls of a script that was handed in.
-/
import Derived.Test.YtcdllbjhcjpleaaDeepRow
import Derived.Test.YtcdllbjhcjpleaaLift
import Derived.Test.YtcdllbjhcjpleaaDiskW
import Derived.Lib.SmallJoins
namespace Go.Proofs.Ytcdllbjhcjpleaa
open Go.ChangeShapes Go.WideShapes Go.ChangeAt Go.RowKit
set_option linter.unusedVariables false

theorem lift_dops {H : Type} {enc : TypeId × Value → H} {W : World} {a : Option Addr} {n c : Nat} {d : DataW H} {p : List MemPlace}
    (h : DataW.Trod enc Try.prog W 0 (fun _ => true) true 22 (.slice a n c) d p) (hz : ∀ x ∈ d.weights Try.prog 22, x ≤ reachBytes) :
    ∃ l : List DOp, DOps W (· < W.heap.size) a n c l := by
  obtain ⟨vss, h1, h2, h3, h4⟩ := lift_each (fun cs => ∃ o : DOp, cs = o.cells ∧ o.at W (· < W.heap.size)) Try.underlying22 (k := 4) (by kernel_rfl) (by decide) h hz (fun fuel cs y hl ht hw => by
    obtain ⟨y0, y1, y2, y3, m, hy, _, h0, h1, h2, h3⟩ := Joins.trod_struct4 Try.underlying49 ht
    match cs, hl with
    | [c0, c1, c2, c3], _ =>
      have h0' : DataW.trod enc Try.prog W 0 (fun _ => true) true m 3 [c0] = some y0 := h0
      have h1' : DataW.trod enc Try.prog W 0 (fun _ => true) true m 3 [c1] = some y1 := h1
      have h2' : DataW.trod enc Try.prog W 0 (fun _ => true) true m 3 [c2] = some y2 := h2
      have h3' : DataW.trod enc Try.prog W 0 (fun _ => true) true m 33 [c3] = some y3 := h3
      obtain ⟨k0, rfl, i0⟩ := num_cell Try.underlying3 h0'
      obtain ⟨k1, rfl, i1⟩ := num_cell Try.underlying3 h1'
      obtain ⟨k2, rfl, i2⟩ := num_cell Try.underlying3 h2'
      obtain ⟨A, n, k, rfl⟩ := slice_cell Try.underlying33 h3'
      obtain ⟨l, hr, ho, hb⟩ := lift_bytes Try.underlying33 Try.underlying5 (by kernel_rfl) (d := y3.1) (p := y3.2) ⟨m, h3'⟩ (by kernel_rfl) (fun es sp he => by
        refine hw _ ?_
        rw [hy]
        unfold DataW.weights
        rw [Try.underlying49]
        refine DataW.weights_mem_each (j := 3) (t := 33) (d := y3.1) rfl rfl _ ?_
        rw [he]
        unfold DataW.weights
        rw [Try.underlying33]
        exact List.mem_cons_self)
      exact ⟨⟨k0, k1, k2, A, n, k, l⟩, rfl, hr, ho, i0, i1, i2⟩)
  obtain ⟨l, e1, e2, e3⟩ := rows_list DOp.cells (fun o => o.at W (· < W.heap.size)) (fun vs hvs => (h2 vs hvs).1)
  rw [e1] at h3
  exact ⟨l, h3, e3⟩
end Go.Proofs.Ytcdllbjhcjpleaa
