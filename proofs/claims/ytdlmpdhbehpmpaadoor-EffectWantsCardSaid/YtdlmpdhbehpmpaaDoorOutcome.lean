/-
  An outcome that was handed in: a number, and effects.
-/
import Derived.Test.YtdlmpdhbehpmpaaDoorEff
import Derived.ChangeSame
namespace Go.Proofs.YtdlmpdhbehpmpaaDoor
open Go.ChangeShapes Go.WideShapes Go.ChangeAt Go.RowKit
set_option linter.unusedVariables false

theorem lift_out {H : Type} {enc : TypeId × Value → H} {W : World} {v : Value} {d : DataW H} {p : List MemPlace} (hv : ∃ cs, v = .agg cs ∧ cs.size = Tryd.prog.cellsOf 42)
    (h : DataW.Trod enc Tryd.prog W 0 (fun _ => true) true 42 v d p) (hz : ∀ n ∈ d.weights Tryd.prog 42, n ≤ reachBytes) :
    ∃ (k : Int) (A : Option Addr) (n c : Nat) (l : List Eff), v = .agg #[.int .i64 k, .slice A n c] ∧ I64 k ∧ RowK W (· < W.heap.size) 5 A n c (effs l) ∧ (∀ x ∈ l, x.ok) ∧ c * 40 ≤ 140737488351232 := by
  obtain ⟨cs, rfl, hs⟩ := hv
  have hs2 : cs.size = 2 := hs.trans (by kernel_rfl)
  obtain ⟨cl⟩ := cs
  match cl, hs2 with
  | [c0, c1], _ =>
    obtain ⟨fuel, hx⟩ := h
    obtain ⟨y0, y1, m, hd, _, h0, h1⟩ := trod_struct2 Tryd.underlying42 hx
    rw [Prod.mk.injEq] at hd
    obtain ⟨rfl, _⟩ := hd
    have h0' : DataW.trod enc Tryd.prog W 0 (fun _ => true) true m 29 [c0] = some y0 := h0
    have h1' : DataW.trod enc Tryd.prog W 0 (fun _ => true) true m 40 [c1] = some y1 := h1
    obtain ⟨k, vs, hk, hk64, hr⟩ := fits_num (flat_num Tryd.underlying29 H enc W 0 _ true m _ _ h0')
    injection hk with hk _
    subst hk
    have hsl : ∃ A n c, c1 = .slice A n c := by
      rcases DataW.trod_slice Tryd.underlying40 h1' with ⟨hcs, _⟩ | ⟨x, len, cap, elems, rest, m, _, hcs, _⟩
      · injection hcs with hcs _; exact ⟨_, _, _, hcs⟩
      · injection hcs with hcs _; exact ⟨_, _, _, hcs⟩
    obtain ⟨A, n, c, rfl⟩ := hsl
    obtain ⟨vss, v1, v2, v3, v4⟩ := lift_rows Tryd.underlying40 flat_eff (by kernel_rfl) (by decide) (d := y1.1) (p := y1.2) ⟨m, h1'⟩ 40 (by kernel_rfl) (fun es sp he => by
      have hm : (es.length + sp.length) * Tryd.prog.bytesOf 25 ∈ (DataW.agg [y0.1, y1.1]).weights Tryd.prog 42 := by
        unfold DataW.weights
        rw [Tryd.underlying42]
        refine DataW.weights_mem_each (j := 1) (t := 40) (d := y1.1) rfl rfl _ ?_
        rw [he]
        unfold DataW.weights
        rw [Tryd.underlying40]
        exact List.mem_cons_self
      exact hz _ hm)
    obtain ⟨l, l1, l2, l3⟩ := fits_effs v2
    rw [l1] at v3
    exact ⟨k, A, n, c, l, rfl, hk64, v3, l3, v4⟩
end Go.Proofs.YtdlmpdhbehpmpaaDoor
