/-
  What a statement's walk is told of an argument: out of its reading as data.
-/
import Derived.Test.YthoedknnchaiaaaMem
import Derived.SizedLaws
import Derived.Deep.SlicePairs
import Derived.ChangeArms
import Derived.ShutString
import Derived.ChangeOld
namespace Go.Proofs.Ythoedknnchaiaaa
open Go.ChangeShapes Go.WideShapes Go.ChangeAt Go.RowKit
set_option linter.unusedVariables false

theorem own : ownKnob Try.prog.godebug = none := by kernel_rfl
theorem laidOut : laidOutB Try.prog = true := by kernel_rfl

/-- A slice of numbers: the first n cells. -/
theorem lift_ints {H : Type} {enc : TypeId × Value → H} {W : World} {t e : TypeId} {k : IntKind} {a : Option Addr} {n c : Nat} {d : DataW H} {p : List MemPlace} (ht : Try.prog.underlying t = some (.slice e)) (he : Try.prog.underlying e = some (.int k)) (hc : Try.prog.cellsOf e = 1)
    (h : DataW.Trod enc Try.prog W 0 (fun _ => true) true t (.slice a n c) d p) (B : Nat) (hb : Try.prog.bytesOf e = B) (hz : ∀ es sp : List (DataW H), d = .slice es sp → (es.length + sp.length) * Try.prog.bytesOf e ≤ reachBytes) :
    ∃ l : List Int, Row W (· < W.heap.size) a n c (l.map (.int k)) ∧ (∀ x ∈ l, (Lit.int k x).wf = true) ∧ c * B ≤ 140737488351232 := by
  obtain ⟨fuel, hf⟩ := h
  rcases open_ints ht he hc hf with ⟨hcs, _⟩ | ⟨x, l, c', zs, hcs, _, hl, hm, hlen, hx, hcell, hwz⟩
  · simp [Value.cells] at hcs
    obtain ⟨rfl, rfl, rfl⟩ := hcs
    exact ⟨[], Row.nil W _ none, by simp, by omega⟩
  · simp [Value.cells] at hcs
    obtain ⟨rfl, rfl, rfl⟩ := hcs
    unfold maxLen at hm
    simp only [if_true] at hlen
    simp only [Prod.mk.injEq] at hx
    have hr := hz _ _ hx.1
    simp only [lits, List.length_map, List.length_take, List.length_drop, reachBytes, hb] at hr
    have e1 : min n zs.length + (zs.length - n) = c := by omega
    rw [e1] at hr
    refine ⟨zs.take n, ⟨by simp; omega, hl, hm, ?_⟩, fun y hy => hwz y (List.mem_of_mem_take hy), hr⟩
    rcases Nat.eq_zero_or_pos n with h0 | h0
    · exact .inl h0
    · obtain ⟨b, o, s⟩ := x
      have h00 := hcell 0 (by omega)
      have hs : s = none := by simpa [Addr.add] using World.cell?_spot h00
      subst hs
      refine .inr ⟨b, o, rfl, ?_, fun j hj => ?_⟩
      · have := World.block_lt_of_cell? W _ h00
        simpa [Addr.add] using this
      · have h1 := hcell j (by omega)
        rw [Addr.add_lit] at h1
        rw [h1, List.getElem?_map, List.getElem?_take, if_pos hj, List.getElem?_eq_getElem (by omega)]
        simp [List.getD, List.getElem?_eq_getElem (show j < zs.length by omega)]
theorem lift_bytes {H : Type} {enc : TypeId × Value → H} {W : World} {t e : TypeId} {a : Option Addr} {n c : Nat} {d : DataW H} {p : List MemPlace} (ht : Try.prog.underlying t = some (.slice e)) (he : Try.prog.underlying e = some (.int .u8)) (hc : Try.prog.cellsOf e = 1)
    (h : DataW.Trod enc Try.prog W 0 (fun _ => true) true t (.slice a n c) d p) (hb : Try.prog.bytesOf e = 1) (hz : ∀ es sp : List (DataW H), d = .slice es sp → (es.length + sp.length) * Try.prog.bytesOf e ≤ reachBytes) :
    ∃ l : List Int, Row W (· < W.heap.size) a n c (octs l) ∧ Octs l ∧ c ≤ 140737488351232 := by
  obtain ⟨l, h1, h2, h3⟩ := lift_ints ht he hc h 1 hb hz
  exact ⟨l, h1, fun x hx => by have := bounds_u8 (h2 x hx); omega, by omega⟩

/-- A slice of pairs of numbers. -/
def Pairs (w : World) (A : Option Addr) (n : Nat) (f g : Nat → Int) : Prop :=
  n = 0 ∨ ∃ b o, A = some ⟨b, o, none⟩ ∧ b < w.heap.size ∧ ∀ i, i < n → w.cell? ⟨b, o + i * 2, none⟩ = some (.int .i64 (f i)) ∧ w.cell? ⟨b, o + i * 2 + 1, none⟩ = some (.int .i64 (g i)) ∧
    -9223372036854775808 ≤ f i ∧ f i ≤ 9223372036854775807 ∧ -9223372036854775808 ≤ g i ∧ g i ≤ 9223372036854775807
theorem lift_pairs {H : Type} {enc : TypeId × Value → H} {W : World} {t e : TypeId} {f0 f1 : Field} {a : Option Addr} {n c : Nat} {d : DataW H} {p : List MemPlace} (ht : Try.prog.underlying t = some (.slice e)) (he : Try.prog.underlying e = some (.struct #[f0, f1]))
    (ce : Try.prog.cellsOf e = 2) (o0 : f0.offset = 0) (o1 : f1.offset = 1) (c0 : Try.prog.cellsOf f0.type = 1) (c1 : Try.prog.cellsOf f1.type = 1) (u0 : Try.prog.underlying f0.type = some (.int .i64)) (u1 : Try.prog.underlying f1.type = some (.int .i64))
    (h : DataW.Trod enc Try.prog W 0 (fun _ => true) true t (.slice a n c) d p) :
    ∃ f g : Nat → Int, Pairs W a n f g ∧ n ≤ c ∧ c ≤ 9223372036854775807 := by
  obtain ⟨fuel, hf⟩ := h
  rcases Deep.open_slice_pairs ht he ce o0 o1 c0 c1 hf with ⟨hcs, _⟩ | ⟨x, l, c', m, q, V0, V1, D0, D1, P0, P1, hcs, _, hl, hm, hmm, _, hcell⟩
  · simp [Value.cells] at hcs
    obtain ⟨rfl, rfl, rfl⟩ := hcs
    exact ⟨fun _ => 0, fun _ => 0, .inl rfl, by omega, by omega⟩
  · simp [Value.cells] at hcs
    obtain ⟨rfl, rfl, rfl⟩ := hcs
    unfold maxLen at hm
    simp only [if_true] at hmm
    subst hmm
    refine ⟨fun i => intOf (V0 i), fun i => intOf (V1 i), ?_, hl, hm⟩
    rcases Nat.eq_zero_or_pos n with h0 | h0
    · exact .inl h0
    · obtain ⟨b, o, s⟩ := x
      have h00 := (hcell 0 (by omega)).1
      have hs : s = none := by simpa [Addr.add] using World.cell?_spot h00
      subst hs
      refine .inr ⟨b, o, rfl, ?_, fun j hj => ?_⟩
      · have := World.block_lt_of_cell? W _ h00
        simpa [Addr.add] using this
      · obtain ⟨k0, k1, r0, r1⟩ := hcell j (by omega)
        obtain ⟨z0, e0, _, w0⟩ := DataW.trod_int u0 r0
        obtain ⟨z1, e1, _, w1⟩ := DataW.trod_int u1 r1
        simp only [List.cons.injEq, and_true] at e0 e1
        rw [Addr.add_lit] at k0 k1
        rw [← Nat.add_assoc] at k1
        rw [e0] at k0
        rw [e1] at k1
        have b0 := bounds_i64 w0
        have b1 := bounds_i64 w1
        simp only [e0, e1, intOf]
        exact ⟨k0, k1, b0.1, b0.2, b1.1, b1.2⟩
end Go.Proofs.Ythoedknnchaiaaa
