/-
  A slice that was handed in, whose elements may hold slices: element by element.
-/
import Derived.Test.YthoedknnchaiaaaFlat
import Derived.ChangeSame
namespace Go.Proofs.Ythoedknnchaiaaa
open Go.ChangeShapes Go.WideShapes Go.ChangeAt Go.RowKit
set_option linter.unusedVariables false

theorem weights_all {H : Type} (P : Program) (e : TypeId) : ∀ (l : List (DataW H)) (d : DataW H), d ∈ l → ∀ x ∈ d.weights P e, x ∈ DataW.weightsAll P e l
  | [], _, h, _, _ => by cases h
  | y :: l, d, h, x, hx => by
    simp only [DataW.weightsAll, List.mem_append]
    rcases List.mem_cons.1 h with rfl | h
    · exact .inl hx
    · exact .inr (weights_all P e l d h x hx)
theorem each_rows {W : World} {e : TypeId} {k : Nat} {a : Addr} {H : Type} {enc : TypeId × Value → H} {elems : List (DataW H × List MemPlace)} {fuel : Nat} (R : List Value → Prop) (hk : Try.prog.cellsOf e = k)
    (hR : ∀ cs y, y ∈ elems → cs.length = k → DataW.trod enc Try.prog W 0 (fun _ => true) true fuel e cs = some y → R cs)
    (hel : ∀ i, i < elems.length → (W.cells? 0 (a.add (i * Try.prog.cellsOf e)) (Try.prog.cellsOf e)).bind (DataW.trod enc Try.prog W 0 (fun _ => true) true fuel e) = elems[i]?) :
    ∀ m, m ≤ elems.length → ∃ vss : List (List Value), vss.length = m ∧ (∀ vs ∈ vss, R vs ∧ vs.length = k) ∧ ∀ j, j < m * k → W.cell? (a.add j) = vss.flatten[j]? := by
  intro m
  induction m with
  | zero => intro _; exact ⟨[], rfl, by simp, by intro j hj; omega⟩
  | succ m ih =>
    intro hm
    obtain ⟨vss, h1, h2, h3⟩ := ih (by omega)
    have h := hel m (by omega)
    rw [List.getElem?_eq_getElem (by omega)] at h
    simp only [Option.bind_eq_some_iff] at h
    obtain ⟨cs, hc, ht⟩ := h
    rw [hk] at hc
    have hcl := (World.cells?_some hc).2.1
    have hfit := hR cs _ (List.getElem_mem (by omega)) hcl ht
    have hlen : vss.flatten.length = m * k := by
      rw [List.length_flatten]
      have : vss.map List.length = List.replicate m k := by
        rw [List.eq_replicate_iff]
        refine ⟨by simp [h1], fun b hb => ?_⟩
        obtain ⟨vs, hvs, rfl⟩ := List.mem_map.1 hb
        exact (h2 vs hvs).2
      rw [this, List.sum_replicate_nat]
    refine ⟨vss ++ [cs], by simp [h1], ?_, ?_⟩
    · intro vs hvs
      rcases List.mem_append.1 hvs with h | h
      · exact h2 vs h
      · rw [List.mem_singleton.1 h]; exact ⟨hfit, hcl⟩
    · intro j hj
      rw [List.flatten_append, List.flatten_singleton]
      rcases Nat.lt_or_ge j (m * k) with hlt | hge
      · rw [List.getElem?_append_left (by rw [hlen]; exact hlt)]
        exact h3 j hlt
      · rw [List.getElem?_append_right (by rw [hlen]; exact hge), hlen]
        rw [Nat.add_mul, Nat.one_mul] at hj
        have hcell := (World.cells?_some hc).2.2 (j - m * k) (by omega)
        have ea : (a.add (m * k)).add (j - m * k) = a.add j := by
          exact addr_add a _ _ _ (by omega)
        rw [ea] at hcell
        exact hcell
theorem lift_each {H : Type} {enc : TypeId × Value → H} {W : World} {t e : TypeId} {k : Nat} {a : Option Addr} {n c : Nat} {d : DataW H} {p : List MemPlace} (R : List Value → Prop) (ht : Try.prog.underlying t = some (.slice e)) (hk : Try.prog.cellsOf e = k) (hk0 : 0 < k)
    (h : DataW.Trod enc Try.prog W 0 (fun _ => true) true t (.slice a n c) d p) (hz : ∀ x ∈ d.weights Try.prog t, x ≤ reachBytes)
    (hR : ∀ fuel cs y, cs.length = k → DataW.trod enc Try.prog W 0 (fun _ => true) true fuel e cs = some y → (∀ x ∈ y.1.weights Try.prog e, x ≤ reachBytes) → R cs) :
    ∃ vss : List (List Value), vss.length = n ∧ (∀ vs ∈ vss, R vs ∧ vs.length = k) ∧ RowK W (· < W.heap.size) k a n c vss.flatten ∧ c * Try.prog.bytesOf e ≤ reachBytes := by
  obtain ⟨fuel, hx0⟩ := h
  rcases DataW.trod_slice ht hx0 with ⟨hcs, _⟩ | ⟨x, len, cap, elems, rest, m, _, hcs, hx, _, hl, hm, hlen, hel, hsp, _⟩
  · simp [Value.cells] at hcs
    obtain ⟨rfl, rfl, rfl⟩ := hcs
    exact ⟨[], rfl, by simp, RowK.nil W _ _ none, by omega⟩
  · simp [Value.cells] at hcs
    obtain ⟨rfl, rfl, rfl⟩ := hcs
    unfold maxLen at hm
    rw [Prod.mk.injEq] at hx
    have hd := hx.1
    subst hd
    have hw : (DataW.slice (elems.map (·.1)) (rest.map (·.1))).weights Try.prog t = ((elems.map (·.1)).length + (rest.map (·.1)).length) * Try.prog.bytesOf e :: (DataW.weightsAll Try.prog e (elems.map (·.1)) ++ DataW.weightsAll Try.prog e (rest.map (·.1))) := by
      unfold DataW.weights
      rw [ht]
    rw [hw] at hz
    have hr := hz _ List.mem_cons_self
    simp only [List.length_map, (hsp rfl).1, hlen] at hr
    have e1 : n + (c - n) = c := by omega
    rw [e1] at hr
    obtain ⟨vss, h1, h2, h3⟩ := each_rows R hk (fun cs y hy hcl hty => hR m cs y hcl hty fun x hx => hz x (List.mem_cons_of_mem _ (List.mem_append_left _ (weights_all _ _ _ _ (List.mem_map.2 ⟨y, hy, rfl⟩) x hx)))) (by rw [hlen]; exact hel) n (by omega)
    have hvl : vss.flatten.length = n * k := by
      rw [List.length_flatten]
      have : vss.map List.length = List.replicate n k := by
        rw [List.eq_replicate_iff]
        refine ⟨by simp [h1], fun b hb => ?_⟩
        obtain ⟨vs, hvs, rfl⟩ := List.mem_map.1 hb
        exact (h2 vs hvs).2
      rw [this, List.sum_replicate_nat]
    refine ⟨vss, h1, h2, ⟨hvl, hl, hm, ?_⟩, hr⟩
    rcases Nat.eq_zero_or_pos n with h0 | h0
    · exact .inl h0
    · obtain ⟨b, o, s⟩ := x
      have hp : 0 < n * k := Nat.mul_pos h0 hk0
      have h00 := h3 0 hp
      rw [List.getElem?_eq_getElem (by omega)] at h00
      have hs : s = none := by simpa [Addr.add] using World.cell?_spot h00
      subst hs
      refine .inr ⟨b, o, rfl, ?_, fun j hj => ?_⟩
      · have := World.block_lt_of_cell? W _ h00
        simpa [Addr.add] using this
      · have h1 := h3 j hj
        rwa [Addr.add_lit] at h1
/-- From rows of cells to a list. -/
theorem rows_list {α : Type} (f : α → List Value) (Q : α → Prop) : ∀ {vss : List (List Value)}, (∀ vs ∈ vss, ∃ x, vs = f x ∧ Q x) → ∃ l : List α, vss.flatten = l.flatMap f ∧ l.length = vss.length ∧ ∀ x ∈ l, Q x
  | [], _ => ⟨[], rfl, rfl, by simp⟩
  | vs :: vss, h => by
    obtain ⟨x, rfl, hx⟩ := h vs List.mem_cons_self
    obtain ⟨l, h1, h2, h3⟩ := rows_list f Q (vss := vss) fun v hv => h v (List.mem_cons_of_mem _ hv)
    refine ⟨x :: l, by rw [List.flatten_cons, List.flatMap_cons, h1], by simp [h2], fun y hy => ?_⟩
    rcases List.mem_cons.1 hy with rfl | hy
    · exact hx
    · exact h3 y hy
theorem slice_cell {H : Type} {enc : TypeId × Value → H} {W : World} {t e : TypeId} {fuel : Nat} {c : Value} {y : DataW H × List MemPlace} (ht : Try.prog.underlying t = some (.slice e)) (h : DataW.trod enc Try.prog W 0 (fun _ => true) true fuel t [c] = some y) : ∃ A n k, c = .slice A n k := by
  rcases DataW.trod_slice ht h with ⟨hcs, _⟩ | ⟨x, len, cap, elems, rest, m, _, hcs, _⟩
  · injection hcs with hcs _; exact ⟨_, _, _, hcs⟩
  · injection hcs with hcs _; exact ⟨_, _, _, hcs⟩
theorem num_cell {H : Type} {enc : TypeId × Value → H} {W : World} {t : TypeId} {fuel : Nat} {c : Value} {y : DataW H × List MemPlace} (ht : Try.prog.underlying t = some (.int .i64)) (h : DataW.trod enc Try.prog W 0 (fun _ => true) true fuel t [c] = some y) : ∃ k, c = .int .i64 k ∧ I64 k := by
  obtain ⟨k, vs, hk, hk64, hr⟩ := fits_num (flat_num ht H enc W 0 _ true fuel _ _ h)
  injection hk with hk _
  exact ⟨k, hk, hk64⟩
end Go.Proofs.Ythoedknnchaiaaa
