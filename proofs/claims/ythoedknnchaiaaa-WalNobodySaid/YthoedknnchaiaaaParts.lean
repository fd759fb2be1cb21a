/-
  A slice of slices of octets; what a statement's walk is told of one that comes in; what the bound of a narrower statement gives.
-/
import Derived.Test.YthoedknnchaiaaaLift
import Derived.Deep.Matrix
namespace Go.Proofs.Ythoedknnchaiaaa
open Go.ChangeShapes Go.WideShapes Go.ChangeAt Go.RowKit
set_option linter.unusedVariables false

/-- The slice (A, n) holds slices of octets: the lists ls. -/
def Parts (w : World) (A : Option Addr) (n : Nat) (ls : List (List Int)) : Prop :=
  ls.length = n ∧ n ≤ 9223372036854775807 ∧ (n = 0 ∨ ∃ b o, A = some ⟨b, o, none⟩ ∧ ∀ i, i < n → ∃ (a : Option Addr) (c : Nat),
    w.cell? ⟨b, o + i, none⟩ = some (.slice a (ls.getD i []).length c) ∧ Row w (fun _ => True) a (ls.getD i []).length c (octs (ls.getD i [])) ∧ Octs (ls.getD i []))
theorem Parts.at_ {w : World} {A : Option Addr} {n : Nat} {ls : List (List Int)} (h : Parts w A n ls) {i : Nat} (hi : i < n) :
    ∃ b o a c, A = some ⟨b, o, none⟩ ∧ w.cell? ⟨b, o + i, none⟩ = some (.slice a (ls.getD i []).length c) ∧ Row w (fun _ => True) a (ls.getD i []).length c (octs (ls.getD i [])) ∧ Octs (ls.getD i []) := by
  rcases h.2.2 with h0 | ⟨b, o, e, hc⟩
  · omega
  · obtain ⟨a, c, h1, h2, h3⟩ := hc i hi
    exact ⟨b, o, a, c, e, h1, h2, h3⟩
theorem Parts.nil (w : World) (A : Option Addr) : Parts w A 0 [] := ⟨rfl, by omega, .inl rfl⟩
theorem Row.all {w : World} {P : Nat → Prop} {A : Option Addr} {n c : Nat} {xs : List Value} (h : Row w P A n c xs) : Row w (fun _ => True) A n c xs := h.mono fun _ _ => trivial
theorem parts_one {w : World} {P : Nat → Prop} {A : Option Addr} {n c : Nat} {l : List Int} (h : Row w P A n c (octs l)) (ho : Octs l) (t : TypeId) :
    Parts (w.alloc (.cells #[.slice A n c] t)) (some ⟨w.heap.size, 0, none⟩) 1 [l] := by
  obtain rfl : n = l.length := by rw [← h.1, octs_len]
  refine ⟨rfl, by omega, .inr ⟨w.heap.size, 0, rfl, fun i hi => ?_⟩⟩
  obtain rfl : i = 0 := by omega
  exact ⟨A, c, by simp, (h.alloc _).all, ho⟩
theorem join_take (ls : List (List Int)) (j : Nat) (h : j < ls.length) : (ls.take (j + 1)).flatten = (ls.take j).flatten ++ ls.getD j [] := by
  rw [List.take_add_one, List.getElem?_eq_getElem h, List.getD_eq_getElem?_getD, List.getElem?_eq_getElem h, List.flatten_append]
  congr 1
  simp
theorem flat_octs {ls : List (List Int)} (h : ∀ i, i < ls.length → Octs (ls.getD i [])) : Octs ls.flatten := by
  intro x hx
  obtain ⟨l, hl, hxl⟩ := List.mem_flatten.1 hx
  obtain ⟨i, hi, rfl⟩ := List.getElem_of_mem hl
  have := h i hi
  rw [List.getD_eq_getElem?_getD, List.getElem?_eq_getElem hi] at this
  exact this x hxl
theorem Parts.octs_take {w : World} {A : Option Addr} {n : Nat} {ls : List (List Int)} (h : Parts w A n ls) (j : Nat) : Octs (ls.take j).flatten := by
  have h0 : Octs ls.flatten := flat_octs fun i hi => by
    obtain ⟨_, _, _, _, _, _, _, h⟩ := h.at_ (i := i) (by rw [← h.1]; exact hi)
    exact h
  intro x hx
  refine h0 x ?_
  obtain ⟨l, hl, hxl⟩ := List.mem_flatten.1 hx
  exact List.mem_flatten.2 ⟨l, List.mem_of_mem_take hl, hxl⟩

theorem Parts.below {w w' : World} {A : Option Addr} {n : Nat} {ls : List (List Int)} (h : Parts w A n ls) (hb : Below w.heap.size w w') : Parts w' A n ls := by
  refine ⟨h.1, h.2.1, ?_⟩
  rcases h.2.2 with h0 | ⟨b, o, e, hc⟩
  · exact .inl h0
  · refine .inr ⟨b, o, e, fun i hi => ?_⟩
    obtain ⟨a, c, h1, h2, h3⟩ := hc i hi
    exact ⟨a, c, (hb.cell (p := ⟨b, o + i, none⟩) (World.block_lt_of_cell? w _ h1)).trans h1, h2.below hb (fun _ _ h => h), h3⟩

/-- The values of a row are slices of octets, in blocks of P: the lists ls. -/
def Vals (w : World) (P : Nat → Prop) (vs : List Value) (ls : List (List Int)) : Prop :=
  vs.length = ls.length ∧ ∀ i, i < ls.length → ∃ (a : Option Addr) (c : Nat), vs[i]? = some (.slice a (ls.getD i []).length c) ∧ Row w P a (ls.getD i []).length c (octs (ls.getD i [])) ∧ Octs (ls.getD i [])
theorem Vals.nil (w : World) (P : Nat → Prop) : Vals w P [] [] := ⟨rfl, fun i hi => absurd hi (by simp)⟩
theorem Vals.turn {w w' : World} {P Q : Nat → Prop} {vs : List Value} {ls : List (List Int)} (h : Vals w P vs ls) (hr : ∀ {A n c xs}, Row w P A n c xs → Row w' Q A n c xs) : Vals w' Q vs ls :=
  ⟨h.1, fun i hi => by
    obtain ⟨a, c, h1, h2, h3⟩ := h.2 i hi
    exact ⟨a, c, h1, hr h2, h3⟩⟩
theorem Vals.below {w w' : World} {P : Nat → Prop} {B : Nat} {vs : List Value} {ls : List (List Int)} (h : Vals w P vs ls) (hb : Below B w w') (hd : ∀ b, P b → b < w.heap.size → b < B) : Vals w' P vs ls := h.turn fun r => r.below hb hd
theorem Vals.snoc {w : World} {P : Nat → Prop} {vs : List Value} {ls : List (List Int)} {a : Option Addr} {n c : Nat} {l : List Int} (h : Vals w P vs ls) (hr : Row w P a n c (octs l)) (ho : Octs l) : Vals w P (vs ++ [.slice a n c]) (ls ++ [l]) := by
  obtain rfl : n = l.length := by rw [← hr.1, octs_len]
  refine ⟨by simp [h.1], fun i hi => ?_⟩
  rw [List.length_append, List.length_singleton] at hi
  rcases Nat.lt_or_ge i ls.length with hlt | hge
  · obtain ⟨a', c', h1, h2, h3⟩ := h.2 i hlt
    have e : (ls ++ [l]).getD i [] = ls.getD i [] := by rw [List.getD_eq_getElem?_getD, List.getD_eq_getElem?_getD, List.getElem?_append_left hlt]
    rw [e]
    exact ⟨a', c', by rw [List.getElem?_append_left (by rw [h.1]; exact hlt), h1], h2, h3⟩
  · have e0 : i = ls.length := by omega
    subst e0
    have e : (ls ++ [l]).getD ls.length [] = l := by rw [List.getD_eq_getElem?_getD, List.getElem?_append_right (Nat.le_refl _)]; simp
    rw [e]
    exact ⟨a, c, by rw [← h.1, List.getElem?_append_right (Nat.le_refl _)]; simp, hr, ho⟩
theorem Vals.cells {w : World} {P : Nat → Prop} {vs : List Value} {ls : List (List Int)} (h : Vals w P vs ls) : ∀ u ∈ vs, u.oneCell' = true := by
  intro u hu
  obtain ⟨i, hi, rfl⟩ := List.getElem_of_mem hu
  obtain ⟨a, c, h1, _⟩ := h.2 i (by rw [← h.1]; exact hi)
  rw [List.getElem?_eq_getElem hi] at h1
  injection h1 with h1
  rw [h1]
  rfl
theorem Parts.of_own {w : World} {P : Nat → Prop} {base : Nat} {t : TypeId} {A : Option Addr} {n c : Nat} {vs : List Value} {ls : List (List Int)} (h : w.ownsRow base t 1 (.slice A n c) n vs) (hv : Vals w P vs ls) : Parts w A n ls := by
  obtain ⟨hl, hr⟩ := h
  have hn : ls.length = n := by rw [← hv.1, hl, Nat.mul_one]
  rcases hr with ⟨_, h0⟩ | ⟨g, cap, cur, he, hg, hh, hnc, hm, hs, ht⟩
  · exact ⟨hn, by omega, .inl h0⟩
  · injection he with hA _ _
    refine ⟨hn, by unfold maxLen at hm; omega, .inr ⟨g, 0, hA, fun i hi => ?_⟩⟩
    obtain ⟨a, c', h1, h2, h3⟩ := hv.2 i (by rw [hn]; exact hi)
    refine ⟨a, c', ?_, h2.all, h3⟩
    rw [Nat.zero_add, cell_of_row w g i cur t (0, 0) hh, ← h1, ← ht, List.getElem?_take, if_pos (by rw [Nat.mul_one]; exact hi), Array.getElem?_toList]

theorem bulk_of {H : Type} {l : List (DataW H)} (h : Rows.uptoSmall H l = true) : Rows.uptoBulkAll l ≤ 1048576 := of_decide_eq_true h
theorem bulk_app {H : Type} (l r : List (DataW H)) : Rows.uptoBulkAll (l ++ r) = Rows.uptoBulkAll l + Rows.uptoBulkAll r := by
  induction l with
  | nil => simp [Rows.uptoBulkAll]
  | cons x l ih => simp only [List.cons_append, Rows.uptoBulkAll, ih]; omega
theorem bulk_lits {H : Type} (k : IntKind) (zs : List Int) : Rows.uptoBulkAll (lits (H := H) k zs) = zs.length := by
  induction zs with
  | nil => simp [lits, Rows.uptoBulkAll]
  | cons z zs ih =>
    have e : lits (H := H) k (z :: zs) = .lit (.int k z) :: lits k zs := rfl
    rw [e, Rows.uptoBulkAll, ih]
    simp [Rows.uptoBulk]
    omega
theorem bulk_rows {H : Type} (A : Nat → Option Addr) (L : Nat → Nat) (Z : Nat → List Int) : ∀ (rs : List Nat), (∀ r ∈ rs, A r = none → (Z r).length = 0) → ((rs.map fun r => (Z r).take (L r)).flatten).length ≤ Rows.uptoBulkAll (rs.map fun r => Deep.intRow (H := H) .u8 (A r) (L r) (Z r)) := by
  intro rs
  induction rs with
  | nil => intro _; simp
  | cons r rs ih =>
    intro hz
    have ih := ih fun r' h => hz r' (List.mem_cons_of_mem _ h)
    simp only [List.map_cons, List.flatten_cons, List.length_append, Rows.uptoBulkAll]
    have h1 : ((Z r).take (L r)).length ≤ Rows.uptoBulk (Deep.intRow (H := H) .u8 (A r) (L r) (Z r)) := by
      cases ha : A r with
      | none => have := hz r List.mem_cons_self ha; simp; omega
      | some a =>
        simp only [Deep.intRow, Rows.uptoBulk, bulk_lits]
        omega
    omega

theorem lift_parts {H : Type} {enc : TypeId × Value → H} {W : World} {t e q : TypeId} {a : Option Addr} {n c : Nat} {d : DataW H} {p : List MemPlace} (ht : Try.prog.underlying t = some (.slice e)) (he : Try.prog.underlying e = some (.slice q)) (hq : Try.prog.underlying q = some (.int .u8))
    (ce : Try.prog.cellsOf e = 1) (cq : Try.prog.cellsOf q = 1) (h : DataW.Trod enc Try.prog W 0 (fun _ => true) true t (.slice a n c) d p) :
    ∃ ls : List (List Int), Parts W a n ls ∧ ls.flatten.length ≤ Rows.uptoBulk d ∧ n ≤ c ∧ c ≤ 9223372036854775807 := by
  obtain ⟨fuel, hf⟩ := h
  rcases Deep.open_int_rows ht he hq ce cq hf with ⟨hcs, _⟩ | ⟨x, len, cap, A, L, C, Z, hcs, _, hl, hm, hx, hcell⟩
  · simp [Value.cells] at hcs
    obtain ⟨rfl, rfl, rfl⟩ := hcs
    exact ⟨[], Parts.nil W none, by simp, by omega, by omega⟩
  · simp [Value.cells] at hcs
    obtain ⟨rfl, rfl, rfl⟩ := hcs
    unfold maxLen at hm
    simp only [Prod.mk.injEq] at hx
    have hgd : ∀ i, i < n → ((List.range n).map fun r => (Z r).take (L r)).getD i [] = (Z i).take (L i) := by
      intro i hi
      rw [List.getD_eq_getElem?_getD, List.getElem?_map, List.getElem?_range hi]
      rfl
    refine ⟨(List.range n).map fun r => (Z r).take (L r), ⟨by simp, by omega, ?_⟩, ?_, hl, hm⟩
    · rcases Nat.eq_zero_or_pos n with h0 | h0
      · exact .inl h0
      · obtain ⟨b, o, s⟩ := x
        have h00 := (hcell 0 (by omega)).1
        have hs : s = none := by simpa [Addr.add] using World.cell?_spot h00
        subst hs
        refine .inr ⟨b, o, rfl, fun i hi => ?_⟩
        obtain ⟨k0, k1, k2, k3, k4, k5, k6⟩ := hcell i (by omega)
        unfold maxLen at k2
        rw [Addr.add_lit] at k0
        have hlen : ((Z i).take (L i)).length = L i := by rw [List.length_take]; omega
        rw [hgd i hi, hlen]
        refine ⟨A i, C i, k0, ⟨by rw [octs_len, hlen], k1, k2, ?_⟩, fun y hy => by have := bounds_u8 (k4 y (List.mem_of_mem_take hy)); omega⟩
        rcases Nat.eq_zero_or_pos (L i) with l0 | l0
        · exact .inl l0
        · cases ha : A i with
          | none => have := k5 ha; omega
          | some a' =>
            obtain ⟨_, hc⟩ := k6 a' ha
            obtain ⟨b', o', s'⟩ := a'
            have h01 := hc 0 (by omega)
            have hs' : s' = none := by simpa [Addr.add] using World.cell?_spot h01
            subst hs'
            refine .inr ⟨b', o', rfl, trivial, fun j hj => ?_⟩
            have h1 := hc j (by omega)
            rw [Addr.add_lit] at h1
            rw [h1, octs, List.getElem?_map, List.getElem?_take, if_pos hj, List.getElem?_eq_getElem (by omega)]
            simp [List.getD, List.getElem?_eq_getElem (show j < (Z i).length by omega)]
    · rw [hx.1]
      have h1 := bulk_rows (H := H) A L Z (List.range n) (fun r hr ha => by
        obtain ⟨_, _, _, k3, _, k5, _⟩ := hcell r (by have := List.mem_range.1 hr; omega)
        rw [k3]
        exact k5 ha)
      simp only [Rows.uptoBulk]
      omega

/-- A slice of numbers is not longer than its bulk. -/
theorem bulk_ints {H : Type} {enc : TypeId × Value → H} {W : World} {t e : TypeId} {k : IntKind} {a : Option Addr} {n c : Nat} {d : DataW H} {p : List MemPlace} (ht : Try.prog.underlying t = some (.slice e)) (he : Try.prog.underlying e = some (.int k)) (hc : Try.prog.cellsOf e = 1)
    (h : DataW.Trod enc Try.prog W 0 (fun _ => true) true t (.slice a n c) d p) : n ≤ Rows.uptoBulk d := by
  obtain ⟨fuel, hf⟩ := h
  rcases open_ints ht he hc hf with ⟨hcs, _⟩ | ⟨x, l, c', zs, hcs, _, hl, hm, hlen, hx, hcell, hwz⟩
  · simp [Value.cells] at hcs
    obtain ⟨rfl, rfl, rfl⟩ := hcs
    omega
  · simp [Value.cells] at hcs
    obtain ⟨rfl, rfl, rfl⟩ := hcs
    simp only [if_true] at hlen
    simp only [Prod.mk.injEq] at hx
    rw [hx.1]
    simp only [Rows.uptoBulk, bulk_lits, List.length_take, List.length_drop]
    omega
end Go.Proofs.Ythoedknnchaiaaa
