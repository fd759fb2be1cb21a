/-
  Types that are made of numbers and bools alone (structs, arrays): what a value, and a slice, of one is, out of its reading as data.
-/
import Derived.Test.YthoedknnchaiaaaLift
import Derived.Test.YthoedknnchaiaaaWide
namespace Go.Proofs.Ythoedknnchaiaaa
open Go.ChangeShapes Go.WideShapes Go.ChangeAt Go.RowKit
set_option linter.unusedVariables false

inductive Leaf where
  | num (k : IntKind)
  | flag
def Leaf.ok : Leaf → Value → Prop
  | .num k, v => ∃ n : Int, v = .int k n ∧ (Lit.int k n).wf = true
  | .flag, v => ∃ b : Bool, v = .bool b
inductive Fits : List Leaf → List Value → Prop
  | nil : Fits [] []
  | cons {l : Leaf} {ls : List Leaf} {v : Value} {vs : List Value} : l.ok v → Fits ls vs → Fits (l :: ls) (v :: vs)
theorem Fits.len {ls : List Leaf} {vs : List Value} (h : Fits ls vs) : vs.length = ls.length := by
  induction h with
  | nil => rfl
  | cons _ _ ih => simp [ih]
theorem Fits.app {a b : List Leaf} {x y : List Value} (h : Fits a x) (k : Fits b y) : Fits (a ++ b) (x ++ y) := by
  induction h with
  | nil => exact k
  | cons h1 _ ih => exact .cons h1 ih
theorem Fits.uncons {l : Leaf} {ls : List Leaf} {vs : List Value} (h : Fits (l :: ls) vs) : ∃ v r, vs = v :: r ∧ l.ok v ∧ Fits ls r := by
  cases h with
  | cons h1 h2 => exact ⟨_, _, rfl, h1, h2⟩
theorem Fits.unnil {vs : List Value} (h : Fits [] vs) : vs = [] := by
  cases h
  rfl
theorem Fits.one {ls : List Leaf} {vs : List Value} (h : Fits ls vs) : ∀ u ∈ vs, u.oneCell' = true := by
  induction h with
  | nil => intro u hu; simp at hu
  | @cons l ls v vs h1 _ ih =>
    intro u hu
    rcases List.mem_cons.1 hu with rfl | hu
    · cases l with
      | num k => obtain ⟨n, rfl, _⟩ := h1; rfl
      | flag => obtain ⟨b, rfl⟩ := h1; rfl
    · exact ih u hu

/-- Whatever reads as a value of this type is made of these. -/
def Flat (P : Program) (t : TypeId) (ls : List Leaf) : Prop :=
  ∀ (H : Type) (enc : TypeId × Value → H) (w : World) (base : Nat) (sp : Nat → Bool) (held : Bool) (fuel : Nat) (cs : List Value) (x : DataW H × List MemPlace), DataW.trod enc P w base sp held fuel t cs = some x → Fits ls cs
section
variable {P : Program} {t e : TypeId}
theorem flat_num {k : IntKind} (ht : P.underlying t = some (.int k)) : Flat P t [.num k] := fun H enc w base sp held fuel cs x h => by
  obtain ⟨n, rfl, _, hw⟩ := DataW.trod_int ht h
  exact .cons ⟨n, rfl, hw⟩ .nil
theorem flat_flag (ht : P.underlying t = some .bool) : Flat P t [.flag] := fun H enc w base sp held fuel cs x h => by
  obtain ⟨b, rfl, _⟩ := DataW.trod_bool ht h
  exact .cons ⟨b, rfl⟩ .nil
/-- Fields and what they are made of, one behind another from a place on. -/
def FieldsAt (P : Program) : Nat → List (Field × List Leaf) → Prop
  | _, [] => True
  | o, (f, ls) :: r => f.offset = o ∧ P.cellsOf f.type = ls.length ∧ Flat P f.type ls ∧ FieldsAt P (o + ls.length) r
theorem fields_fit (H : Type) (enc : TypeId × Value → H) (w : World) (base : Nat) (sp : Nat → Bool) (held : Bool) (n : Nat) (cs : List Value) :
    ∀ (r : List (Field × List Leaf)) (o : Nat), (∀ q ∈ r, ∃ y, DataW.trod enc P w base sp held n q.1.type ((cs.drop q.1.offset).take (P.cellsOf q.1.type)) = some y) → FieldsAt P o r → cs.length = o + (r.flatMap (·.2)).length →
      Fits (r.flatMap (·.2)) (cs.drop o) := by
  intro r
  induction r with
  | nil =>
    intro o _ _ hl
    rw [List.drop_of_length_le (by simpa using Nat.le_of_eq hl)]
    exact .nil
  | cons q r ih =>
    intro o hq hf hl
    obtain ⟨f, ls⟩ := q
    obtain ⟨ho, hc, hfl, hr⟩ := hf
    obtain ⟨y, hy⟩ := hq (f, ls) List.mem_cons_self
    have h1 := hfl H enc w base sp held n _ y hy
    simp only [ho, hc] at h1
    simp only [List.flatMap_cons, List.length_append] at hl
    have h2 := ih (o + ls.length) (fun q hq' => hq q (List.mem_cons_of_mem _ hq')) hr (by omega)
    rw [List.flatMap_cons, ← List.take_append_drop ls.length (cs.drop o), List.drop_drop]
    exact h1.app h2
theorem flat_struct {fs : Array Field} (ht : P.underlying t = some (.struct fs)) (lss : List (List Leaf)) (hn : fs.size = lss.length) (hl : FieldsAt P 0 (fs.toList.zip lss)) (hc : P.cellsOf t = lss.flatten.length) : Flat P t lss.flatten :=
  fun H enc w base sp held fuel cs x h => by
    obtain ⟨xs, n, _, _, hlen, hx, hf⟩ := DataW.trod_struct ht h
    have e : (fs.toList.zip lss).flatMap (·.2) = lss.flatten := by
      have : (fs.toList.zip lss).map (·.2) = lss := List.map_snd_zip (by simp [hn])
      conv => rhs; rw [← this]
      rw [List.flatMap]
    have := fields_fit (P := P) H enc w base sp held n cs (fs.toList.zip lss) 0 (fun q hq => by
      have hm := (List.of_mem_zip hq).1
      obtain ⟨i, hi, he⟩ := List.getElem_of_mem hm
      have hi' : i < fs.size := by simpa using hi
      have h1 := hf i q.1 (by rw [← he]; simp [hi'])
      exact ⟨xs[i], by rw [h1, List.getElem?_eq_getElem (by omega)]⟩) hl (by rw [e, hlen, hc]; omega)
    rw [e] at this
    simpa using this
theorem flat_array {n : Nat} {ls : List Leaf} (ht : P.underlying t = some (.array n e)) (he : Flat P e ls) (hk : P.cellsOf e = ls.length) (hc : P.cellsOf t = n * ls.length) : Flat P t (List.replicate n ls).flatten :=
  fun H enc w base sp held fuel cs x h => by
    obtain ⟨xs, m, _, _, hlen, hx, hf⟩ := DataW.trod_array ht h
    have key : ∀ k, k ≤ n → Fits (List.replicate k ls).flatten (cs.take (k * ls.length)) := by
      intro k
      induction k with
      | zero => intro _; simp; exact .nil
      | succ k ih =>
        intro hkn
        have h1 := hf k (by omega)
        rw [List.getElem?_eq_getElem (by omega), hk] at h1
        have h2 := he H enc w base sp held m _ _ h1
        have h3 := ih (by omega)
        have e1 : (List.replicate (k + 1) ls).flatten = (List.replicate k ls).flatten ++ ls := by
          rw [List.replicate_succ', List.flatten_append]
          simp
        have e2 : cs.take ((k + 1) * ls.length) = cs.take (k * ls.length) ++ (cs.drop (k * ls.length)).take ls.length := by
          rw [Nat.add_mul, Nat.one_mul, List.take_add]
        rw [e1, e2]
        exact h3.app h2
    have := key n (Nat.le_refl _)
    rwa [List.take_of_length_le (by rw [hlen, hc]; exact Nat.le_refl _)] at this
/-- A struct, or an array, that was handed in. -/
theorem open_agg {H : Type} {enc : TypeId × Value → H} {w : World} {base : Nat} {sp : Nat → Bool} {held : Bool} {v : Value} {d : DataW H} {p : List MemPlace} {ls : List Leaf} (hv : ∃ cs, v = .agg cs ∧ cs.size = P.cellsOf t) (hf : Flat P t ls)
    (h : DataW.Trod enc P w base sp held t v d p) : ∃ vs : List Value, v = .agg vs.toArray ∧ Fits ls vs := by
  obtain ⟨cs, rfl, _⟩ := hv
  obtain ⟨fuel, hx⟩ := h
  exact ⟨cs.toList, by simp, hf H enc w base sp held fuel _ _ hx⟩
theorem okWide_array {r : Reach} {w : World} {base : Nat} {v : Value} {n : Nat} (ht : P.underlying t = some (.array n e)) (h : Value.okWide P w r base t v) : ∃ cs, v = .agg cs ∧ cs.size = P.cellsOf t := by
  simp only [Value.okWide, ht] at h
  obtain ⟨cs, h1, h2, _⟩ := h
  exact ⟨cs, h1, h2⟩
end

theorem addr_add (a : Addr) (x y z : Nat) (h : x + y = z) : (a.add x).add y = a.add z := by
  subst h
  unfold Addr.add
  by_cases hx : x = 0
  · subst hx; simp
  · by_cases hy : y = 0
    · subst hy; simp
    · rw [if_neg hx, if_neg hy, if_neg (by omega)]
      simp [Nat.add_assoc]
theorem fits_rows {W : World} {e : TypeId} {ls : List Leaf} {a : Addr} {H : Type} {enc : TypeId × Value → H} {elems : List (DataW H × List MemPlace)} {fuel : Nat} (hf : Flat Try.prog e ls) (hk : Try.prog.cellsOf e = ls.length)
    (hel : ∀ i, i < elems.length → (W.cells? 0 (a.add (i * Try.prog.cellsOf e)) (Try.prog.cellsOf e)).bind (DataW.trod enc Try.prog W 0 (fun _ => true) true fuel e) = elems[i]?) :
    ∀ m, m ≤ elems.length → ∃ vss : List (List Value), vss.length = m ∧ (∀ vs ∈ vss, Fits ls vs) ∧ ∀ j, j < m * ls.length → W.cell? (a.add j) = vss.flatten[j]? := by
  intro m
  induction m with
  | zero => intro _; exact ⟨[], rfl, by simp, by intro j hj; omega⟩
  | succ m ih =>
    intro hm
    obtain ⟨vss, h1, h2, h3⟩ := ih (by omega)
    have h := hel m (by omega)
    rw [List.getElem?_eq_getElem (by omega)] at h
    simp only [Option.bind_eq_some_iff] at h
    obtain ⟨cs, hc, ht⟩ := h
    have hfit := hf H enc W 0 _ true fuel cs _ ht
    have hlen : vss.flatten.length = m * ls.length := by
      rw [List.length_flatten]
      have : vss.map List.length = List.replicate m ls.length := by
        rw [List.eq_replicate_iff]
        refine ⟨by simp [h1], fun b hb => ?_⟩
        obtain ⟨vs, hvs, rfl⟩ := List.mem_map.1 hb
        exact (h2 vs hvs).len
      rw [this, List.sum_replicate_nat]
    refine ⟨vss ++ [cs], by simp [h1], ?_, ?_⟩
    · intro vs hvs
      rcases List.mem_append.1 hvs with h | h
      · exact h2 vs h
      · rw [List.mem_singleton.1 h]; exact hfit
    · intro j hj
      rw [List.flatten_append, List.flatten_singleton]
      rcases Nat.lt_or_ge j (m * ls.length) with hlt | hge
      · rw [List.getElem?_append_left (by rw [hlen]; exact hlt)]
        exact h3 j hlt
      · rw [List.getElem?_append_right (by rw [hlen]; exact hge), hlen]
        rw [Nat.add_mul, Nat.one_mul] at hj
        rw [hk] at hc
        have hcell := (World.cells?_some hc).2.2 (j - m * ls.length) (by omega)
        have ea : (a.add (m * ls.length)).add (j - m * ls.length) = a.add j := by
          exact addr_add a _ _ _ (by omega)
        rw [ea] at hcell
        exact hcell
theorem lift_rows {H : Type} {enc : TypeId × Value → H} {W : World} {t e : TypeId} {ls : List Leaf} {a : Option Addr} {n c : Nat} {d : DataW H} {p : List MemPlace} (ht : Try.prog.underlying t = some (.slice e)) (hf : Flat Try.prog e ls) (hk : Try.prog.cellsOf e = ls.length) (hk0 : 0 < ls.length)
    (h : DataW.Trod enc Try.prog W 0 (fun _ => true) true t (.slice a n c) d p) (B : Nat) (hb : Try.prog.bytesOf e = B) (hz : ∀ es sp : List (DataW H), d = .slice es sp → (es.length + sp.length) * Try.prog.bytesOf e ≤ reachBytes) :
    ∃ vss : List (List Value), vss.length = n ∧ (∀ vs ∈ vss, Fits ls vs) ∧ RowK W (· < W.heap.size) ls.length a n c vss.flatten ∧ c * B ≤ 140737488351232 := by
  obtain ⟨fuel, hx0⟩ := h
  rcases DataW.trod_slice ht hx0 with ⟨hcs, _⟩ | ⟨x, len, cap, elems, rest, m, _, hcs, hx, _, hl, hm, hlen, hel, hsp, _⟩
  · simp [Value.cells] at hcs
    obtain ⟨rfl, rfl, rfl⟩ := hcs
    exact ⟨[], rfl, by simp, RowK.nil W _ _ none, by omega⟩
  · simp [Value.cells] at hcs
    obtain ⟨rfl, rfl, rfl⟩ := hcs
    unfold maxLen at hm
    rw [Prod.mk.injEq] at hx
    have hr := hz _ _ hx.1
    simp only [List.length_map, reachBytes, hb, (hsp rfl).1, hlen] at hr
    have e1 : n + (c - n) = c := by omega
    rw [e1] at hr
    obtain ⟨vss, h1, h2, h3⟩ := fits_rows hf hk (by rw [hlen]; exact hel) n (by omega)
    have hvl : vss.flatten.length = n * ls.length := by
      rw [List.length_flatten]
      have : vss.map List.length = List.replicate n ls.length := by
        rw [List.eq_replicate_iff]
        refine ⟨by simp [h1], fun b hb => ?_⟩
        obtain ⟨vs, hvs, rfl⟩ := List.mem_map.1 hb
        exact (h2 vs hvs).len
      rw [this, List.sum_replicate_nat]
    refine ⟨vss, h1, h2, ⟨hvl, hl, hm, ?_⟩, hr⟩
    rcases Nat.eq_zero_or_pos n with h0 | h0
    · exact .inl h0
    · obtain ⟨b, o, s⟩ := x
      have hp : 0 < n * ls.length := Nat.mul_pos h0 hk0
      have h00 := h3 0 hp
      rw [List.getElem?_eq_getElem (by omega)] at h00
      have hs : s = none := by simpa [Addr.add] using World.cell?_spot h00
      subst hs
      refine .inr ⟨b, o, rfl, ?_, fun j hj => ?_⟩
      · have := World.block_lt_of_cell? W _ h00
        simpa [Addr.add] using this
      · have h1 := h3 j hj
        rwa [Addr.add_lit] at h1
def I64 (n : Int) : Prop := -9223372036854775808 ≤ n ∧ n ≤ 9223372036854775807
theorem fits_num {vs : List Value} {ls : List Leaf} (h : Fits (.num .i64 :: ls) vs) : ∃ n r, vs = .int .i64 n :: r ∧ I64 n ∧ Fits ls r := by
  obtain ⟨v, r, rfl, ⟨n, rfl, hw⟩, hr⟩ := h.uncons
  exact ⟨n, r, rfl, bounds_i64 hw, hr⟩
theorem fits_id {vs : List Value} (h : Fits [.num .i64, .num .i64] vs) : ∃ r s, vs = [.int .i64 r, .int .i64 s] ∧ I64 r ∧ I64 s := by
  obtain ⟨r, vs, rfl, h1, h⟩ := fits_num h
  obtain ⟨s, vs, rfl, h2, h⟩ := fits_num h
  obtain rfl := h.unnil
  exact ⟨r, s, rfl, h1, h2⟩
theorem fits_key {vs : List Value} (h : Fits [.num .i64, .num .i64, .num .i64, .flag] vs) : ∃ (r s o : Int) (u : Bool), vs = [.int .i64 r, .int .i64 s, .int .i64 o, .bool u] ∧ I64 r ∧ I64 s ∧ I64 o := by
  obtain ⟨r, vs, rfl, h1, h⟩ := fits_num h
  obtain ⟨s, vs, rfl, h2, h⟩ := fits_num h
  obtain ⟨o, vs, rfl, h3, h⟩ := fits_num h
  obtain ⟨v, rest, rfl, hv, hr⟩ := h.uncons
  obtain ⟨u, rfl⟩ := hv
  obtain rfl := hr.unnil
  exact ⟨r, s, o, u, rfl, h1, h2, h3⟩
theorem fits_four {vs : List Value} (h : Fits [.num .i64, .num .i64, .num .i64, .num .i64] vs) : ∃ (a b c d : Int), vs = [.int .i64 a, .int .i64 b, .int .i64 c, .int .i64 d] ∧ I64 a ∧ I64 b ∧ I64 c ∧ I64 d := by
  obtain ⟨a, vs, rfl, h1, h⟩ := fits_num h
  obtain ⟨b, vs, rfl, h2, h⟩ := fits_num h
  obtain ⟨c, vs, rfl, h3, h⟩ := fits_num h
  obtain ⟨d, vs, rfl, h4, h⟩ := fits_num h
  obtain rfl := h.unnil
  exact ⟨a, b, c, d, rfl, h1, h2, h3, h4⟩
end Go.Proofs.Ythoedknnchaiaaa
