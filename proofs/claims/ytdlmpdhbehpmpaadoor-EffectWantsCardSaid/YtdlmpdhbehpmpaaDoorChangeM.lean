/-
  A change's octets, as data: words, and that they come back.
-/
import Derived.Test.YtdlmpdhbehpmpaaDoorOctN
import Derived.Test.YtdlmpdhbehpmpaaDoorIdentRef
import Derived.Test.YtdlmpdhbehpmpaaDoorChg
namespace Go.Proofs.YtdlmpdhbehpmpaaDoor
open Go.RowKit
set_option linter.unusedVariables false

/-- May a change be? -/
def mayC (x : Chg) : Bool :=
  mayId x.r x.s && decide (1 ≤ x.t ∧ x.t ≤ 1073741824 ∧ 0 ≤ x.k ∧ x.k ≤ 255 ∧ 0 ≤ x.a ∧ x.a ≤ 255 ∧ 0 ≤ x.b ∧ x.b ≤ 255 ∧ 0 ≤ x.p ∧ x.p ≤ 255 ∧ 0 ≤ x.q ∧ x.q ≤ 65535)
theorem mayC_ {x : Chg} (h : mayC x = true) : (0 ≤ x.r ∧ x.r ≤ 3 ∧ 1 ≤ x.s ∧ x.s ≤ 65535) ∧ 1 ≤ x.t ∧ x.t ≤ 1073741824 ∧ 0 ≤ x.k ∧ x.k ≤ 255 ∧ 0 ≤ x.a ∧ x.a ≤ 255 ∧ 0 ≤ x.b ∧ x.b ≤ 255 ∧ 0 ≤ x.p ∧ x.p ≤ 255 ∧ 0 ≤ x.q ∧ x.q ≤ 65535 := by
  simpa [mayC, mayId] using h
/-- A change's octets. -/
def bytesC (x : Chg) : List Int := inOcts x.r 1 ++ inOcts x.s 2 ++ inOcts x.t 4 ++ [x.k, x.a, x.b] ++ inOcts (IntKind.u64.wrap x.n) 8 ++ [x.p] ++ inOcts x.q 2 ++ [67]
/-- What twenty-two octets read as. -/
def readC (l : List Int) : Chg :=
  ⟨l.getD 0 0, num ((l.drop 1).take 2), num ((l.drop 3).take 4), l.getD 7 0, l.getD 8 0, l.getD 9 0, IntKind.i64.wrap (num ((l.drop 10).take 8)), l.getD 18 0, num ((l.drop 19).take 2)⟩
/-- The change that may be whose octets they are. -/
def getC (l : List Int) : Option Chg := if l.length = 22 ∧ l.getD 21 0 = 67 ∧ mayC (readC l) = true then some (readC l) else none

theorem getC_some {l : List Int} {x : Chg} (h : getC l = some x) : l.length = 22 ∧ l.getD 21 0 = 67 ∧ mayC x = true ∧ readC l = x := by
  unfold getC at h
  split at h
  · rename_i h'
    obtain rfl := Option.some.inj h
    exact ⟨h'.1, h'.2.1, h'.2.2, rfl⟩
  · cases h
theorem bytesC_len (x : Chg) : (bytesC x).length = 22 := by simp [bytesC, inOcts_len]
theorem bytesC_octs {x : Chg} (h : mayC x = true) : Octs (bytesC x) := by
  obtain ⟨_, _, _, h1, h2, h3, h4, h5, h6, h7, h8, _, _⟩ := mayC_ h
  unfold bytesC
  refine (((((((inOcts_octs _ _).append (inOcts_octs _ _)).append (inOcts_octs _ _)).append ?_).append (inOcts_octs _ _)).append ?_).append (inOcts_octs _ _)).append ?_
  · intro n hn
    simp only [List.mem_cons, List.not_mem_nil, or_false] at hn
    omega
  · intro n hn
    simp only [List.mem_cons, List.not_mem_nil, or_false] at hn
    omega
  · intro n hn
    simp only [List.mem_cons, List.not_mem_nil, or_false] at hn
    omega
theorem readC_bytesC {x : Chg} (h : mayC x = true) (hn : I64 x.n) : readC (bytesC x) = x := by
  obtain ⟨⟨r0, r1, s0, s1⟩, t0, t1, k0, k1, a0, a1, b0, b1, p0, p1, q0, q1⟩ := mayC_ h
  obtain ⟨o0, hr⟩ : ∃ u, inOcts x.r 1 = [u] := ⟨_, rfl⟩
  obtain ⟨o1, o2, hs⟩ : ∃ u v, inOcts x.s 2 = [u, v] := ⟨_, _, rfl⟩
  obtain ⟨o3, o4, o5, o6, ht⟩ : ∃ a b c d, inOcts x.t 4 = [a, b, c, d] := ⟨_, _, _, _, rfl⟩
  obtain ⟨n0, n1, n2, n3, n4, n5, n6, n7, hN⟩ : ∃ a b c d e f g h, inOcts (IntKind.u64.wrap x.n) 8 = [a, b, c, d, e, f, g, h] := ⟨_, _, _, _, _, _, _, _, rfl⟩
  obtain ⟨o7, o8, hq⟩ : ∃ u v, inOcts x.q 2 = [u, v] := ⟨_, _, rfl⟩
  have er := num_inOcts x.r 1 r0 (by omega)
  have es := num_inOcts x.s 2 (by omega) (by omega)
  have et := num_inOcts x.t 4 (by omega) (by omega)
  have en := num_inOcts (IntKind.u64.wrap x.n) 8 (by rw [IntKind.wrap_u64]; omega) (by rw [IntKind.wrap_u64]; omega)
  have eq := num_inOcts x.q 2 q0 (by omega)
  rw [hr] at er
  rw [hs] at es
  rw [ht] at et
  rw [hN] at en
  rw [hq] at eq
  have eo : o0 = x.r := by simpa [num] using er
  unfold bytesC
  rw [hr, hs, ht, hN, hq]
  refine Chg.ext' eo es et rfl rfl rfl ?_ rfl eq
  show IntKind.i64.wrap (num [n0, n1, n2, n3, n4, n5, n6, n7]) = x.n
  rw [en, IntKind.wrap_u64, IntKind.wrap_i64]
  unfold I64 at hn
  omega
theorem getC_bytesC {x : Chg} (h : mayC x = true) (hn : I64 x.n) : getC (bytesC x) = some x := by
  have e := readC_bytesC h hn
  unfold getC
  have e67 : (bytesC x).getD 21 0 = 67 := by
    unfold bytesC
    rw [List.getD_eq_getElem?_getD, List.getElem?_append_right (by simp [inOcts_len])]
    simp [inOcts_len]
  rw [e, if_pos ⟨bytesC_len x, e67, h⟩]
theorem inOcts_num (l : List Int) (n : Nat) (h : l.length = n) (ho : Octs l) : inOcts (num l) n = l := by
  have hb := num_lt l ho
  rw [h] at hb
  exact num_inj n _ _ (inOcts_len _ _) h (inOcts_octs _ _) ho (num_inOcts _ _ hb.1 hb.2)
theorem bytesC_readC {l : List Int} (ho : Octs l) (h : l.length = 22) (h21 : l.getD 21 0 = 67) : bytesC (readC l) = l := by
  match l, h with
  | [l0, l1, l2, l3, l4, l5, l6, l7, l8, l9, l10, l11, l12, l13, l14, l15, l16, l17, l18, l19, l20, l21], _ =>
    have h21 : l21 = 67 := h21
    subst h21
    have e0 := inOcts_num [l0] 1 rfl (ho.take 1)
    have e1 := inOcts_num [l1, l2] 2 rfl ((ho.drop 1).take 2)
    have e3 := inOcts_num [l3, l4, l5, l6] 4 rfl ((ho.drop 3).take 4)
    have e10 := inOcts_num [l10, l11, l12, l13, l14, l15, l16, l17] 8 rfl ((ho.drop 10).take 8)
    have e19 := inOcts_num [l19, l20] 2 rfl ((ho.drop 19).take 2)
    have hz := num_lt [l10, l11, l12, l13, l14, l15, l16, l17] ((ho.drop 10).take 8)
    have hw : IntKind.u64.wrap (IntKind.i64.wrap (num [l10, l11, l12, l13, l14, l15, l16, l17])) = num [l10, l11, l12, l13, l14, l15, l16, l17] := by
      simp only [List.length_cons, List.length_nil] at hz
      rw [IntKind.wrap_u64, IntKind.wrap_i64]
      omega
    have en0 : num [l0] = l0 := by simp [num]
    rw [en0] at e0
    show inOcts l0 1 ++ inOcts (num [l1, l2]) 2 ++ inOcts (num [l3, l4, l5, l6]) 4 ++ [l7, l8, l9] ++ inOcts (IntKind.u64.wrap (IntKind.i64.wrap (num [l10, l11, l12, l13, l14, l15, l16, l17]))) 8 ++ [l18] ++ inOcts (num [l19, l20]) 2 ++ [67] = _
    rw [hw, e0, e1, e3, e10, e19]
    rfl
theorem bytesC_getC {l : List Int} {x : Chg} (ho : Octs l) (h : getC l = some x) : bytesC x = l := by
  obtain ⟨h1, h2, _, rfl⟩ := getC_some h
  exact bytesC_readC ho h1 h2
theorem wrap_i64_I64 (v : Int) : I64 (IntKind.i64.wrap v) := by
  rw [IntKind.wrap_i64]; unfold I64; omega
theorem mayC_ok {x : Chg} (h : mayC x = true) (hn : I64 x.n) : x.ok := by
  obtain ⟨⟨r0, r1, s0, s1⟩, t0, t1, k0, k1, a0, a1, b0, b1, p0, p1, q0, q1⟩ := mayC_ h
  unfold I64 at hn
  simp only [Chg.ok, I64]
  omega
theorem getC_ok {l : List Int} {x : Chg} (h : getC l = some x) : x.ok := by
  obtain ⟨h1, h2, h3, rfl⟩ := getC_some h
  exact mayC_ok h3 (wrap_i64_I64 _)

/-- The octets of a list of changes. -/
def allC (l : List Chg) : List Int := (l.length : Int) :: l.flatMap bytesC
def manyC : Nat → List Int → Option (List Chg)
  | 0, m => if m = [] then some [] else none
  | n + 1, m => match getC (m.take 22), manyC n (m.drop 22) with
    | some x, some l => some (x :: l)
    | _, _ => none
/-- The list that some octets tell. -/
def listC (b : List Int) : Option (List Chg) := if 1 ≤ b.length ∧ b.getD 0 0 ≤ 48 then manyC (b.getD 0 0).toNat (b.drop 1) else none
theorem flatC_len (l : List Chg) : (l.flatMap bytesC).length = 22 * l.length := by
  induction l with
  | nil => rfl
  | cons x l ih => rw [List.flatMap_cons, List.length_append, ih, bytesC_len, List.length_cons]; omega
theorem allC_len (l : List Chg) : (allC l).length = 1 + 22 * l.length := by
  unfold allC; rw [List.length_cons, flatC_len]; omega
theorem flatC_octs {l : List Chg} (h : ∀ x ∈ l, mayC x = true) : Octs (l.flatMap bytesC) := by
  intro n hn
  obtain ⟨x, hx, hn⟩ := List.mem_flatMap.1 hn
  exact bytesC_octs (h x hx) n hn
theorem allC_octs {l : List Chg} (h : ∀ x ∈ l, mayC x = true) (h48 : l.length ≤ 48) : Octs (allC l) := by
  intro n hn
  rcases List.mem_cons.1 hn with rfl | hn
  · omega
  · exact flatC_octs h n hn
theorem manyC_flat (l : List Chg) (h : ∀ x ∈ l, mayC x = true) (ho : ∀ x ∈ l, I64 x.n) : manyC l.length (l.flatMap bytesC) = some l := by
  induction l with
  | nil => rfl
  | cons x l ih =>
    have e1 : ((x :: l).flatMap bytesC).take 22 = bytesC x := by
      rw [List.flatMap_cons, List.take_append_of_le_length (by rw [bytesC_len]; omega), List.take_of_length_le (by rw [bytesC_len]; omega)]
    have e2 : ((x :: l).flatMap bytesC).drop 22 = l.flatMap bytesC := by
      rw [List.flatMap_cons, List.drop_append_of_le_length (by rw [bytesC_len]; omega), List.drop_of_length_le (by rw [bytesC_len]; omega)]; rfl
    rw [List.length_cons, manyC, e1, e2, getC_bytesC (h x List.mem_cons_self) (ho x List.mem_cons_self), ih (fun y hy => h y (List.mem_cons_of_mem _ hy)) (fun y hy => ho y (List.mem_cons_of_mem _ hy))]
theorem listC_allC (l : List Chg) (h : ∀ x ∈ l, mayC x = true) (ho : ∀ x ∈ l, I64 x.n) (h48 : l.length ≤ 48) : listC (allC l) = some l := by
  have e : (allC l).getD 0 0 = l.length := rfl
  have ed : (allC l).drop 1 = l.flatMap bytesC := rfl
  unfold listC
  rw [if_pos ⟨by rw [allC_len]; omega, by rw [e]; omega⟩, e, ed, Int.toNat_natCast]
  exact manyC_flat l h ho
theorem manyC_some (n : Nat) : ∀ (m : List Int) (l : List Chg), Octs m → manyC n m = some l → l.length = n ∧ l.flatMap bytesC = m ∧ ∀ x ∈ l, mayC x = true ∧ x.ok := by
  induction n with
  | zero =>
    intro m l _ h
    unfold manyC at h
    split at h
    · rename_i hm
      obtain rfl := Option.some.inj h
      exact ⟨rfl, hm.symm, by simp⟩
    · cases h
  | succ n ih =>
    intro m l ho h
    unfold manyC at h
    split at h
    · rename_i x l' h1 h2
      obtain rfl := Option.some.inj h
      obtain ⟨e1, e2, e3⟩ := ih _ _ (ho.drop 22) h2
      have hb := bytesC_getC (ho.take 22) h1
      refine ⟨by rw [List.length_cons, e1], by rw [List.flatMap_cons, hb, e2, List.take_append_drop], fun y hy => ?_⟩
      rcases List.mem_cons.1 hy with rfl | hy
      · exact ⟨(getC_some h1).2.2.1, getC_ok h1⟩
      · exact e3 y hy
    · cases h
theorem listC_some {b : List Int} {l : List Chg} (ho : Octs b) (h : listC b = some l) : allC l = b ∧ l.length ≤ 48 ∧ ∀ x ∈ l, mayC x = true ∧ x.ok := by
  unfold listC at h
  split at h
  · rename_i hc
    obtain ⟨e1, e2, e3⟩ := manyC_some _ _ _ (ho.drop 1) h
    have hz := ho.getD 0
    refine ⟨?_, by omega, e3⟩
    unfold allC
    rw [e2, e1]
    match b, hc.1 with
    | z :: b, _ =>
      have hz : 0 ≤ z := hz.1
      show ((z.toNat : Nat) : Int) :: b = z :: b
      rw [Int.toNat_of_nonneg hz]
  · cases h
end Go.Proofs.YtdlmpdhbehpmpaaDoor
