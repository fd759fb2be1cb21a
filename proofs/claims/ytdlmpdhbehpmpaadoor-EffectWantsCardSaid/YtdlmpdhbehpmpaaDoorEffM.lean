/-
  An effect's octets, text, and what is wanted of an outcome, as data: words, and that octets come back.
-/
import Derived.Test.YtdlmpdhbehpmpaaDoorChangeM
import Derived.Test.YtdlmpdhbehpmpaaDoorEff
import Derived.Test.YtdlmpdhbehpmpaaDoorIdentC
namespace Go.Proofs.YtdlmpdhbehpmpaaDoor
open Go.RowKit
set_option linter.unusedVariables false

/-- May an effect be? The error's number. -/
def codeE (x : Eff) : Int :=
  if x.k < 1 ∨ 11 < x.k then 12 else if 0 ≤ x.a ∧ x.a ≤ 255 ∧ 0 ≤ x.p ∧ x.p ≤ 255 ∧ 0 ≤ x.q ∧ x.q ≤ 65535 then 0 else 4
theorem codeE_zero {x : Eff} : codeE x = 0 ↔ 1 ≤ x.k ∧ x.k ≤ 11 ∧ 0 ≤ x.a ∧ x.a ≤ 255 ∧ 0 ≤ x.p ∧ x.p ≤ 255 ∧ 0 ≤ x.q ∧ x.q ≤ 65535 := by
  unfold codeE
  split
  · constructor <;> intro h <;> omega
  · split
    · constructor <;> intro h <;> omega
    · constructor <;> intro h <;> omega
theorem codeE_three (x : Eff) : codeE x = 0 ∨ codeE x = 4 ∨ codeE x = 12 := by
  unfold codeE
  split
  · exact .inr (.inr rfl)
  · split
    · exact .inl rfl
    · exact .inr (.inl rfl)
def bytesE (x : Eff) : List Int := [x.k, x.a] ++ inOcts (IntKind.u64.wrap x.n) 8 ++ [x.p] ++ inOcts x.q 2
def readE (l : List Int) : Eff := ⟨l.getD 0 0, l.getD 1 0, IntKind.i64.wrap (num ((l.drop 2).take 8)), l.getD 10 0, num ((l.drop 11).take 2)⟩
def getE (l : List Int) : Option Eff := if l.length = 13 ∧ codeE (readE l) = 0 then some (readE l) else none
def valE (l : List Int) : Eff := (getE l).getD zeroEff
theorem getE_some {l : List Int} {x : Eff} (h : getE l = some x) : l.length = 13 ∧ codeE x = 0 ∧ readE l = x := by
  unfold getE at h
  split at h
  · rename_i h'
    obtain rfl := Option.some.inj h
    exact ⟨h'.1, h'.2, rfl⟩
  · cases h
theorem bytesE_len (x : Eff) : (bytesE x).length = 13 := by simp [bytesE, inOcts_len]
theorem bytesE_octs {x : Eff} (h : codeE x = 0) : Octs (bytesE x) := by
  obtain ⟨h1, h2, h3, h4, h5, h6, h7, h8⟩ := codeE_zero.1 h
  unfold bytesE
  refine ((Octs.append ?_ (inOcts_octs _ _)).append ?_).append (inOcts_octs _ _)
  · intro n hn
    simp only [List.mem_cons, List.not_mem_nil, or_false] at hn
    omega
  · intro n hn
    simp only [List.mem_cons, List.not_mem_nil, or_false] at hn
    omega
theorem readE_bytesE {x : Eff} (h : codeE x = 0) (hn : I64 x.n) : readE (bytesE x) = x := by
  obtain ⟨k0, k1, a0, a1, p0, p1, q0, q1⟩ := codeE_zero.1 h
  obtain ⟨n0, n1, n2, n3, n4, n5, n6, n7, hN⟩ : ∃ a b c d e f g h, inOcts (IntKind.u64.wrap x.n) 8 = [a, b, c, d, e, f, g, h] := ⟨_, _, _, _, _, _, _, _, rfl⟩
  obtain ⟨o7, o8, hq⟩ : ∃ u v, inOcts x.q 2 = [u, v] := ⟨_, _, rfl⟩
  have en := num_inOcts (IntKind.u64.wrap x.n) 8 (by rw [IntKind.wrap_u64]; omega) (by rw [IntKind.wrap_u64]; omega)
  have eq := num_inOcts x.q 2 q0 (by omega)
  rw [hN] at en
  rw [hq] at eq
  unfold bytesE
  rw [hN, hq]
  refine Eff.ext' rfl rfl ?_ rfl eq
  show IntKind.i64.wrap (num [n0, n1, n2, n3, n4, n5, n6, n7]) = x.n
  rw [en, IntKind.wrap_u64, IntKind.wrap_i64]
  unfold I64 at hn
  omega
theorem getE_bytesE {x : Eff} (h : codeE x = 0) (hn : I64 x.n) : getE (bytesE x) = some x := by
  unfold getE
  rw [readE_bytesE h hn, if_pos ⟨bytesE_len x, h⟩]
theorem valE_bytesE {x : Eff} (h : codeE x = 0) (hn : I64 x.n) : valE (bytesE x) = x := by unfold valE; rw [getE_bytesE h hn]; rfl
theorem bytesE_readE {l : List Int} (ho : Octs l) (h : l.length = 13) : bytesE (readE l) = l := by
  match l, h with
  | [l0, l1, l2, l3, l4, l5, l6, l7, l8, l9, l10, l11, l12], _ =>
    have e2 := inOcts_num [l2, l3, l4, l5, l6, l7, l8, l9] 8 rfl ((ho.drop 2).take 8)
    have e11 := inOcts_num [l11, l12] 2 rfl ((ho.drop 11).take 2)
    have hz := num_lt [l2, l3, l4, l5, l6, l7, l8, l9] ((ho.drop 2).take 8)
    have hw : IntKind.u64.wrap (IntKind.i64.wrap (num [l2, l3, l4, l5, l6, l7, l8, l9])) = num [l2, l3, l4, l5, l6, l7, l8, l9] := by
      simp only [List.length_cons, List.length_nil] at hz
      rw [IntKind.wrap_u64, IntKind.wrap_i64]
      omega
    show [l0, l1] ++ inOcts (IntKind.u64.wrap (IntKind.i64.wrap (num [l2, l3, l4, l5, l6, l7, l8, l9]))) 8 ++ [l10] ++ inOcts (num [l11, l12]) 2 = _
    rw [hw, e2, e11]
    rfl
theorem bytesE_getE {l : List Int} {x : Eff} (ho : Octs l) (h : getE l = some x) : bytesE x = l := by
  obtain ⟨h1, _, rfl⟩ := getE_some h
  exact bytesE_readE ho h1
theorem codeE_ok {x : Eff} (h : codeE x = 0) (hn : I64 x.n) : x.ok := by
  obtain ⟨k0, k1, a0, a1, p0, p1, q0, q1⟩ := codeE_zero.1 h
  unfold I64 at hn
  simp only [Eff.ok, I64]
  omega
theorem getE_ok {l : List Int} {x : Eff} (h : getE l = some x) : x.ok := by
  obtain ⟨h1, h2, rfl⟩ := getE_some h
  exact codeE_ok h2 (wrap_i64_I64 _)

/-- Asked for at once; later. -/
def nowE (x : Eff) : Bool := decide (1 ≤ x.k ∧ x.k ≤ 6)
def laterE (x : Eff) : Bool := decide (7 ≤ x.k ∧ x.k ≤ 11)
/-- What is wanted of an outcome. -/
def wantE (code : Int) (l : List Eff) (good : Bool) : List Eff :=
  if code = 0 then l.filter nowE ++ (if good = true then l.filter laterE else []) else []
/-- How many both begin with alike. -/
def commonE : List Eff → List Eff → Nat
  | x :: a, y :: b => if x = y then commonE a b + 1 else 0
  | _, _ => 0
theorem commonE_le : ∀ a b : List Eff, commonE a b ≤ a.length ∧ commonE a b ≤ b.length
  | [], b => by simp [commonE]
  | _ :: _, [] => by simp [commonE]
  | x :: a, y :: b => by
    unfold commonE
    have := commonE_le a b
    split
    · simp only [List.length_cons]; omega
    · simp
theorem commonE_take : ∀ a b : List Eff, a.take (commonE a b) = b.take (commonE a b)
  | [], b => by simp [commonE]
  | _ :: _, [] => by simp [commonE]
  | x :: a, y :: b => by
    unfold commonE
    split
    · rename_i h
      rw [List.take_succ_cons, List.take_succ_cons, commonE_take a b, h]
    · simp
theorem commonE_stop : ∀ (a b : List Eff) (x y : Eff), a[commonE a b]? = some x → b[commonE a b]? = some y → x ≠ y
  | [], b, x, y, hx, _ => by simp [commonE] at hx
  | _ :: _, [], x, y, _, hy => by simp [commonE] at hy
  | u :: a, v :: b, x, y, hx, hy => by
    unfold commonE at hx hy
    split at hx
    · rename_i h
      rw [if_pos h] at hy
      rw [List.getElem?_cons_succ] at hx hy
      exact commonE_stop a b x y hx hy
    · rename_i h
      rw [if_neg h] at hy
      simp only [List.getElem?_cons_zero, Option.some.injEq] at hx hy
      rw [← hx, ← hy]
      exact h
theorem commonE_front : ∀ (a b : List Eff), commonE (a ++ b) a = a.length
  | [], b => by cases b <;> rfl
  | x :: a, b => by
    show commonE (x :: (a ++ b)) (x :: a) = _
    unfold commonE
    rw [if_pos rfl, commonE_front a b, List.length_cons]
theorem commonE_want (code : Int) (l : List Eff) : commonE (wantE code l true) (wantE code l false) = (wantE code l false).length := by
  unfold wantE
  split
  · simp only [if_true]
    rw [show (if false = true then l.filter laterE else []) = [] from rfl, List.append_nil]
    exact commonE_front _ _
  · rfl

/-- The word of a kind. -/
def wordE (k : Int) : List UInt8 :=
  if k = 1 then [114, 101, 115, 101, 114, 118, 101] else if k = 2 then [97, 100, 106, 117, 115, 116] else if k = 3 then [114, 101, 108, 101, 97, 115, 101] else if k = 4 then [97, 117, 116, 104, 111, 114, 105, 122, 101] else
  if k = 5 then [108, 97, 98, 101, 108] else if k = 6 then [112, 105, 99, 107] else if k = 7 then [109, 97, 105, 108] else if k = 8 then [114, 101, 99, 101, 105, 112, 116] else if k = 9 then [99, 97, 112, 116, 117, 114, 101] else
  if k = 10 then [114, 101, 112, 97, 121] else if k = 11 then [100, 105, 115, 112, 97, 116, 99, 104] else [63]
/-- An effect's text. -/
def textE (x : Eff) : List UInt8 :=
  wordE x.k ++ [32] ++ Lib.itoa x.a ++ [32] ++ Lib.itoa x.n ++ (if x.p = 0 ∧ x.q = 0 then [] else [32] ++ textId x.p x.q)
end Go.Proofs.YtdlmpdhbehpmpaaDoor
