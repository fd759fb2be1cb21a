/-
  Decimal numerals: unlike numbers have unlike ones; what octets they have.
-/
import Derived.Test.YtdlmpdhbehpmpaaDoorMem
import Derived.Lib.ItoaNum
namespace Go.Proofs.YtdlmpdhbehpmpaaDoor
set_option linter.unusedVariables false

/-- The number that some digits spell. -/
def dval (l : List UInt8) : Nat := l.foldl (fun n b => n * 10 + (b.toNat - 48)) 0
theorem dval_snoc (l : List UInt8) (b : UInt8) : dval (l ++ [b]) = dval l * 10 + (b.toNat - 48) := by simp [dval]
theorem digit_nat (d : Nat) (h : d < 10) : (UInt8.ofNat (48 + d)).toNat = 48 + d := by
  rw [UInt8.toNat_ofNat']
  omega
theorem dval_dec (u : Nat) : dval (Lib.decDigits u) = u := by
  induction u using Nat.strongRecOn with
  | _ u ih =>
    rw [Lib.decDigits]
    by_cases h : u < 10
    · rw [dif_pos h]
      have e : dval [UInt8.ofNat (48 + u)] = (UInt8.ofNat (48 + u)).toNat - 48 := by simp only [dval, List.foldl_cons, List.foldl_nil]; omega
      rw [e, digit_nat u h]
      omega
    · rw [dif_neg h, dval_snoc, ih (u / 10) (by omega), digit_nat _ (by omega)]
      omega
theorem dec_chars (u : Nat) : ∀ b ∈ Lib.decDigits u, 48 ≤ b.toNat ∧ b.toNat ≤ 57 := by
  induction u using Nat.strongRecOn with
  | _ u ih =>
    rw [Lib.decDigits]
    by_cases h : u < 10
    · rw [dif_pos h]
      intro b hb
      rw [List.mem_singleton.1 hb, digit_nat u h]
      omega
    · rw [dif_neg h]
      intro b hb
      rcases List.mem_append.1 hb with hb | hb
      · exact ih (u / 10) (by omega) b hb
      · rw [List.mem_singleton.1 hb, digit_nat _ (by omega)]
        omega
theorem dec_inj {a b : Nat} (h : Lib.decDigits a = Lib.decDigits b) : a = b := by rw [← dval_dec a, h, dval_dec]
theorem dec_ne_nil (u : Nat) : Lib.decDigits u ≠ [] := by
  intro h
  have h1 := Lib.decDigits_length u
  have h2 := Lib.nDigits_pos u
  rw [h] at h1
  simp only [List.length_nil] at h1
  omega
theorem itoa_inj {a b : Int} (h : Lib.itoa a = Lib.itoa b) : a = b := by
  unfold Lib.itoa at h
  have key : ∀ u v : Nat, Lib.decDigits u = 45 :: Lib.decDigits v → False := fun u v h => by
    have := dec_chars u 45 (by rw [h]; exact List.mem_cons_self)
    have e : (45 : UInt8).toNat = 45 := rfl
    omega
  by_cases ha : a < 0 <;> by_cases hb : b < 0
  · rw [if_pos ha, if_pos hb] at h
    injection h with _ h
    have := dec_inj h
    omega
  · rw [if_pos ha, if_neg hb] at h
    exact (key _ _ h.symm).elim
  · rw [if_neg ha, if_pos hb] at h
    exact (key _ _ h).elim
  · rw [if_neg ha, if_neg hb] at h
    have := dec_inj h
    omega
theorem itoa_chars (n : Int) : ∀ b ∈ Lib.itoa n, b = 45 ∨ (48 ≤ b.toNat ∧ b.toNat ≤ 57) := by
  intro b hb
  unfold Lib.itoa at hb
  split at hb
  · rcases List.mem_cons.1 hb with h | h
    · exact .inl h
    · exact .inr (dec_chars _ b h)
  · exact .inr (dec_chars _ b hb)
theorem itoa_not (n : Int) (c : UInt8) (h : c.toNat ≠ 45) (h2 : c.toNat < 48 ∨ 57 < c.toNat) : c ∉ Lib.itoa n := by
  intro hc
  rcases itoa_chars n c hc with e | e
  · rw [e] at h
    exact h rfl
  · omega
/-- A text is cut at the first place where an octet stands in one way alone. -/
theorem cut_first {c : UInt8} : ∀ {a b x y : List UInt8}, c ∉ a → c ∉ x → a ++ c :: b = x ++ c :: y → a = x ∧ b = y := by
  intro a
  induction a with
  | nil =>
    intro b x y _ hx h
    cases x with
    | nil =>
      injection h with _ h
      exact ⟨rfl, h⟩
    | cons z x =>
      injection h with h _
      exact absurd (List.mem_cons.2 (.inl h)) hx
  | cons z a ih =>
    intro b x y ha hx h
    cases x with
    | nil =>
      injection h with h _
      exact absurd (List.mem_cons.2 (.inl h.symm)) ha
    | cons u x =>
      injection h with h1 h2
      obtain ⟨h3, h4⟩ := ih (fun h => ha (List.mem_cons_of_mem _ h)) (fun h => hx (List.mem_cons_of_mem _ h)) h2
      exact ⟨by rw [h1, h3], h4⟩

/-- An Id's text, and a key's. -/
def textId (r s : Int) : List UInt8 := Lib.itoa r ++ 46 :: Lib.itoa s
def textKey (r s o : Int) (u : Bool) : List UInt8 := textId r s ++ 47 :: (Lib.itoa o ++ if u then [45] else [])
theorem textId_inj {r s r2 s2 : Int} (h : textId r s = textId r2 s2) : r = r2 ∧ s = s2 := by
  obtain ⟨h1, h2⟩ := cut_first (itoa_not r 46 (by decide) (.inl (by decide))) (itoa_not r2 46 (by decide) (.inl (by decide))) h
  exact ⟨itoa_inj h1, itoa_inj h2⟩
open Classical in
/-- The Id that may be whose text it is. -/
noncomputable def idText (may : Int → Int → Bool) (l : List UInt8) : Option (Int × Int) :=
  if h : ∃ p : Int × Int, may p.1 p.2 = true ∧ textId p.1 p.2 = l then some h.choose else none
theorem idText_some {may : Int → Int → Bool} {l : List UInt8} {r s : Int} (hm : may r s = true) (h : textId r s = l) : idText may l = some (r, s) := by
  have he : ∃ p : Int × Int, may p.1 p.2 = true ∧ textId p.1 p.2 = l := ⟨(r, s), hm, h⟩
  unfold idText
  rw [dif_pos he]
  obtain ⟨h1, h2⟩ := he.choose_spec
  obtain ⟨e1, e2⟩ := textId_inj (h2.trans h.symm)
  rw [show he.choose = (r, s) from Prod.ext e1 e2]
theorem idText_none {may : Int → Int → Bool} {l : List UInt8} (h : ∀ r s, may r s = true → textId r s ≠ l) : idText may l = none := by
  unfold idText
  rw [dif_neg]
  rintro ⟨p, h1, h2⟩
  exact h _ _ h1 h2
theorem idText_may {may : Int → Int → Bool} {l : List UInt8} {p : Int × Int} (h : idText may l = some p) : may p.1 p.2 = true ∧ textId p.1 p.2 = l := by
  unfold idText at h
  split at h
  · rename_i he
    injection h with h
    rw [← h]
    exact he.choose_spec
  · cases h
end Go.Proofs.YtdlmpdhbehpmpaaDoor
