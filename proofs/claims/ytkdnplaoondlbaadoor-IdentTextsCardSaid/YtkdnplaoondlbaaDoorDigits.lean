/-
  Digits and numbers: which texts are numerals, and which of two of one length is less.
-/
import Derived.Test.YtkdnplaoondlbaaDoorNumeral
import GoSem.Op.String
namespace Go.Proofs.YtkdnplaoondlbaaDoor
set_option linter.unusedVariables false

def Digs (D : List UInt8) : Prop := ∀ b ∈ D, 48 ≤ b.toNat ∧ b.toNat ≤ 57
theorem dval_from (D : List UInt8) : ∀ n : Nat, D.foldl (fun n b => n * 10 + (b.toNat - 48)) n = n * 10 ^ D.length + dval D := by
  induction D with
  | nil => intro n; simp [dval]
  | cons b D ih =>
    intro n
    have e0 : dval (b :: D) = (b.toNat - 48) * 10 ^ D.length + dval D := by
      show D.foldl _ (0 * 10 + (b.toNat - 48)) = _
      rw [ih, Nat.zero_mul, Nat.zero_add]
    rw [List.foldl_cons, ih, e0, List.length_cons, Nat.add_mul, Nat.pow_succ, Nat.mul_assoc, Nat.mul_comm 10, Nat.add_assoc]
theorem dval_cons (b : UInt8) (D : List UInt8) : dval (b :: D) = (b.toNat - 48) * 10 ^ D.length + dval D := by
  show D.foldl _ (0 * 10 + (b.toNat - 48)) = _
  rw [dval_from, Nat.zero_mul, Nat.zero_add]
theorem dval_lt {D : List UInt8} (h : Digs D) : dval D < 10 ^ D.length := by
  induction D with
  | nil => simp [dval]
  | cons b D ih =>
    have h1 := ih fun x hx => h x (List.mem_cons_of_mem _ hx)
    have h2 := h b List.mem_cons_self
    rw [dval_cons, List.length_cons, Nat.pow_succ]
    have h3 : (b.toNat - 48) * 10 ^ D.length ≤ 9 * 10 ^ D.length := Nat.mul_le_mul_right _ (by omega)
    omega
theorem less_val : ∀ (x y : List UInt8), x.length = y.length → Digs x → Digs y → Op.bytesLess x y = decide (dval x < dval y)
  | [], [], _, _, _ => by simp [Op.bytesLess]
  | [], _ :: _, h, _, _ => by simp at h
  | _ :: _, [], h, _, _ => by simp at h
  | a :: x, b :: y, h, hx, hy => by
    have hl : x.length = y.length := by simpa using h
    have dx : Digs x := fun c hc => hx c (List.mem_cons_of_mem _ hc)
    have dy : Digs y := fun c hc => hy c (List.mem_cons_of_mem _ hc)
    have ha := hx a List.mem_cons_self
    have hb := hy b List.mem_cons_self
    rw [Op.bytesLess, less_val x y hl dx dy, dval_cons, dval_cons, hl]
    have lx := dval_lt dx
    have ly := dval_lt dy
    rw [hl] at lx
    rw [Bool.eq_iff_iff, Bool.or_eq_true, Bool.and_eq_true, decide_eq_true_iff, decide_eq_true_iff, beq_iff_eq, decide_eq_true_iff, UInt8.lt_iff_toNat_lt]
    generalize 10 ^ y.length = T at *
    rcases Nat.lt_trichotomy a.toNat b.toNat with hlt | he | hgt
    · refine ⟨fun _ => ?_, fun _ => .inl hlt⟩
      have : (a.toNat - 48 + 1) * T ≤ (b.toNat - 48) * T := Nat.mul_le_mul_right _ (by omega)
      rw [Nat.add_mul] at this
      omega
    · have e : a = b := UInt8.toNat_inj.1 he
      subst e
      constructor
      · rintro (h | ⟨_, h⟩)
        · omega
        · omega
      · intro h
        exact .inr ⟨rfl, by omega⟩
    · constructor
      · rintro (h | ⟨h, _⟩)
        · omega
        · rw [h] at hgt; omega
      · intro h
        have : (b.toNat - 48 + 1) * T ≤ (a.toNat - 48) * T := Nat.mul_le_mul_right _ (by omega)
        rw [Nat.add_mul] at this
        omega
theorem head_app {E : List UInt8} (F : List UInt8) (h : E ≠ []) : (E ++ F).head? = E.head? := by
  cases E with
  | nil => exact absurd rfl h
  | cons b E => rfl
theorem snoc_form (D : List UInt8) (h : D ≠ []) : ∃ E b, D = E ++ [b] := ⟨D.dropLast, D.getLast h, (List.dropLast_concat_getLast h).symm⟩
theorem dval_pos {D : List UInt8} (h : Digs D) (hne : D ≠ []) (hz : D.head? ≠ some 48) : 1 ≤ dval D := by
  cases D with
  | nil => exact absurd rfl hne
  | cons b D =>
    have hb := h b List.mem_cons_self
    have hb2 : b.toNat ≠ 48 := fun e => hz (by rw [List.head?_cons]; congr 1; exact UInt8.toNat_inj.1 e)
    rw [dval_cons]
    have h1 : 1 * 10 ^ D.length ≤ (b.toNat - 48) * 10 ^ D.length := Nat.mul_le_mul_right _ (by omega)
    have h2 : 0 < 10 ^ D.length := Nat.pow_pos (by omega)
    omega
/-- A numeral without a nought ahead is the numeral of its number. -/
theorem canon (n : Nat) : ∀ (D : List UInt8), D.length = n → Digs D → D ≠ [] → (1 < D.length → D.head? ≠ some 48) → Lib.decDigits (dval D) = D := by
  induction n with
  | zero => intro D hl h hne; exact absurd (List.eq_nil_of_length_eq_zero hl) hne
  | succ n ih =>
    intro D hl h hne hz
    obtain ⟨E, b, rfl⟩ := snoc_form D hne
    have hb := h b (by simp)
    have hof : UInt8.ofNat (48 + (b.toNat - 48)) = b := by rw [show 48 + (b.toNat - 48) = b.toNat by omega, UInt8.ofNat_toNat]
    rw [List.length_append, List.length_singleton] at hl
    have hE : Digs E := fun x hx => h x (by simp [hx])
    rw [dval_snoc, Lib.decDigits]
    by_cases he : E = []
    · subst he
      have e0 : dval [] = 0 := rfl
      rw [e0, Nat.zero_mul, Nat.zero_add, dif_pos (by omega), hof]
      rfl
    · have hlE : 1 ≤ E.length := by
        rcases Nat.eq_zero_or_pos E.length with h0 | h0
        · exact absurd (List.eq_nil_of_length_eq_zero h0) he
        · exact h0
      have hh : E.head? ≠ some 48 := by
        have := hz (by rw [List.length_append, List.length_singleton]; omega)
        rwa [head_app _ he] at this
      have hp := dval_pos hE he hh
      rw [dif_neg (by omega), show (dval E * 10 + (b.toNat - 48)) / 10 = dval E by omega, show (dval E * 10 + (b.toNat - 48)) % 10 = b.toNat - 48 by omega, hof, ih E (by omega) hE he (fun _ => hh)]
theorem dec_head (u : Nat) : 1 ≤ u → (Lib.decDigits u).head? ≠ some 48 := by
  induction u using Nat.strongRecOn with
  | _ u ih =>
    intro h1
    rw [Lib.decDigits]
    by_cases h : u < 10
    · rw [dif_pos h]
      intro e
      rw [List.head?_cons] at e
      injection e with e
      have := digit_nat u h
      rw [e] at this
      have h48 : (48 : UInt8).toNat = 48 := rfl
      omega
    · rw [dif_neg h, head_app _ (dec_ne_nil _)]
      exact ih (u / 10) (by omega) (by omega)
theorem dec_len {u k : Nat} (hu : u < 10 ^ k) (hk : 1 ≤ k) : (Lib.decDigits u).length ≤ k := by
  rcases Nat.lt_or_ge k (Lib.decDigits u).length with h | h
  · exfalso
    have hne := dec_ne_nil u
    have hu1 : 1 ≤ u := by
      rcases Nat.eq_zero_or_pos u with h0 | h0
      · subst h0
        rw [Lib.decDigits, dif_pos (by omega)] at h
        simp only [List.length_singleton] at h
        omega
      · exact h0
    have hd := dec_chars u
    have hh := dec_head u hu1
    have hv := dval_dec u
    generalize Lib.decDigits u = D at *
    cases D with
    | nil => exact hne rfl
    | cons b D =>
      have hb := hd b List.mem_cons_self
      have hb2 : b.toNat ≠ 48 := fun e => hh (by rw [List.head?_cons]; congr 1; exact UInt8.toNat_inj.1 e)
      rw [dval_cons] at hv
      have h1 : 1 * 10 ^ D.length ≤ (b.toNat - 48) * 10 ^ D.length := Nat.mul_le_mul_right _ (by omega)
      have h2 : 10 ^ k ≤ 10 ^ D.length := Nat.pow_le_pow_right (by omega) (by rw [List.length_cons] at h; omega)
      omega
  · exact h

/-- A number's range. -/
def In64 (n : Int) : Prop := -9223372036854775808 ≤ n ∧ n ≤ 9223372036854775807
open Classical in
/-- The number whose numeral it is. -/
noncomputable def numText (l : List UInt8) : Option Int := if h : ∃ n : Int, In64 n ∧ Lib.itoa n = l then some h.choose else none
theorem numText_some {l : List UInt8} {n : Int} (hn : In64 n) (h : Lib.itoa n = l) : numText l = some n := by
  have he : ∃ n : Int, In64 n ∧ Lib.itoa n = l := ⟨n, hn, h⟩
  unfold numText
  rw [dif_pos he]
  obtain ⟨h1, h2⟩ := he.choose_spec
  rw [show he.choose = n from itoa_inj (h2.trans h.symm)]
theorem numText_none {l : List UInt8} (h : ∀ n, In64 n → Lib.itoa n ≠ l) : numText l = none := by
  unfold numText
  rw [dif_neg]
  rintro ⟨n, h1, h2⟩
  exact h n h1 h2
theorem numText_is {l : List UInt8} {n : Int} (h : numText l = some n) : In64 n ∧ Lib.itoa n = l := by
  unfold numText at h
  split at h
  · rename_i he
    injection h with h
    rw [← h]
    exact he.choose_spec
  · cases h

/-- The digits of a numeral, and the greatest ones, by its sign. -/
def top (neg : Bool) : Nat := if neg then 9223372036854775808 else 9223372036854775807
def signed (neg : Bool) (D : List UInt8) : List UInt8 := if neg then 45 :: D else D
/-- What is refused. -/
def Refused (neg : Bool) (D : List UInt8) : Prop := D = [] ∨ 19 < D.length ∨ (1 < D.length ∧ D.head? = some 48) ∨ ¬ Digs D ∨ (D.length = 19 ∧ top neg < dval D) ∨ (neg = true ∧ D = [48])
theorem numeral_yes {neg : Bool} {D : List UInt8} (h : ¬ Refused neg D) : numText (signed neg D) = some (if neg then -(dval D : Int) else (dval D : Int)) := by
  simp only [Refused, not_or, Classical.not_not] at h
  obtain ⟨h1, h2, h3, h4, h5, h6⟩ := h
  have hc := canon _ D rfl h4 h1 (fun hl e => h3 ⟨hl, e⟩)
  have hv : dval D ≤ top neg := by
    rcases Nat.lt_or_ge D.length 19 with hl | hl
    · have a1 := dval_lt h4
      have a2 : 10 ^ D.length ≤ 10 ^ 18 := Nat.pow_le_pow_right (by omega) (by omega)
      unfold top
      split <;> omega
    · have : ¬ top neg < dval D := fun h => h5 ⟨by omega, h⟩
      omega
  cases neg with
  | false =>
    simp only [top, Bool.false_eq_true, if_false] at hv
    refine numText_some (n := (dval D : Int)) ⟨by omega, by omega⟩ ?_
    rw [Lib.itoa, if_neg (by omega), Int.toNat_natCast, hc]
    rfl
  | true =>
    simp only [top, if_true] at hv
    have h0 : dval D ≠ 0 := by
      intro h0
      rw [h0, Lib.decDigits, dif_pos (by omega)] at hc
      exact h6 ⟨rfl, hc.symm⟩
    refine numText_some (n := -(dval D : Int)) ⟨by omega, by omega⟩ ?_
    rw [Lib.itoa, if_pos (by omega), show (-(dval D : Int)).natAbs = dval D by omega, hc]
    rfl
theorem numeral_no {neg : Bool} {D : List UInt8} (h : Refused neg D) (hs : neg = false → D.head? ≠ some 45) : numText (signed neg D) = none := by
  refine numText_none fun n hn he => ?_
  have key : ∃ u : Nat, D = Lib.decDigits u ∧ u ≤ top neg ∧ (neg = true → u ≠ 0) := by
    unfold Lib.itoa at he
    obtain ⟨n1, n2⟩ := hn
    cases neg with
    | true =>
      simp only [signed, if_true] at he
      split at he
      · injection he with _ he
        exact ⟨n.natAbs, he.symm, by simp only [top, if_true]; omega, fun _ => by omega⟩
      · have := dec_chars n.toNat 45 (by rw [he]; exact List.mem_cons_self)
        have e : (45 : UInt8).toNat = 45 := rfl
        omega
    | false =>
      simp only [signed, Bool.false_eq_true, if_false] at he
      split at he
      · exact absurd (by rw [← he]; rfl) (hs rfl)
      · exact ⟨n.toNat, he.symm, by simp only [top, Bool.false_eq_true, if_false]; omega, fun h => by cases h⟩
  obtain ⟨u, rfl, hu, hnz⟩ := key
  have ht : top neg < 10 ^ 19 := by
    unfold top
    split <;> omega
  rcases h with h | h | ⟨h, h'⟩ | h | ⟨h, h'⟩ | ⟨h, h'⟩
  · exact dec_ne_nil u h
  · have := dec_len (u := u) (k := 19) (by omega) (by omega)
    omega
  · rcases Nat.eq_zero_or_pos u with h0 | h0
    · subst h0
      rw [Lib.decDigits, dif_pos (by omega)] at h
      simp only [List.length_singleton] at h
      omega
    · exact dec_head u h0 h'
  · exact h (dec_chars u)
  · rw [dval_dec] at h'
    omega
  · have := dval_dec u
    rw [h'] at this
    have e : dval [48] = 0 := rfl
    exact hnz h (by omega)
end Go.Proofs.YtkdnplaoondlbaaDoor
