/-
  The walk of StampSorts.
-/
import Derived.Test.YtfidglkhpikdbaaStampLists
import Derived.Test.YtfidglkhpikdbaaStampLies
namespace Go.Proofs.Ytfidglkhpikdbaa
open Go.RowKit
set_option linter.unusedVariables false

/-- None lies ahead of the one ahead of it. -/
def InOrder (l : List Chg) : Prop := ∀ j x y, l[j]? = some x → l[j + 1]? = some y → lessC y x = false
theorem lastAt_above (c : Chg) (l : List Chg) : ∀ n i x, lastAt c l n ≤ i → i < n → l[i]? = some x → lessC c x = true := by
  intro n
  induction n with
  | zero => intro i x _ h; omega
  | succ n ih =>
    intro i x h1 h2 h3
    unfold lastAt at h1
    split at h1
    · rename_i y hy
      split at h1
      · rename_i hc
        rcases Nat.lt_or_ge i n with h | h
        · exact ih i x h1 h h3
        · obtain rfl : i = n := by omega
          rw [hy] at h3
          injection h3 with h3
          rw [← h3]
          exact hc
      · omega
    · rename_i hy
      rcases Nat.lt_or_ge i n with h | h
      · exact ih i x h1 h h3
      · obtain rfl : i = n := by omega
        rw [hy] at h3
        cases h3
theorem lastAt_below (c : Chg) (l : List Chg) : ∀ n x, 0 < lastAt c l n → l[lastAt c l n - 1]? = some x → lessC c x = false := by
  intro n
  induction n with
  | zero => intro x h; simp [lastAt] at h
  | succ n ih =>
    intro x h1 h2
    unfold lastAt at h1 h2
    split at h1
    · rename_i y hy
      rw [hy] at h2
      split at h1
      · rename_i hc
        simp only [hc, if_true] at h2
        exact ih x h1 h2
      · rename_i hc
        simp only [Bool.not_eq_true] at hc
        simp only [hc, Bool.false_eq_true, if_false, Nat.add_sub_cancel] at h2
        rw [hy] at h2
        injection h2 with h2
        rw [← h2]
        exact hc
    · rename_i hy
      rw [hy] at h2
      exact ih x h1 h2
theorem putC_order {l : List Chg} (c : Chg) (h : InOrder l) : InOrder (putC l c) := by
  intro j x y hx hy
  unfold putC at hx hy
  have hq := lastAt_le c l l.length
  have ha := lastAt_above c l l.length
  have hb := lastAt_below c l l.length
  generalize lastAt c l l.length = q at *
  have hlen : (l.take q).length = q := by rw [List.length_take]; omega
  rcases Nat.lt_trichotomy (j + 1) q with h1 | h1 | h1
  · rw [List.getElem?_append_left (by omega), List.getElem?_take, if_pos (by omega)] at hx hy
    exact h j x y hx hy
  · rw [List.getElem?_append_left (by omega), List.getElem?_take, if_pos (by omega)] at hx
    rw [List.getElem?_append_right (by omega), hlen, h1, Nat.sub_self, List.getElem?_cons_zero] at hy
    injection hy with hy
    subst hy
    exact hb x (by omega) (by rw [← h1, Nat.add_sub_cancel]; exact hx)
  · rw [List.getElem?_append_right (by omega), hlen] at hy
    obtain ⟨d, hd⟩ : ∃ d, j + 1 - q = d + 1 := ⟨j - q, by omega⟩
    rw [hd, List.getElem?_cons_succ, List.getElem?_drop] at hy
    have hyq : q + d = j := by omega
    rw [hyq] at hy
    rcases Nat.eq_zero_or_pos d with h0 | h0
    · rw [List.getElem?_append_right (by omega), hlen, show j - q = 0 by omega, List.getElem?_cons_zero] at hx
      injection hx with hx
      subst hx
      have hjl : j < l.length := by
        rcases Nat.lt_or_ge j l.length with h | h
        · exact h
        · rw [List.getElem?_eq_none h] at hy; cases hy
      exact lessC_not _ _ (ha j y (by omega) hjl hy)
    · rw [List.getElem?_append_right (by omega), hlen] at hx
      obtain ⟨d', hd'⟩ : ∃ d', j - q = d' + 1 := ⟨j - q - 1, by omega⟩
      rw [hd', List.getElem?_cons_succ, List.getElem?_drop] at hx
      have e : q + d' + 1 = j := by omega
      exact h (q + d') x y hx (by rw [e]; exact hy)
theorem sortC_order (l : List Chg) : InOrder (sortC l) := by
  unfold sortC
  have key : ∀ (l acc : List Chg), InOrder acc → InOrder (l.foldl putC acc) := by
    intro l
    induction l with
    | nil => intro acc h; exact h
    | cons x l ih => intro acc h; exact ih _ (putC_order x h)
  exact key l [] (by intro j x y hx; simp at hx)

set_option maxRecDepth 100000 in
set_option maxHeartbeats 4000000 in
theorem sorts_walk (A : Option Addr) (n c : Nat) (l : List Chg) (w : World) (h : RowK w (· < w.heap.size) 9 A n c (chgs l)) :
    Calls Try.prog 5 #[.slice A n c] w fun e w' => e = .returned (.bool true) ∧ Below w.heap.size w w' := by
  have hcap := h.2.1
  have hcb := h.2.2.1
  have hl : l.length = n := by have := h.1; rw [chgs_len] at this; omega
  have hm : min n 40 ≤ n := by omega
  have hfr := h.front hm
  rw [chgs_take] at hfr
  have HR := hide hfr
  have HLM := hide (show (l.take (min n 40)).length = min n 40 by rw [List.length_take, hl]; omega)
  have hm40 : min n 40 ≤ 40 := by omega
  have HF := hide (few07_any A n c · hcap hcb)
  have hmc : min n 40 ≤ c := by omega
  clear h hfr hl hcap
  generalize l.take (min n 40) = q at *
  generalize min n 40 = m at *
  go_enter Try.func5, Try.ntmps5
  go_wp2_with fail
  refine (alive07 _).mono ?_
  rintro e w1 ⟨rfl, hb1⟩
  have HB1 := hide hb1
  clear hb1
  go_wp2_with fail
  refine (HF.out _).mono ?_
  rintro e w' ⟨rfl, rfl⟩
  clear HF hm
  go_wp2
  go_loopw [3, 4] (fun v k wr => ∃ (j : Nat), j ≤ m ∧ k = .int .i64 j ∧ Hid (∃ A' c', v = .slice A' j c') ∧ Hid (wr.ownsRow w.heap.size 25 9 v j (chgs (sortC (q.take j)))) ∧ Hid (Below w.heap.size w wr)) (fun _ k _ => m - (intOf k).toNat)
  case atStart => exact ⟨0, Nat.zero_le _, rfl, hide ⟨none, 0, rfl⟩, hide ⟨rfl, .inl ⟨rfl, rfl⟩⟩, HB1⟩
  case round =>
    obtain ⟨j, hj, rfl, hv, how, hbl⟩ := hrel
    obtain ⟨A', c', rfl⟩ := hv.out
    by_cases hlt : j < m
    · obtain ⟨b, o, x, rfl, -, hb, hx, hat⟩ := chgs_at (HR.out.below (by omega) hbl.out (fun _ h _ => h)) hlt
      have HE := hide (sortC_step hx)
      have HEL := hide (show (sortC (q.take (j + 1))).length = j + 1 by rw [sortC_len, List.length_take]; have := HLM.out; omega)
      obtain ⟨x0, x1, x2, x3, x4, x5, x6, x7, x8⟩ := hat
      clear hx
      generalize ht2 : sortC (q.take (j + 1)) = t2 at *
      have HT2 := hide ht2
      clear ht2
      generalize sortC (q.take j) = t1 at *
      go_wp2_with fail
      refine (sput_any _ _ _ _ t1 x _ (RowK.of_own how.out) (by omega)).mono ?_
      rintro e w2 ⟨A2, c2, rfl, hown, hb2⟩
      rw [← HE.out, HEL.out] at hown ⊢
      have HO2 := hide (own_baseK hown hbl.out.size)
      have HB2 := hide (hbl.out.trans (hb2.mono hbl.out.size))
      clear hown hb2 x0 x1 x2 x3 x4 x5 x6 x7 x8
      go_wp2
      go_roundw
      case rel => exact ⟨j + 1, by omega, by go_num, hide ⟨A2, c2, rfl⟩, by rw [HT2.out]; exact HO2, HB2⟩
      case measure => simp [intOf]; omega
    · obtain rfl : j = m := by omega
      have how := how.out
      rw [List.take_of_length_le (by rw [HLM.out]; exact Nat.le_refl _)] at how
      have HP := hide (RowK.of_own how)
      have HSL := hide (show (sortC q).length = j by rw [sortC_len, HLM.out])
      have HR4 := hide (HR.out.below (by omega) hbl.out (fun _ h _ => h))
      have HORD := hide (sortC_order q)
      clear how hlt hv HR HB1
      rename World => w4
      go_wp2_with fail
      refine (ssorted_any _ _ _ _ q _ HR4.out (by omega)).mono ?_
      rintro e w5 ⟨A5, c5, rfl, hown, hb5⟩
      rw [HSL.out] at hown ⊢
      have HS5 := hide (RowK.of_own hown)
      have HP5 := hide (HP.out.below (by omega) hb5 (fun _ _ h => h))
      have HR5 := hide (HR4.out.below (by omega) hb5 (fun _ _ h => h))
      have HB5 := hide (hbl.out.trans (hb5.mono hbl.out.size))
      have hc5 := hown.2
      clear hown hb5 HP HR4 hbl
      have hsc : j ≤ c5 := HS5.out.2.1
      have hsb := HS5.out.2.2.1
      clear hc5
      generalize hte : sortC q = t at *
      have HTE := hide hte
      clear hte
      go_wp2
      go_loopw [6] (fun k wr => ∃ (i : Nat), 1 ≤ i ∧ i ≤ j + 1 ∧ k = .int .i64 i ∧ Hid (Since w5 wr)) (fun k _ => j + 1 - (intOf k).toNat)
      case atStart => exact ⟨1, by omega, by omega, rfl, hide (Since.refl _)⟩
      case round =>
        obtain ⟨i, hi1, hi2, rfl, hs⟩ := hrel
        by_cases hlt : i < j
        · obtain ⟨p, rfl⟩ : ∃ p, i = p + 1 := ⟨i - 1, by omega⟩
          obtain ⟨b, o, x, rfl, -, hb, hx, hat⟩ := chgs_at (HS5.out.below (by omega) hs.out (fun _ _ h => h)) hlt
          obtain ⟨b', o', y, he, -, -, hy, hat2⟩ := chgs_at (HS5.out.below (by omega) hs.out (fun _ _ h => h)) (show p < j by omega)
          injection he with he
          injection he with he1 he2 he3
          subst he1 he2
          have hno := HORD.out p y x hy hx
          have hpj : (p : Int) < (j : Int) := by omega
          have hpj1 : (p : Int) + 1 < (j : Int) := by omega
          have hpb1 : 0 ≤ (p : Int) + 1 ∧ (p : Int) + 1 < (j : Int) := by omega
          have hpw : IntKind.i64.wrap ((p : Int) + 1 - 1) = (p : Int) := by rw [IntKind.wrap_i64]; omega
          have hpw2 : IntKind.i64.wrap (p : Int) = (p : Int) := by rw [IntKind.wrap_i64]; omega
          have hpb0 : 0 ≤ (p : Int) ∧ (p : Int) < (j : Int) := by omega
          have kx := fun w' (h : Since wr w') => hat.later hb h
          have ky := fun w' (h : Since wr w') => hat2.later hb h
          have x0 := fun w' h => (kx w' h).1
          have x1 := fun w' h => (kx w' h).2.1
          have x2 := fun w' h => (kx w' h).2.2.1
          have x3 := fun w' h => (kx w' h).2.2.2.1
          have x4 := fun w' h => (kx w' h).2.2.2.2.1
          have x5 := fun w' h => (kx w' h).2.2.2.2.2.1
          have x6 := fun w' h => (kx w' h).2.2.2.2.2.2.1
          have x7 := fun w' h => (kx w' h).2.2.2.2.2.2.2.1
          have x8 := fun w' h => (kx w' h).2.2.2.2.2.2.2.2
          have y0 := fun w' h => (ky w' h).1
          have y1 := fun w' h => (ky w' h).2.1
          have y2 := fun w' h => (ky w' h).2.2.1
          have y3 := fun w' h => (ky w' h).2.2.2.1
          have y4 := fun w' h => (ky w' h).2.2.2.2.1
          have y5 := fun w' h => (ky w' h).2.2.2.2.2.1
          have y6 := fun w' h => (ky w' h).2.2.2.2.2.2.1
          have y7 := fun w' h => (ky w' h).2.2.2.2.2.2.2.1
          have y8 := fun w' h => (ky w' h).2.2.2.2.2.2.2.2
          have hr0 := (Since.refl wr).drew
          have P1 := hide (fun w' (h : Since wr w') => (sless_any x y w').mono fun e w2 hh => And.intro hh.1 (Since.next h hh.2))
          rw [hno] at P1
          clear kx ky hat hat2 hx hy hno he3
          go_wp2_with fail
          go_region_held (fun w' => Since wr w') (assumption) (first | (go_at_call 7; refine (P1.out _ (by assumption)).mono ?_; rintro e w6 ⟨rfl, hs6⟩))
          all_goals (have HS6 := hide (Since.trans hs.out hs6))
          all_goals clear x0 x1 x2 x3 x4 x5 x6 x7 x8 y0 y1 y2 y3 y4 y5 y6 y7 y8 hr0 P1 hs6
          all_goals go_wp2
          all_goals go_roundw
          case rel => exact ⟨p + 1 + 1, by omega, by omega, by go_num, HS6⟩
          case measure => simp [intOf]; omega
        · have HBe := hide (fun w' (h : Since w5 w') => HB5.out.trans (Below.mono h HB5.out.size))
          have hs := hide hs.out
          go_wp2_with fail
          refine (changes_any _ _ _ _ _ _ _ _ t t _ (HP5.out.below (by omega) hs.out (fun _ _ h => h)) (HS5.out.below (by omega) hs.out (fun _ _ h => h))).mono ?_
          rintro e w7 ⟨rfl, hb7⟩
          rw [decide_eq_true rfl]
          have hs7 := hide (Since.next hs.out hb7)
          clear hb7
          go_wp2_with fail
          refine (refsorted_any _ _ _ _ q _ (HR5.out.below (by omega) hs7.out (fun _ _ h => h)) (by omega)).mono ?_
          rintro e w8 ⟨A8, c8, rfl, hown8, hb8⟩
          rw [HTE.out] at hown8 ⊢
          rw [HSL.out] at hown8 ⊢
          have hs8 := hide (Since.next hs7.out hb8)
          have HP8 := hide (RowK.of_own hown8)
          clear hown8 hb8
          go_wp2_with fail
          refine (changes_any _ _ _ _ _ _ _ _ t t _ (HS5.out.below (by omega) hs8.out (fun _ _ h => h)) HP8.out).mono ?_
          rintro e w9 ⟨rfl, hb9⟩
          rw [decide_eq_true rfl]
          have HB9 := hide (HBe.out _ (Since.next hs8.out hb9))
          clear hb9
          go_wp2
          go_ret
          exact ⟨rfl, HB9.out⟩
end Go.Proofs.Ytfidglkhpikdbaa
