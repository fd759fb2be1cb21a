/-
  A log upon a disk, as octets: what each call does to it; what a crash leaves. No program.
-/
import Derived.Test.YthoedknnchaiaaaDiskM
import Derived.Test.YthoedknnchaiaaaFrameM
namespace Go.Proofs.Ythoedknnchaiaaa
set_option linter.unusedVariables false

/-- Octets 0. -/
def zs (n : Nat) : List Int := List.replicate n 0
/-- The frames of some records, one behind the other. -/
def allF (xs : List (List Int)) : List Int := xs.flatMap frameOf
/-- Each may have a frame. -/
def Fit (xs : List (List Int)) : Prop := ∀ x ∈ xs, 1 ≤ x.length ∧ x.length ≤ 4096
theorem allF_append (xs ys : List (List Int)) : allF (xs ++ ys) = allF xs ++ allF ys := by simp [allF]
theorem allF_one (x : List Int) : allF [x] = frameOf x := by simp [allF]
theorem allF_split (xs : List (List Int)) (d : Nat) : allF xs = allF (xs.take d) ++ allF (xs.drop d) := by rw [← allF_append, List.take_append_drop]

/-- What frames are found are the front. -/
theorem frames_sound (n : Nat) : ∀ l : List Int, l.length ≤ n → l.take (frames l).2 = allF (frames l).1 ∧ (frames l).2 ≤ l.length ∧ Fit (frames l).1 := by
  induction n with
  | zero =>
    intro l hl
    have : l = [] := List.eq_nil_of_length_eq_zero (by omega)
    subst this
    rw [frames_stop front_nil]
    exact ⟨rfl, Nat.le_refl _, fun x hx => by cases hx⟩
  | succ n ih =>
    intro l hl
    by_cases h : front l = 0
    · rw [frames_stop h]
      exact ⟨by simp [allF], Nat.zero_le _, fun x hx => by cases hx⟩
    · obtain ⟨p1, p2, p3, p4, _⟩ := front_pos h
      obtain ⟨i1, i2, i3⟩ := ih (l.drop (front l + 7)) (by rw [List.length_drop]; omega)
      rw [frames_step h]
      have hb : ((l.drop 2).take (front l)).length = front l := by rw [List.length_take, List.length_drop]; omega
      refine ⟨?_, by rw [List.length_drop] at i2; simp only; omega, fun x hx => ?_⟩
      · show l.take (front l + 7 + _) = frameOf ((l.drop 2).take (front l)) ++ allF _
        rw [List.take_add, p4, i1]
      · rcases List.mem_cons.1 hx with rfl | hx
        · omega
        · exact i3 x hx
theorem frames_len (l : List Int) : (frames l).2 = (allF (frames l).1).length := by
  obtain ⟨h1, h2, _⟩ := frames_sound _ l (Nat.le_refl _)
  rw [← h1, List.length_take]
  omega

/-! ### Cuts -/
theorem cuts_take : ∀ (xs : List (List Int)) (c : Nat), cuts xs c = xs.take (cuts xs c).length := by
  intro xs
  induction xs with
  | nil => intro c; rfl
  | cons x xs ih =>
    intro c
    unfold cuts
    split
    · rw [List.length_cons, List.take_succ_cons, ← ih]
    · rfl
theorem cuts_least : ∀ (xs : List (List Int)) (c d : Nat), d ≤ xs.length → (allF (xs.take d)).length ≤ c → d ≤ (cuts xs c).length := by
  intro xs
  induction xs with
  | nil => intro c d h _; rw [List.length_nil] at h; omega
  | cons x xs ih =>
    intro c d h hc
    cases d with
    | zero => exact Nat.zero_le _
    | succ d =>
      rw [List.take_succ_cons] at hc
      have e : (allF (x :: xs.take d)).length = x.length + 7 + (allF (xs.take d)).length := by
        show (frameOf x ++ allF (xs.take d)).length = _
        rw [List.length_append, frameOf_len]
      rw [e] at hc
      unfold cuts
      rw [if_pos (by omega), List.length_cons]
      rw [List.length_cons] at h
      have := ih (c - (x.length + 7)) d (by omega) (by omega)
      omega
theorem cuts_all (xs : List (List Int)) (c : Nat) (h : (allF xs).length ≤ c) : cuts xs c = xs := by
  rw [cuts_take, List.take_of_length_le]
  exact cuts_least xs c xs.length (Nat.le_refl _) (by rw [List.take_length]; exact h)
/-- What a half holds whose frames were cut. -/
theorem frames_half {xs : List (List Int)} (h : Fit xs) (c k : Nat) : (frames ((allF xs).take c ++ zs k)).1 = cuts xs c := frames_cut xs c k h
theorem frames_whole {xs : List (List Int)} (h : Fit xs) (k : Nat) : (frames (allF xs ++ zs k)).1 = xs ∧ (frames (allF xs ++ zs k)).2 = (allF xs).length := by
  have h1 := frames_half h (allF xs).length k
  rw [List.take_length, cuts_all xs _ (Nat.le_refl _)] at h1
  exact ⟨h1, by rw [frames_len, h1]⟩

/-! ### Octets that are laid, sector by sector -/
/-- How many sectors have one that is new. -/
def cnt (at_ : Nat) (x : List Int) : Nat := (at_ + x.length + 31) / 32 - at_ / 32
def Dk.down (k : Dk) (q : Nat) : Bool := decide (0 ≤ k.fuel ∧ k.fuel < (q : Int))
/-- Behind x was laid in a half that begins at p, from at_ on. -/
def Dk.laid (k : Dk) (p at_ : Nat) (x : List Int) : Dk :=
  if x = [] ∨ k.dead = true then k
  else if k.down (32 * cnt at_ x) = true then ⟨lay k.b (p + at_) (x.take (k.fuel.toNat - at_ % 32)), -1, true, IntKind.i64.wrap (k.written + k.fuel)⟩
  else ⟨lay k.b (p + at_) x, if 0 ≤ k.fuel then k.fuel - ((32 * cnt at_ x : Nat) : Int) else k.fuel, false, IntKind.i64.wrap (k.written + ((32 * cnt at_ x : Nat) : Int))⟩
def Dk.laidOk (k : Dk) (at_ : Nat) (x : List Int) : Bool := decide (x = []) || (!k.dead && !k.down (32 * cnt at_ x))
/-- The sector i as it will be. -/
def secOf (b : List Int) (p at_ : Nat) (x : List Int) (i : Nat) : List Int := ((lay b (p + at_) x).drop (32 * i)).take 32
/-- .. behind j sectors. -/
def layS (p at_ : Nat) (x : List Int) (k : Dk) : Nat → Dk × Bool
  | 0 => (k, true)
  | j + 1 => if (layS p at_ x k j).2 = true then
      ((layS p at_ x k j).1.write ((p / 32 + at_ / 32 + j : Nat) : Int) (secOf k.b p at_ x (p / 32 + at_ / 32 + j)), (layS p at_ x k j).1.wrote ((p / 32 + at_ / 32 + j : Nat) : Int) (secOf k.b p at_ x (p / 32 + at_ / 32 + j)))
    else layS p at_ x k j
theorem lay_more (b x : List Int) (p at_ q r : Nat) (hq : at_ / 32 * 32 ≤ q) (hb : p + at_ + x.length ≤ b.length) (hr : r ≤ 32) (hs : p + q + 32 ≤ b.length) :
    lay (lay b (p + at_) (x.take (q - at_))) (p + q) ((((lay b (p + at_) x).drop (p + q)).take 32).take r) = lay b (p + at_) (x.take (q + r - at_)) := by
  have l1 : (x.take (q - at_)).length = min (q - at_) x.length := List.length_take
  have l2 : (x.take (q + r - at_)).length = min (q + r - at_) x.length := List.length_take
  have l3 : (lay b (p + at_) x).length = b.length := lay_len (by omega)
  have l4 : (lay b (p + at_) (x.take (q - at_))).length = b.length := lay_len (by omega)
  have l5 : ((((lay b (p + at_) x).drop (p + q)).take 32).take r).length = r := by rw [List.length_take, List.length_take, List.length_drop]; omega
  apply List.ext_getElem?
  intro i
  rw [lay_get (by omega), lay_get (by omega), lay_get (by omega), l5, l1, l2]
  by_cases h1 : p + q ≤ i ∧ i < p + q + r
  · rw [if_pos h1, List.getElem?_take, if_pos (by omega), List.getElem?_take, if_pos (by omega), List.getElem?_drop, lay_get (by omega), show p + q + (i - (p + q)) = i by omega]
    by_cases h2 : p + at_ ≤ i ∧ i < p + at_ + x.length
    · rw [if_pos h2, if_pos (by omega), List.getElem?_take, if_pos (by omega)]
    · rw [if_neg h2, if_neg (by omega)]
  · rw [if_neg h1]
    by_cases h2 : p + at_ ≤ i ∧ i < p + at_ + min (q - at_) x.length
    · rw [if_pos h2, if_pos (by omega), List.getElem?_take, List.getElem?_take, if_pos (by omega), if_pos (by omega)]
    · rw [if_neg h2, if_neg (by omega)]
theorem wrap_wrap (a b : Int) : IntKind.i64.wrap (IntKind.i64.wrap a + b) = IntKind.i64.wrap (a + b) := by
  rw [IntKind.wrap_i64, IntKind.wrap_i64, IntKind.wrap_i64]
  omega
theorem wrap_same {a : Int} (h : I64' a) : IntKind.i64.wrap a = a := by
  obtain ⟨h1, h2⟩ := h
  rw [IntKind.wrap_i64]
  omega

theorem dk_ext {a a' : List Int} {b b' : Int} {c c' : Bool} {d d' : Int} (h1 : a = a') (h2 : b = b') (h3 : c = c') (h4 : d = d') : Dk.mk a b c d = Dk.mk a' b' c' d' := by subst h1 h2 h3 h4; rfl
/-- Behind j sectors: all of them are laid, or it died. -/
theorem layS_spec (k : Dk) (m P at_ : Nat) (x : List Int) (h : k.ok m) (hd : k.dead = false) (hb : 32 * P + at_ + x.length ≤ k.b.length) : ∀ j, j ≤ cnt at_ x →
    layS (32 * P) at_ x k j = if k.down (32 * j) = true then (⟨lay k.b (32 * P + at_) (x.take (k.fuel.toNat - at_ % 32)), -1, true, IntKind.i64.wrap (k.written + k.fuel)⟩, false)
      else (⟨lay k.b (32 * P + at_) (x.take (32 * (at_ / 32 + j) - at_)), if 0 ≤ k.fuel then k.fuel - ((32 * j : Nat) : Int) else k.fuel, false, IntKind.i64.wrap (k.written + ((32 * j : Nat) : Int))⟩, true) := by
  have hl := h.1
  intro j
  induction j with
  | zero =>
    intro _
    have e : k.down (32 * 0) = false := decide_eq_false (by omega)
    rw [if_neg (by rw [e]; decide), show 32 * (at_ / 32 + 0) - at_ = 0 by omega, List.take_zero, lay_nil]
    unfold layS
    obtain ⟨b, f, dd, wr⟩ := k
    simp only at hd
    subst hd
    congr 1
    have h2 := wrap_same h.2.2.2.2
    simp only at h2
    simp only [Nat.mul_zero, Int.ofNat_zero, Int.sub_zero, Int.add_zero, ite_self]
    congr 1
    exact h2.symm
  | succ j ih =>
    intro hj
    have ih := ih (by omega)
    have hsec : 32 * P + 32 * (at_ / 32 + j) + 32 ≤ k.b.length := by unfold cnt at hj; omega
    rw [layS, show 32 * P / 32 = P by omega]
    by_cases h1 : k.down (32 * j) = true
    · rw [if_pos h1] at ih
      rw [ih]
      have h2 := of_decide_eq_true h1
      rw [if_pos (show k.down (32 * (j + 1)) = true from decide_eq_true ⟨h2.1, by omega⟩)]
      rfl
    · rw [if_neg h1] at ih
      rw [ih]
      simp only [if_true]
      have hnd : ¬ (0 ≤ k.fuel ∧ k.fuel < ((32 * j : Nat) : Int)) := fun hc => h1 (decide_eq_true hc)
      have hsl : (secOf k.b (32 * P) at_ x (P + at_ / 32 + j)).length = 32 := by
        unfold secOf
        rw [List.length_take, List.length_drop, lay_len hb]
        omega
      have htl : (x.take (32 * (at_ / 32 + j) - at_)).length ≤ x.length := by rw [List.length_take]; omega
      have hll : (lay k.b (32 * P + at_) (x.take (32 * (at_ / 32 + j) - at_))).length = k.b.length := lay_len (by omega)
      generalize hD : (⟨lay k.b (32 * P + at_) (x.take (32 * (at_ / 32 + j) - at_)), if 0 ≤ k.fuel then k.fuel - ((32 * j : Nat) : Int) else k.fuel, false, IntKind.i64.wrap (k.written + ((32 * j : Nat) : Int))⟩ : Dk) = D
      have dB : D.b = lay k.b (32 * P + at_) (x.take (32 * (at_ / 32 + j) - at_)) := by rw [← hD]
      have dF : D.fuel = if 0 ≤ k.fuel then k.fuel - ((32 * j : Nat) : Int) else k.fuel := by rw [← hD]
      have dD : D.dead = false := by rw [← hD]
      have dW : D.written = IntKind.i64.wrap (k.written + ((32 * j : Nat) : Int)) := by rw [← hD]
      have hmay : D.may ((P + at_ / 32 + j : Nat) : Int) (secOf k.b (32 * P) at_ x (P + at_ / 32 + j)) := ⟨⟨by omega, by rw [dB, hll]; omega, dD⟩, hsl⟩
      have hi : ((P + at_ / 32 + j : Nat) : Int).toNat = P + at_ / 32 + j := by omega
      have hlay : ∀ r, r ≤ 32 → lay D.b (32 * (P + at_ / 32 + j)) ((secOf k.b (32 * P) at_ x (P + at_ / 32 + j)).take r) = lay k.b (32 * P + at_) (x.take (32 * (at_ / 32 + j) + r - at_)) := fun r hr => by
        have := lay_more k.b x (32 * P) at_ (32 * (at_ / 32 + j)) r (by omega) hb hr hsec
        rw [dB]
        unfold secOf
        rw [show 32 * (P + at_ / 32 + j) = 32 * P + 32 * (at_ / 32 + j) by omega]
        exact this
      unfold Dk.write Dk.wrote
      rw [if_pos hmay, decide_eq_true hmay, hi]
      by_cases h3 : k.down (32 * (j + 1)) = true
      · have h4 := of_decide_eq_true h3
        have hdies : D.dies = true := decide_eq_true (by rw [dF, if_pos h4.1]; omega)
        have hfr : D.front = k.fuel.toNat - 32 * j := by
          unfold Dk.front
          rw [if_pos hdies, dF, if_pos h4.1]
          omega
        rw [if_pos h3, hdies, hlay _ (by rw [hfr]; omega), hfr]
        unfold Dk.rest
        rw [if_pos hdies, dW, wrap_wrap]
        refine Prod.ext (dk_ext ?_ rfl rfl ?_) rfl
        · congr 2
          omega
        · congr 1
          omega
      · have h4 : ¬ (0 ≤ k.fuel ∧ k.fuel < ((32 * (j + 1) : Nat) : Int)) := fun hc => h3 (decide_eq_true hc)
        have hdies : D.dies = false := decide_eq_false (by rw [dF]; split <;> omega)
        have hfr : D.front = 32 := by
          unfold Dk.front
          rw [if_neg (by rw [hdies]; decide)]
        rw [if_neg h3, hdies, hlay _ (by rw [hfr]; exact Nat.le_refl _), hfr]
        unfold Dk.rest
        rw [if_neg (by rw [hdies]; decide), dW, wrap_wrap, dF]
        refine Prod.ext (dk_ext ?_ ?_ rfl ?_) rfl
        · congr 2
        · by_cases h5 : 0 ≤ k.fuel
          · rw [if_pos h5, if_pos h5, if_pos (by omega)]
            omega
          · rw [if_neg h5, if_neg h5, if_neg h5]
        · congr 1
          omega
end Go.Proofs.Ythoedknnchaiaaa

/-
  A log upon a disk: its calls, as octets; what holds of it; what a crash leaves. No program.
-/
namespace Go.Proofs.Ythoedknnchaiaaa
set_option linter.unusedVariables false

theorem layS_laid (k : Dk) (m P at_ : Nat) (x : List Int) (h : k.ok m) (hd : k.dead = false) (hb : 32 * P + at_ + x.length ≤ k.b.length) (hx : x ≠ []) :
    layS (32 * P) at_ x k (cnt at_ x) = (k.laid (32 * P) at_ x, k.laidOk at_ x) := by
  rw [layS_spec k m P at_ x h hd hb _ (Nat.le_refl _)]
  unfold Dk.laid Dk.laidOk
  have h0 : ¬ (x = [] ∨ k.dead = true) := fun hc => hc.elim hx (fun h => by rw [hd] at h; cases h)
  rw [if_neg h0, decide_eq_false hx, hd]
  by_cases h1 : k.down (32 * cnt at_ x) = true
  · rw [if_pos h1, if_pos h1, h1]
    rfl
  · rw [if_neg h1, if_neg h1, show k.down (32 * cnt at_ x) = false by simpa using h1]
    have h2 : x.length ≤ 32 * (at_ / 32 + cnt at_ x) - at_ := by
      have : x.length ≠ 0 := fun hc => hx (List.eq_nil_of_length_eq_zero hc)
      unfold cnt
      omega
    rw [List.take_of_length_le h2]
    rfl

/-- What of x was laid. -/
theorem laid_b (k : Dk) (p at_ : Nat) (x : List Int) : ∃ c, (k.laid p at_ x).b = lay k.b (p + at_) (x.take c) ∧ (k.laidOk at_ x = true → (x.take c) = x) := by
  unfold Dk.laid Dk.laidOk
  by_cases h0 : x = []
  · subst h0
    exact ⟨0, by rw [if_pos (.inl rfl), List.take_zero, lay_nil], fun _ => rfl⟩
  · by_cases h1 : k.dead = true
    · refine ⟨0, by rw [if_pos (.inr h1), List.take_zero, lay_nil], fun h => ?_⟩
      rw [decide_eq_false h0, h1] at h
      cases h
    · rw [if_neg (fun hc => hc.elim h0 h1)]
      by_cases h2 : k.down (32 * cnt at_ x) = true
      · rw [if_pos h2]
        refine ⟨_, rfl, fun h => ?_⟩
        rw [decide_eq_false h0, h2] at h
        simp at h
      · rw [if_neg h2]
        exact ⟨x.length, by rw [List.take_length], fun _ => List.take_length⟩
theorem laid_alive {k : Dk} {p at_ : Nat} {x : List Int} (h : k.laidOk at_ x = true) (hd : k.dead = false) : (k.laid p at_ x).dead = false := by
  unfold Dk.laidOk at h
  unfold Dk.laid
  split
  · exact hd
  · rename_i h0
    rw [decide_eq_false (fun hc => h0 (.inl hc)), hd] at h
    have h2 : k.down (32 * cnt at_ x) = false := by simpa using h
    rw [if_neg (by rw [h2]; decide)]
theorem laid_dead {k : Dk} {p at_ : Nat} {x : List Int} (h : k.laidOk at_ x = false) : (k.laid p at_ x).dead = true := by
  unfold Dk.laidOk at h
  unfold Dk.laid
  by_cases h0 : x = []
  · rw [decide_eq_true h0] at h
    cases h
  · rw [decide_eq_false h0] at h
    by_cases h1 : k.dead = true
    · rw [if_pos (.inr h1)]
      exact h1
    · rw [if_neg (fun hc => hc.elim h0 h1)]
      have h1' : k.dead = false := by simpa using h1
      rw [h1'] at h
      rw [if_pos (by simpa using h)]
theorem laid_free {k : Dk} {at_ : Nat} {x : List Int} (hd : k.dead = false) (hf : k.fuel < 0) : k.laidOk at_ x = true := by
  unfold Dk.laidOk
  rw [hd, show k.down (32 * cnt at_ x) = false from decide_eq_false (by omega)]
  simp
theorem laid_free_fuel {k : Dk} {p at_ : Nat} {x : List Int} (hd : k.dead = false) (hf : k.fuel < 0) : (k.laid p at_ x).fuel < 0 := by
  unfold Dk.laid
  split
  · exact hf
  · rw [if_neg (by rw [show k.down (32 * cnt at_ x) = false from decide_eq_false (by omega)]; decide)]
    simp only
    rw [if_neg (by omega)]
    exact hf
theorem laid_ok {k : Dk} {m p at_ : Nat} {x : List Int} (h : k.ok m) (hx : Octs x) (hb : p + at_ + x.length ≤ k.b.length) : (k.laid p at_ x).ok m := by
  have hfu := h.2.2.2.1
  unfold Dk.laid
  split
  · exact h
  · split
    · rename_i h2
      have h3 := of_decide_eq_true h2
      refine ⟨(lay_len ?_).trans h.1, h.2.1, lay_octs _ h.2.2.1 (hx.take _), (by show -1 ≤ (-1 : Int) ∧ (-1 : Int) ≤ 9223372036854775807; omega), wrap_i64' _⟩
      rw [List.length_take]
      omega
    · rename_i h2
      have h3 : ¬ (0 ≤ k.fuel ∧ k.fuel < ((32 * cnt at_ x : Nat) : Int)) := fun hc => h2 (decide_eq_true hc)
      refine ⟨(lay_len hb).trans h.1, h.2.1, lay_octs _ h.2.2.1 hx, ?_, wrap_i64' _⟩
      simp only
      split <;> omega

/-! ### The log's calls -/
structure Lm where
  n : Nat
  recs : List (List Int)
  dur : Nat
def Lm.at_ (m : Lm) : Nat := (allF (m.recs.take m.dur)).length
def Lm.pend (m : Lm) : List Int := allF (m.recs.drop m.dur)
def Lm.used (m : Lm) : Nat := (allF m.recs).length
theorem Lm.used_split (m : Lm) : m.used = m.at_ + m.pend.length := by
  unfold Lm.used Lm.at_ Lm.pend
  rw [← List.length_append, ← allF_split]
def bitOf (k : Dk) : Bool := decide (k.b.getD 0 0 % 2 = 1)
/-- Where a half begins: the one that counts, or the other one. -/
def half (k : Dk) (n : Nat) (other : Bool) : Nat := 32 * (if bitOf k != other then 1 + n else 1)
/-- Its octets. -/
def hf (k : Dk) (n : Nat) (other : Bool) : List Int := (k.b.drop (half k n other)).take (32 * n)
def appendL (m : Lm) (x : List Int) : Lm × Int :=
  if x.length = 0 then (m, 4) else if 4096 < x.length then (m, 5) else if 32 * m.n < m.used + (x.length + 7) then (m, 10) else ({ m with recs := m.recs ++ [x] }, 0)
def syncL (k : Dk) (m : Lm) : Dk × Lm × Int :=
  if k.dead = true ∨ k.laidOk m.at_ m.pend = false then (if k.dead = true then k else k.laid (half k m.n false) m.at_ m.pend, m, 19)
  else (k.laid (half k m.n false) m.at_ m.pend, { m with dur := m.recs.length }, 0)
/-- The first sector, with the other half's bit. -/
def flip (b : List Int) : List Int := (if b.getD 0 0 % 2 = 1 then b.getD 0 0 - 1 else b.getD 0 0 + 1) :: (b.take 32).drop 1
def swapL (k : Dk) (m : Lm) (x : List Int) : Dk × Lm × Int :=
  if x.length = 0 then (k, m, 4) else if 4096 < x.length then (k, m, 5) else if 32 * m.n < x.length + 7 then (k, m, 10) else if k.dead = true then (k, m, 19)
  else if k.laidOk 0 (zs (32 * m.n)) = false then (k.laid (half k m.n true) 0 (zs (32 * m.n)), m, 19)
  else if (k.laid (half k m.n true) 0 (zs (32 * m.n))).laidOk 0 (frameOf x) = false then ((k.laid (half k m.n true) 0 (zs (32 * m.n))).laid (half k m.n true) 0 (frameOf x), m, 19)
  else (((k.laid (half k m.n true) 0 (zs (32 * m.n))).laid (half k m.n true) 0 (frameOf x)).write 0 (flip k.b),
    if ((k.laid (half k m.n true) 0 (zs (32 * m.n))).laid (half k m.n true) 0 (frameOf x)).wrote 0 (flip k.b) = true then (⟨m.n, [x], 1⟩, 0) else (m, 19))
/-- How many octets there are up to the last one that is not 0. -/
def tail0 : List Int → Nat
  | [] => 0
  | x :: l => if tail0 l ≠ 0 then tail0 l + 1 else if x ≠ 0 then 1 else 0
def openL (k : Dk) (n : Nat) : Dk × Lm × Bool :=
  (k.laid (half k n false) (frames (hf k n false)).2 (zs (tail0 ((hf k n false).drop (frames (hf k n false)).2))), ⟨n, (frames (hf k n false)).1, (frames (hf k n false)).1.length⟩,
    k.laidOk (frames (hf k n false)).2 (zs (tail0 ((hf k n false).drop (frames (hf k n false)).2))))

theorem tail0_le : ∀ l : List Int, tail0 l ≤ l.length := by
  intro l
  induction l with
  | nil => exact Nat.le_refl _
  | cons x l ih => unfold tail0; rw [List.length_cons]; split <;> (try split) <;> omega
/-- Behind them all are 0. -/
theorem tail0_rest : ∀ l : List Int, l.drop (tail0 l) = zs (l.length - tail0 l) := by
  intro l
  induction l with
  | nil => rfl
  | cons x l ih =>
    unfold tail0
    by_cases h : tail0 l ≠ 0
    · rw [if_pos h, List.drop_succ_cons, ih, List.length_cons]
      congr 1
      omega
    · rw [if_neg h]
      have h0 : tail0 l = 0 := by omega
      rw [h0, List.drop_zero] at ih
      by_cases hx : x ≠ 0
      · rw [if_pos hx, List.drop_succ_cons, List.drop_zero, List.length_cons, Nat.add_sub_cancel, ih]
        simp [zs]
      · rw [if_neg hx, List.drop_zero, List.length_cons, Nat.sub_zero, ih]
        have : x = 0 := by simpa using hx
        rw [this]
        simp [zs, List.replicate_succ]
theorem tail0_zs (n : Nat) : tail0 (zs n) = 0 := by
  induction n with
  | zero => rfl
  | succ n ih =>
    show tail0 (0 :: zs n) = 0
    unfold tail0
    rw [ih]
    simp
theorem zs_len (n : Nat) : (zs n).length = n := List.length_replicate
theorem zs_octs (n : Nat) : Octs (zs n) := fun x hx => by rw [List.eq_of_mem_replicate hx]; omega
theorem zs_append (a b : Nat) : zs a ++ zs b = zs (a + b) := by simp [zs]
theorem zs_take (a b : Nat) : (zs a).take b = zs (min b a) := by simp [zs, List.take_replicate]
theorem zs_drop (a b : Nat) : (zs a).drop b = zs (a - b) := by simp [zs]

/-! ### The halves -/
section halves
variable {k : Dk} {n : Nat}
theorem half_lt (h : k.ok (2 * n + 1)) (o : Bool) : 32 ≤ half k n o ∧ half k n o + 32 * n ≤ k.b.length := by
  have := h.1
  unfold half
  split <;> omega
theorem hf_len (h : k.ok (2 * n + 1)) (o : Bool) : (hf k n o).length = 32 * n := by
  have := half_lt h o
  unfold hf
  rw [List.length_take, List.length_drop]
  omega
/-- Octets that stand behind the first sector leave the bit. -/
theorem bit_lay {b' : List Int} {p : Nat} {x : List Int} (hp : 32 ≤ p) (hx : p + x.length ≤ k.b.length) (hb : b' = lay k.b p x) : b'.getD 0 0 = k.b.getD 0 0 := by
  rw [hb, List.getD_eq_getElem?_getD, List.getD_eq_getElem?_getD, lay_get hx, if_neg (by omega)]
theorem half_lay {k' : Dk} {p : Nat} {x : List Int} (hp : 32 ≤ p) (hx : p + x.length ≤ k.b.length) (hb : k'.b = lay k.b p x) (o : Bool) : half k' n o = half k n o := by
  unfold half bitOf
  rw [bit_lay hp hx hb]
theorem hf_lay {k' : Dk} {o : Bool} {at_ : Nat} {x : List Int} (h : k.ok (2 * n + 1)) (hx : at_ + x.length ≤ 32 * n) (hb : k'.b = lay k.b (half k n o + at_) x) : hf k' n o = lay (hf k n o) at_ x := by
  have hl := half_lt h o
  have e := half_lay (n := n) (by omega) (by omega) hb o
  have hfl := hf_len h o
  unfold hf at hfl ⊢
  rw [e, hb]
  apply List.ext_getElem?
  intro i
  rw [lay_get (by rw [hfl]; exact hx), List.getElem?_take, List.getElem?_take]
  by_cases hi : i < 32 * n
  · rw [if_pos hi, List.getElem?_drop, lay_get (by omega), if_pos hi, List.getElem?_drop]
    by_cases h2 : at_ ≤ i ∧ i < at_ + x.length
    · rw [if_pos h2, if_pos (by omega)]
      congr 1
      omega
    · rw [if_neg h2, if_neg (by omega)]
  · rw [if_neg hi, if_neg hi, if_neg (by omega)]
theorem hf_other {k' : Dk} {o : Bool} {at_ : Nat} {x : List Int} (h : k.ok (2 * n + 1)) (hx : at_ + x.length ≤ 32 * n) (hb : k'.b = lay k.b (half k n o + at_) x) : hf k' n (!o) = hf k n (!o) := by
  have hl := half_lt h o
  have e := half_lay (n := n) (by omega) (by omega) hb (!o)
  unfold hf
  rw [e, hb]
  have hd : half k n (!o) + 32 * n ≤ half k n o ∨ half k n o + 32 * n ≤ half k n (!o) := by
    unfold half
    cases bitOf k <;> cases o <;> simp <;> omega
  have hl2 := half_lt h (!o)
  apply List.ext_getElem?
  intro i
  rw [List.getElem?_take, List.getElem?_take]
  by_cases hi : i < 32 * n
  · rw [if_pos hi, if_pos hi, List.getElem?_drop, List.getElem?_drop, lay_get (by omega), if_neg (by omega)]
  · rw [if_neg hi, if_neg hi]
end halves
/-- Octets behind some others, ahead of octets 0. -/
theorem lay_behind (F x : List Int) (r : Nat) (h : x.length ≤ r) : lay (F ++ zs r) F.length x = F ++ x ++ zs (r - x.length) := by
  unfold lay
  rw [List.take_left' rfl, List.drop_append, List.drop_of_length_le (by omega), List.nil_append, Nat.add_sub_cancel_left, zs_drop]

/-- What holds of a log whose disk is alive. -/
structure Good (k : Dk) (m : Lm) : Prop where
  ok : k.ok (2 * m.n + 1)
  n1 : 1 ≤ m.n
  fit : Fit m.recs
  octs : ∀ x ∈ m.recs, Octs x
  dur : m.dur ≤ m.recs.length
  room : m.used ≤ 32 * m.n
  cont : hf k m.n false = allF (m.recs.take m.dur) ++ zs (32 * m.n - m.at_)
theorem allF_octs {xs : List (List Int)} (h : ∀ x ∈ xs, Octs x) : Octs (allF xs) := fun y hy => by
  obtain ⟨x, hx, hy⟩ := List.mem_flatMap.1 hy
  exact frameOf_octs (h x hx) y hy
theorem Good.append {k : Dk} {m : Lm} (h : Good k m) {x : List Int} (hx : Octs x) : Good k (appendL m x).1 := by
  unfold appendL
  split
  · exact h
  · split
    · exact h
    · split
      · exact h
      · rename_i h1 h2 h3
        have hd := h.dur
        have e : (m.recs ++ [x]).take m.dur = m.recs.take m.dur := List.take_append_of_le_length hd
        refine ⟨h.ok, h.n1, fun y hy => ?_, fun y hy => ?_, ?_, ?_, ?_⟩
        · rcases List.mem_append.1 hy with hy | hy
          · exact h.fit y hy
          · rw [List.mem_singleton.1 hy]; omega
        · rcases List.mem_append.1 hy with hy | hy
          · exact h.octs y hy
          · rw [List.mem_singleton.1 hy]; exact hx
        · show m.dur ≤ (m.recs ++ [x]).length
          rw [List.length_append]; omega
        · show (allF (m.recs ++ [x])).length ≤ 32 * m.n
          rw [allF_append, allF_one, List.length_append, frameOf_len]
          unfold Lm.used at h3
          omega
        · show hf k m.n false = allF ((m.recs ++ [x]).take m.dur) ++ zs (32 * m.n - (allF ((m.recs ++ [x]).take m.dur)).length)
          rw [e]
          exact h.cont
/-- What a sync leaves, whether it died or not. -/
theorem sync_leaves {k : Dk} {m : Lm} (h : Good k m) (hd : k.dead = false) : ∃ c, hf (syncL k m).1 m.n false = (allF m.recs).take (m.at_ + c) ++ zs (32 * m.n - ((allF m.recs).take (m.at_ + c)).length) ∧ ((syncL k m).2.2 = 0 → (allF m.recs).take (m.at_ + c) = allF m.recs) ∧ (syncL k m).1.ok (2 * m.n + 1) := by
  have hus := m.used_split
  have hr := h.room
  have hl := half_lt h.ok false
  obtain ⟨c, hc1, hc2⟩ := laid_b k (half k m.n false) m.at_ m.pend
  have e1 : (syncL k m).1 = k.laid (half k m.n false) m.at_ m.pend := by
    unfold syncL
    split
    · rw [if_neg (by rw [hd]; decide)]
    · rfl
  have hpl : (m.pend.take c).length ≤ m.pend.length := by rw [List.length_take]; omega
  have e2 : (allF m.recs).take (m.at_ + c) = allF (m.recs.take m.dur) ++ m.pend.take c := by
    rw [allF_split m.recs m.dur, List.take_append, show m.at_ + c - (allF (m.recs.take m.dur)).length = c by unfold Lm.at_; omega, List.take_of_length_le (by unfold Lm.at_; omega)]
    rfl
  refine ⟨c, ?_, fun h0 => ?_, ?_⟩
  · rw [e1, hf_lay h.ok (by omega) hc1, h.cont, e2]
    have := lay_behind (allF (m.recs.take m.dur)) (m.pend.take c) (32 * m.n - m.at_) (by omega)
    rw [show (allF (m.recs.take m.dur)).length = m.at_ from rfl] at this
    rw [this, List.length_append]
    congr 2
    show _ = 32 * m.n - (m.at_ + _)
    omega
  · have hok : k.laidOk m.at_ m.pend = true := by
      unfold syncL at h0
      by_cases hq : k.dead = true ∨ k.laidOk m.at_ m.pend = false
      · rw [if_pos hq] at h0
        cases h0
      · exact (by
      cases hb : k.laidOk m.at_ m.pend with
      | true => rfl
      | false => exact absurd (.inr hb) hq)
    rw [e2, hc2 hok]
    exact (allF_split m.recs m.dur).symm
  · rw [e1]
    exact laid_ok h.ok (allF_octs fun x hx => h.octs x (List.mem_of_mem_drop hx)) (by omega)
/-- A sync that did not die. -/
theorem Good.sync {k : Dk} {m : Lm} (h : Good k m) (hd : k.dead = false) (h0 : (syncL k m).2.2 = 0) : Good (syncL k m).1 (syncL k m).2.1 ∧ (syncL k m).2.1 = { m with dur := m.recs.length } ∧ (syncL k m).1.dead = false := by
  obtain ⟨c, h1, h2, h3⟩ := sync_leaves h hd
  have hq : ¬ (k.dead = true ∨ k.laidOk m.at_ m.pend = false) := fun hq => by
    unfold syncL at h0
    rw [if_pos hq] at h0
    cases h0
  have e : (syncL k m).2.1 = { m with dur := m.recs.length } := by unfold syncL; rw [if_neg hq]
  rw [h2 h0] at h1
  refine ⟨?_, e, ?_⟩
  · rw [e]
    refine ⟨h3, h.n1, h.fit, h.octs, Nat.le_refl _, h.room, ?_⟩
    show hf _ m.n false = allF (m.recs.take m.recs.length) ++ zs (32 * m.n - (allF (m.recs.take m.recs.length)).length)
    rw [List.take_length]
    exact h1
  · unfold syncL
    rw [if_neg hq]
    exact laid_alive ((by
      cases hb : k.laidOk m.at_ m.pend with
      | true => rfl
      | false => exact absurd (.inr hb) hq)) hd
/-- What is found in a half whose frames were cut. -/
theorem open_cut {k : Dk} {n c r : Nat} {xs : List (List Int)} (hk : k.ok (2 * n + 1)) (hn : 1 ≤ n) (hx : Fit xs) (ho : ∀ x ∈ xs, Octs x) (hh : hf k n false = (allF xs).take c ++ zs r) :
    (openL k n).2.1 = ⟨n, cuts xs c, (cuts xs c).length⟩ ∧ (k.dead = false → (openL k n).2.2 = true → Good (openL k n).1 (openL k n).2.1) := by
  have e1 : (frames (hf k n false)).1 = cuts xs c := by rw [hh]; exact frames_half hx c r
  have e2 := frames_len (hf k n false)
  rw [e1] at e2
  have hlen := hf_len hk false
  obtain ⟨s1, s2, s3⟩ := frames_sound _ (hf k n false) (Nat.le_refl _)
  rw [e1, e2] at s1
  rw [e2, hlen] at s2
  have e3 : (openL k n).2.1 = ⟨n, cuts xs c, (cuts xs c).length⟩ := by unfold openL; simp only; rw [e1]
  refine ⟨e3, fun hd hok => ?_⟩
  rw [e3]
  have hmem : ∀ x ∈ cuts xs c, x ∈ xs := fun x hm => by rw [cuts_take] at hm; exact List.mem_of_mem_take hm
  have ht := tail0_le ((hf k n false).drop (frames (hf k n false)).2)
  rw [List.length_drop, hlen] at ht
  obtain ⟨q, q1, q2⟩ := laid_b k (half k n false) (frames (hf k n false)).2 (zs (tail0 ((hf k n false).drop (frames (hf k n false)).2)))
  have q2 := q2 hok
  rw [q2] at q1
  have hl := half_lt hk false
  refine ⟨laid_ok hk (zs_octs _) (by rw [zs_len]; omega), hn, fun x hm => hx x (hmem x hm), fun x hm => ho x (hmem x hm), Nat.le_refl _, s2, ?_⟩
  show hf (k.laid (half k n false) (frames (hf k n false)).2 _) n false = allF ((cuts xs c).take (cuts xs c).length) ++ zs (32 * n - (allF ((cuts xs c).take (cuts xs c).length)).length)
  rw [List.take_length, hf_lay hk (by rw [zs_len]; omega) q1]
  have hr := tail0_rest ((hf k n false).drop (frames (hf k n false)).2)
  unfold lay
  rw [List.length_drop, hlen, List.drop_drop] at hr
  rw [zs_len, hr, e2, s1, List.append_assoc, zs_append]
  congr 2
  rw [e2] at ht
  omega
/-- A log that is opened where nothing died: nothing is written. -/
theorem open_good {k : Dk} {m : Lm} (h : Good k m) : openL k m.n = (k, ⟨m.n, m.recs.take m.dur, m.dur⟩, true) := by
  have hx : Fit (m.recs.take m.dur) := fun x hm => h.fit x (List.mem_of_mem_take hm)
  obtain ⟨e1, e2⟩ := frames_whole hx (32 * m.n - m.at_)
  have hd := h.dur
  unfold openL
  rw [h.cont, e1, e2, List.drop_left' rfl, tail0_zs]
  have e3 : ∀ p a, k.laid p a (zs 0) = k := fun p a => by unfold Dk.laid; rw [if_pos (.inl rfl)]
  have e4 : ∀ a, k.laidOk a (zs 0) = true := fun a => rfl
  rw [e3, e4, List.length_take, Nat.min_eq_left hd]
end Go.Proofs.Ythoedknnchaiaaa

/-
  What is found behind a crash: a new log, one that is opened again, armed, revived; a sync, a swap that died. No program.
-/
namespace Go.Proofs.Ythoedknnchaiaaa
set_option linter.unusedVariables false

theorem hf_same {k k' : Dk} (h : k'.b = k.b) (n : Nat) (o : Bool) : hf k' n o = hf k n o := by
  unfold hf half bitOf
  rw [h]
theorem Good.same {k k' : Dk} {m : Lm} (h : Good k m) (hb : k'.b = k.b) (hk : k'.ok (2 * m.n + 1)) : Good k' m :=
  ⟨hk, h.n1, h.fit, h.octs, h.dur, h.room, (hf_same hb _ _).trans h.cont⟩
theorem arm_b (k : Dk) (a : Int) : (k.arm a).b = k.b := by unfold Dk.arm; split <;> rfl
theorem arm_dead (k : Dk) (a : Int) : (k.arm a).dead = k.dead := by unfold Dk.arm; split <;> rfl
theorem Good.arm {k : Dk} {m : Lm} (h : Good k m) {a : Int} (ha : a ≤ 9223372036854775807) : Good (k.arm a) m := h.same (arm_b k a) (Dk.ok_arm h.ok ha)
theorem Good.revive {k : Dk} {m : Lm} (h : Good k m) : Good k.revive m := h.same rfl (Dk.ok_revive h.ok)
theorem good_new (n : Nat) (h1 : 1 ≤ n) (h2 : n ≤ 127) : Good (Dk.fresh (2 * n + 1)) ⟨n, [], 0⟩ := by
  refine ⟨Dk.ok_fresh (by omega), h1, (fun x hx => by cases hx), (fun x hx => by cases hx), Nat.le_refl _, Nat.zero_le _, ?_⟩
  have e : bitOf (Dk.fresh (2 * n + 1)) = false := by
    unfold bitOf Dk.fresh
    rw [List.getD_eq_getElem?_getD, List.getElem?_replicate]
    split <;> rfl
  show hf (Dk.fresh (2 * n + 1)) n false = [] ++ zs (32 * n - 0)
  unfold hf half
  rw [e]
  show ((zs (32 * (2 * n + 1))).drop (32 * 1)).take (32 * n) = _
  rw [zs_drop, zs_take, List.nil_append]
  congr 1
  omega
/-- All that is still to come is appended. -/
theorem append_next {n : Nat} {recs : List (List Int)} {dur j : Nat} (hf : Fit recs) (hr : (allF recs).length ≤ 32 * n) (hj : j < recs.length) :
    appendL ⟨n, recs.take j, dur⟩ recs[j] = (⟨n, recs.take (j + 1), dur⟩, 0) := by
  obtain ⟨h1, h2⟩ := hf recs[j] (List.getElem_mem hj)
  have e : recs.take (j + 1) = recs.take j ++ [recs[j]] := List.take_succ_eq_append_getElem hj
  have hs := allF_split recs (j + 1)
  have hl : (allF (recs.take j)).length + (recs[j].length + 7) ≤ 32 * n := by
    have := congrArg List.length hs
    rw [e, allF_append, allF_one, List.length_append, List.length_append, frameOf_len] at this
    omega
  unfold appendL
  rw [if_neg (by omega), if_neg (by omega), if_neg (by show ¬ 32 * n < (allF (recs.take j)).length + _; omega), e]

/-- Opened behind a sync, revived: what was durable is there, and some of what was pending. -/
theorem sync_reopen {k : Dk} {m : Lm} (h : Good k m) (hd : k.dead = false) : ∃ j, (openL (syncL k m).1.revive m.n).2.1 = ⟨m.n, m.recs.take j, j⟩ ∧ m.dur ≤ j ∧ j ≤ m.recs.length ∧ ((syncL k m).2.2 = 0 → j = m.recs.length) ∧
    (openL (syncL k m).1.revive m.n).2.2 = true ∧ Good (openL (syncL k m).1.revive m.n).1 ⟨m.n, m.recs.take j, j⟩ ∧ (openL (syncL k m).1.revive m.n).1.dead = false ∧ (openL (syncL k m).1.revive m.n).1.fuel < 0 := by
  obtain ⟨c, h1, h2, h3⟩ := sync_leaves h hd
  have hh := (hf_same (k := (syncL k m).1) (k' := (syncL k m).1.revive) rfl m.n false).trans h1
  obtain ⟨e1, e2⟩ := open_cut (Dk.ok_revive h3) h.n1 h.fit h.octs hh
  have hok : (openL (syncL k m).1.revive m.n).2.2 = true := laid_free rfl (by show (-1 : Int) < 0; omega)
  have e2 := e2 rfl hok
  have ec := cuts_take m.recs (m.at_ + c)
  rw [e1] at e2
  have e3 : (⟨m.n, cuts m.recs (m.at_ + c), (cuts m.recs (m.at_ + c)).length⟩ : Lm) = ⟨m.n, m.recs.take (cuts m.recs (m.at_ + c)).length, (cuts m.recs (m.at_ + c)).length⟩ := by rw [← ec]
  have hle : (cuts m.recs (m.at_ + c)).length ≤ m.recs.length := by rw [ec, List.length_take]; omega
  refine ⟨(cuts m.recs (m.at_ + c)).length, e1.trans e3, cuts_least _ _ _ h.dur (by show (allF (m.recs.take m.dur)).length ≤ (allF (m.recs.take m.dur)).length + c; omega), hle, fun h0 => ?_, hok, e3 ▸ e2, laid_alive hok rfl, laid_free_fuel rfl (by show (-1 : Int) < 0; omega)⟩
  have h4 := congrArg List.length (h2 h0)
  rw [List.length_take] at h4
  rw [cuts_all _ _ (by omega)]

theorem flip_len {k : Dk} {m : Nat} (h : k.ok m) (hm : 1 ≤ m) : (flip k.b).length = 32 := by
  have := h.1
  unfold flip
  rw [List.length_cons, List.length_drop, List.length_take]
  omega
theorem flip_octs {k : Dk} {m : Nat} (h : k.ok m) (hm : 1 ≤ m) : Octs (flip k.b) := by
  have hl := h.1
  have ho := h.2.2.1
  unfold flip
  intro x hx
  rcases List.mem_cons.1 hx with rfl | hx
  · have h0 : k.b.getD 0 0 ∈ k.b := by
      rw [List.getD_eq_getElem?_getD, List.getElem?_eq_getElem (by omega)]
      exact List.getElem_mem _
    have := ho _ h0
    split <;> omega
  · exact ho x (List.mem_of_mem_take (List.mem_of_mem_drop hx))
theorem flip_bit (b : List Int) : decide ((flip b).getD 0 0 % 2 = 1) = !decide (b.getD 0 0 % 2 = 1) := by
  unfold flip
  rw [List.getD_cons_zero]
  by_cases h : b.getD 0 0 % 2 = 1
  · rw [if_pos h, decide_eq_true h]
    exact decide_eq_false (by omega)
  · rw [if_neg h, decide_eq_false h]
    exact decide_eq_true (by omega)

/-- What a swap leaves. -/
theorem swap_leaves {k : Dk} {m : Lm} {x : List Int} (h : Good k m) (hd : k.dead = false) (hx : Octs x) :
    (swapL k m x).1.ok (2 * m.n + 1) ∧
    (((swapL k m x).2.2 = 0 ∧ Good (swapL k m x).1 ⟨m.n, [x], 1⟩ ∧ (swapL k m x).2.1 = ⟨m.n, [x], 1⟩ ∧ (swapL k m x).1.dead = false) ∨
     ((swapL k m x).2.2 ≠ 0 ∧ (swapL k m x).2.1 = m ∧ ((swapL k m x).2.2 ≠ 19 → (swapL k m x).1 = k) ∧ ((swapL k m x).2.2 = 19 → (swapL k m x).1.dead = true) ∧
       (hf (swapL k m x).1 m.n false = hf k m.n false ∨ ((swapL k m x).2.2 = 19 ∧ Fit [x] ∧ hf (swapL k m x).1 m.n false = frameOf x ++ zs (32 * m.n - (frameOf x).length))))) := by
  unfold swapL
  by_cases h1 : x.length = 0
  · rw [if_pos h1]
    exact ⟨h.ok, .inr ⟨(by show (4 : Int) ≠ 0; decide), rfl, fun _ => rfl, fun hc => absurd hc (by show ¬ (4 : Int) = 19; decide), .inl rfl⟩⟩
  · rw [if_neg h1]
    by_cases h2 : 4096 < x.length
    · rw [if_pos h2]
      exact ⟨h.ok, .inr ⟨(by show (5 : Int) ≠ 0; decide), rfl, fun _ => rfl, fun hc => absurd hc (by show ¬ (5 : Int) = 19; decide), .inl rfl⟩⟩
    · rw [if_neg h2]
      by_cases h3 : 32 * m.n < x.length + 7
      · rw [if_pos h3]
        exact ⟨h.ok, .inr ⟨(by show (10 : Int) ≠ 0; decide), rfl, fun _ => rfl, fun hc => absurd hc (by show ¬ (10 : Int) = 19; decide), .inl rfl⟩⟩
      · rw [if_neg h3, if_neg (by rw [hd]; decide)]
        have hfl := frameOf_len x
        have hlt := half_lt h.ok true
        have ok1 : (k.laid (half k m.n true) 0 (zs (32 * m.n))).ok (2 * m.n + 1) := laid_ok h.ok (zs_octs _) (by rw [zs_len]; omega)
        obtain ⟨c1, b1, t1⟩ := laid_b k (half k m.n true) 0 (zs (32 * m.n))
        have x1 : 0 + ((zs (32 * m.n)).take c1).length ≤ 32 * m.n := by rw [List.length_take, zs_len]; omega
        have f1 : hf (k.laid (half k m.n true) 0 (zs (32 * m.n))) m.n false = hf k m.n false := hf_other (o := true) h.ok x1 b1
        have g1 := hf_lay (o := true) h.ok x1 b1
        have hh1 : ∀ o, half (k.laid (half k m.n true) 0 (zs (32 * m.n))) m.n o = half k m.n o := fun o => half_lay (by omega) (by omega) b1 o
        have bit1 := bit_lay (k := k) (p := half k m.n true + 0) (by omega) (by omega) b1
        by_cases h4 : k.laidOk 0 (zs (32 * m.n)) = false
        · rw [if_pos h4]
          exact ⟨ok1, .inr ⟨(by show (19 : Int) ≠ 0; decide), rfl, fun hc => absurd rfl hc, fun _ => laid_dead h4, .inl f1⟩⟩
        · rw [if_neg h4]
          have h4' : k.laidOk 0 (zs (32 * m.n)) = true := by simpa using h4
          have al1 := laid_alive (p := half k m.n true) h4' hd
          rw [t1 h4'] at g1
          have g1' : hf (k.laid (half k m.n true) 0 (zs (32 * m.n))) m.n true = zs (32 * m.n) := by
            rw [g1]
            unfold lay
            rw [List.take_zero, List.nil_append, List.drop_of_length_le (by rw [hf_len h.ok, zs_len]; omega), List.append_nil]
          generalize hD1 : k.laid (half k m.n true) 0 (zs (32 * m.n)) = d1 at *
          have ok2 : (d1.laid (half k m.n true) 0 (frameOf x)).ok (2 * m.n + 1) := laid_ok ok1 (frameOf_octs hx) (by rw [ok1.1, ← h.ok.1]; omega)
          obtain ⟨c2, b2, t2⟩ := laid_b d1 (half k m.n true) 0 (frameOf x)
          have x2 : 0 + ((frameOf x).take c2).length ≤ 32 * m.n := by rw [List.length_take]; omega
          have hb1 : d1.b.length = k.b.length := ok1.1.trans h.ok.1.symm
          have b2 : (d1.laid (half k m.n true) 0 (frameOf x)).b = lay d1.b (half d1 m.n true + 0) ((frameOf x).take c2) := by rw [hh1]; exact b2
          have f2 : hf (d1.laid (half k m.n true) 0 (frameOf x)) m.n false = hf d1 m.n false := hf_other (o := true) ok1 x2 b2
          have g2 := hf_lay (o := true) ok1 x2 b2
          have hh2 : ∀ o, half (d1.laid (half k m.n true) 0 (frameOf x)) m.n o = half d1 m.n o := fun o => half_lay (by rw [hh1]; omega) (by rw [hh1, hb1]; omega) b2 o
          have bit2 := bit_lay (k := d1) (p := half d1 m.n true + 0) (by rw [hh1]; omega) (by rw [hh1, hb1]; omega) b2
          by_cases h5 : d1.laidOk 0 (frameOf x) = false
          · rw [if_pos h5]
            exact ⟨ok2, .inr ⟨(by show (19 : Int) ≠ 0; decide), rfl, fun hc => absurd rfl hc, fun _ => laid_dead h5, .inl (f2.trans f1)⟩⟩
          · rw [if_neg h5]
            have h5' : d1.laidOk 0 (frameOf x) = true := by simpa using h5
            have al2 := laid_alive (p := half k m.n true) h5' al1
            rw [t2 h5', g1'] at g2
            have g2' : hf (d1.laid (half k m.n true) 0 (frameOf x)) m.n true = frameOf x ++ zs (32 * m.n - (frameOf x).length) := by
              rw [g2]
              have := lay_behind [] (frameOf x) (32 * m.n) (by omega)
              simpa using this
            have f2' := f2.trans f1
            have bit2' := bit2.trans bit1
            generalize hD2 : d1.laid (half k m.n true) 0 (frameOf x) = d2 at *
            -- the first sector
            have hfll := flip_len h.ok (by omega)
            have hfo := flip_octs h.ok (by omega)
            have hb2 : d2.b.length = k.b.length := ok2.1.trans h.ok.1.symm
            have hkl := h.ok.1
            have hmay : d2.may 0 (flip k.b) := ⟨⟨by omega, by omega, al2⟩, hfll⟩
            have ok3 : (d2.write 0 (flip k.b)).ok (2 * m.n + 1) := Dk.ok_write ok2 0 hfo
            have wb : (d2.write 0 (flip k.b)).b = lay d2.b 0 ((flip k.b).take d2.front) := by unfold Dk.write; rw [if_pos hmay]; rfl
            have wd : (d2.write 0 (flip k.b)).dead = d2.dies := by unfold Dk.write; rw [if_pos hmay]
            have wo : d2.wrote 0 (flip k.b) = !d2.dies := by unfold Dk.wrote; rw [decide_eq_true hmay]; rfl
            have hfront := d2.front_le
            have hbits : bitOf d2 = bitOf k := by unfold bitOf; rw [bit2']
            have key : d2.front ≠ 0 → hf (d2.write 0 (flip k.b)) m.n false = frameOf x ++ zs (32 * m.n - (frameOf x).length) := fun h0 => by
              have eb : bitOf (d2.write 0 (flip k.b)) = !bitOf d2 := by
                rw [hbits]
                unfold bitOf
                rw [← flip_bit, wb, List.getD_eq_getElem?_getD, lay_get (by rw [List.length_take]; omega), if_pos (by rw [List.length_take]; omega), List.getElem?_take, if_pos (by omega), Nat.sub_zero, ← List.getD_eq_getElem?_getD]
              rw [← g2']
              unfold hf half
              rw [eb, wb]
              have eh : (if (!bitOf d2) != false then 1 + m.n else 1) = (if bitOf d2 != true then 1 + m.n else 1) := by cases bitOf d2 <;> rfl
              rw [eh]
              congr 1
              apply List.ext_getElem?
              intro i
              rw [List.getElem?_drop, List.getElem?_drop, lay_get (by rw [List.length_take]; omega), if_neg]
              rw [List.length_take]
              split <;> omega
            cases hdie : d2.dies with
            | true =>
              rw [wo, hdie, if_neg (by decide)]
              refine ⟨ok3, .inr ⟨(by show (19 : Int) ≠ 0; decide), rfl, fun hc => absurd rfl hc, fun _ => by rw [wd]; exact hdie, ?_⟩⟩
              by_cases h0 : d2.front = 0
              · left
                exact (hf_same (k := d2) (k' := d2.write 0 (flip k.b)) (by rw [wb, h0, List.take_zero, lay_nil]) m.n false).trans f2'
              · right
                exact ⟨rfl, fun y hy => by rw [List.mem_singleton.1 hy]; omega, key h0⟩
            | false =>
              rw [wo, hdie, if_pos (by decide)]
              have hf32 : d2.front = 32 := by unfold Dk.front; rw [if_neg (by rw [hdie]; decide)]
              refine ⟨ok3, .inl ⟨rfl, ⟨ok3, h.n1, fun y hy => by rw [List.mem_singleton.1 hy]; omega, fun y hy => by rw [List.mem_singleton.1 hy]; exact hx, Nat.le_refl _, ?_, ?_⟩, rfl, by rw [wd]; exact hdie⟩⟩
              · show (allF [x]).length ≤ 32 * m.n
                rw [allF_one]; omega
              · show hf _ m.n false = allF ([x].take 1) ++ zs (32 * m.n - (allF ([x].take 1)).length)
                rw [show [x].take 1 = [x] from rfl, allF_one]
                exact key (by rw [hf32]; decide)
/-- Opened behind a swap, revived. -/
theorem swap_reopen {k : Dk} {m : Lm} {x : List Int} (h : Good k m) (hd : k.dead = false) (hx : Octs x) :
    (openL (swapL k m x).1.revive m.n).2.2 = true ∧ (((swapL k m x).2.2 = 0 ∧ (openL (swapL k m x).1.revive m.n).2.1 = ⟨m.n, [x], 1⟩) ∨
      ((swapL k m x).2.2 ≠ 0 ∧ ((openL (swapL k m x).1.revive m.n).2.1 = ⟨m.n, m.recs.take m.dur, m.dur⟩ ∨ (swapL k m x).2.2 = 19 ∧ (openL (swapL k m x).1.revive m.n).2.1 = ⟨m.n, [x], 1⟩))) := by
  obtain ⟨h1, h2⟩ := swap_leaves h hd hx
  refine ⟨laid_free rfl (by show (-1 : Int) < 0; omega), ?_⟩
  rcases h2 with ⟨e0, hg, hm, ha⟩ | ⟨e0, hm, hn, hdd, hold | ⟨e19, hfit, hone⟩⟩
  · left
    refine ⟨e0, ?_⟩
    have := open_good (hg.revive)
    rw [this]
    rfl
  · right
    refine ⟨e0, .inl ?_⟩
    have hh := (hf_same (k := (swapL k m x).1) (k' := (swapL k m x).1.revive) rfl m.n false).trans hold
    rw [h.cont] at hh
    have hfit : Fit (m.recs.take m.dur) := fun y hy => h.fit y (List.mem_of_mem_take hy)
    obtain ⟨e1, e2⟩ := frames_whole hfit (32 * m.n - m.at_)
    unfold openL
    simp only
    rw [hh, e1, List.length_take, Nat.min_eq_left h.dur]
  · right
    refine ⟨e0, .inr ⟨e19, ?_⟩⟩
    have hh := (hf_same (k := (swapL k m x).1) (k' := (swapL k m x).1.revive) rfl m.n false).trans hone
    obtain ⟨e1, e2⟩ := frames_whole hfit (32 * m.n - (frameOf x).length)
    rw [allF_one] at e1
    unfold openL
    simp only
    rw [hh, e1]
    rfl
end Go.Proofs.Ythoedknnchaiaaa
