/-
  Frames, as lists of octets: what a frame is, what a row begins with, all that follow one another, and what is left of them behind a cut.
-/
import Derived.Test.YthoedknnchaiaaaOctN
import Derived.Test.YthoedknnchaiaaaCrcM
namespace Go.Proofs.Ythoedknnchaiaaa
set_option linter.unusedVariables false

/-- The frame of some octets. -/
def frameOf (l : List Int) : List Int := inOcts (l.length : Int) 2 ++ l ++ inOcts ((crc l : Nat) : Int) 4 ++ [90]
theorem frameOf_len (l : List Int) : (frameOf l).length = l.length + 7 := by
  simp only [frameOf, List.length_append, inOcts_len, List.length_cons, List.length_nil]
  omega
theorem frameOf_octs {l : List Int} (h : Octs l) : Octs (frameOf l) :=
  (((inOcts_octs _ _).append h).append (inOcts_octs _ _)).append fun n hn => by
    rw [List.mem_singleton.1 hn]
    omega
theorem frameOf_body (l r : List Int) : ((frameOf l ++ r).drop 2).take l.length = l := by
  have e : frameOf l ++ r = inOcts (l.length : Int) 2 ++ (l ++ (inOcts ((crc l : Nat) : Int) 4 ++ [90] ++ r)) := by simp [frameOf]
  rw [e, List.drop_left' (inOcts_len _ _), List.take_left' rfl]
theorem frameOf_head (l r : List Int) : (frameOf l ++ r).take 2 = inOcts (l.length : Int) 2 := by
  have e : frameOf l ++ r = inOcts (l.length : Int) 2 ++ (l ++ (inOcts ((crc l : Nat) : Int) 4 ++ [90] ++ r)) := by simp [frameOf]
  rw [e, List.take_left' (inOcts_len _ _)]
theorem frameOf_last (l : List Int) : (frameOf l)[l.length + 6]? = some 90 := by
  unfold frameOf
  rw [List.getElem?_append_right (by simp [inOcts_len]; omega)]
  simp [inOcts_len, show l.length + 6 - (2 + (l.length + 4)) = 0 by omega]

/-- How many octets the frame has that l begins with; 0: it begins with none. -/
def front (l : List Int) : Nat :=
  if 1 ≤ (num (l.take 2)).toNat ∧ (num (l.take 2)).toNat ≤ 4096 ∧ (num (l.take 2)).toNat + 7 ≤ l.length ∧ l.take ((num (l.take 2)).toNat + 7) = frameOf ((l.drop 2).take (num (l.take 2)).toNat) then (num (l.take 2)).toNat else 0
theorem front_pos {l : List Int} (h : front l ≠ 0) : 1 ≤ front l ∧ front l ≤ 4096 ∧ front l + 7 ≤ l.length ∧ l.take (front l + 7) = frameOf ((l.drop 2).take (front l)) ∧ (num (l.take 2)).toNat = front l := by
  unfold front at h ⊢
  split
  · rename_i hc
    exact ⟨hc.1, hc.2.1, hc.2.2.1, hc.2.2.2, rfl⟩
  · rename_i hc
    rw [if_neg hc] at h
    exact absurd rfl h
theorem front_frame {x : List Int} (r : List Int) (h1 : 1 ≤ x.length) (h2 : x.length ≤ 4096) : front (frameOf x ++ r) = x.length := by
  have hn : (num ((frameOf x ++ r).take 2)).toNat = x.length := by
    rw [frameOf_head, num_inOcts _ _ (by omega) (by omega)]
    omega
  unfold front
  rw [hn, if_pos]
  refine ⟨h1, h2, by rw [List.length_append, frameOf_len]; omega, ?_⟩
  rw [frameOf_body, List.take_left' (frameOf_len x)]
/-- A frame that was cut, with octets 0 behind, is none. -/
theorem front_cut {x : List Int} (c k : Nat) (h1 : 1 ≤ x.length) (h2 : x.length ≤ 4096) (hc : c < x.length + 7) : front ((frameOf x).take c ++ List.replicate k 0) = 0 := by
  refine Classical.byContradiction fun h => ?_
  obtain ⟨p1, p2, p3, p4, p5⟩ := front_pos h
  generalize hn : front ((frameOf x).take c ++ List.replicate k 0) = n at *
  have hcl : ((frameOf x).take c).length = c := by rw [List.length_take, frameOf_len]; omega
  have hlast : ((frameOf x).take c ++ List.replicate k 0)[n + 6]? = some 90 := by
    have e := congrArg (fun l => l[n + 6]?) p4
    simp only [List.getElem?_take, if_pos (show n + 6 < n + 7 by omega)] at e
    rw [e]
    have hb : ((((frameOf x).take c ++ List.replicate k 0).drop 2).take n).length = n := by
      rw [List.length_take, List.length_drop]
      omega
    have := frameOf_last ((((frameOf x).take c ++ List.replicate k 0).drop 2).take n)
    rw [hb] at this
    exact this
  rcases Nat.lt_or_ge (n + 6) c with hlt | hge
  · have h2c : 2 ≤ c := by omega
    have e2 : ((frameOf x).take c ++ List.replicate k 0).take 2 = inOcts (x.length : Int) 2 := by
      rw [List.take_append_of_le_length (by omega), List.take_take, Nat.min_eq_left h2c]
      have := frameOf_head x []
      rwa [List.append_nil] at this
    rw [e2, num_inOcts _ _ (by omega) (by omega)] at p5
    omega
  · rw [List.getElem?_append_right (by omega), List.getElem?_replicate] at hlast
    split at hlast
    · injection hlast with e
      omega
    · cases hlast

def framesF : Nat → List Int → List (List Int) × Nat
  | 0, _ => ([], 0)
  | k + 1, l => if front l = 0 then ([], 0) else ((l.drop 2).take (front l) :: (framesF k (l.drop (front l + 7))).1, front l + 7 + (framesF k (l.drop (front l + 7))).2)
/-- The frames that follow one another, and how many octets they are. -/
def frames (l : List Int) : List (List Int) × Nat := framesF l.length l
theorem front_nil : front [] = 0 := by
  refine Classical.byContradiction fun h => ?_
  have := (front_pos h).2.2.1
  simp at this
theorem framesF_more (n : Nat) : ∀ (k : Nat) (l : List Int), l.length ≤ n → n ≤ k → framesF k l = framesF n l := by
  induction n with
  | zero =>
    intro k l hl hk
    have : l = [] := List.eq_nil_of_length_eq_zero (by omega)
    subst this
    cases k with
    | zero => rfl
    | succ k => simp [framesF, front_nil]
  | succ n ih =>
    intro k l hl hk
    obtain ⟨k, rfl⟩ : ∃ j, k = j + 1 := ⟨k - 1, by omega⟩
    simp only [framesF]
    split
    · rfl
    · rw [ih k _ (by rw [List.length_drop]; omega) (by omega)]
theorem frames_stop {l : List Int} (h : front l = 0) : frames l = ([], 0) := by
  unfold frames
  cases hn : l.length with
  | zero => rfl
  | succ n => simp [framesF, h]
theorem frames_step {l : List Int} (h : front l ≠ 0) : frames l = ((l.drop 2).take (front l) :: (frames (l.drop (front l + 7))).1, front l + 7 + (frames (l.drop (front l + 7))).2) := by
  obtain ⟨p1, _, p3, _, _⟩ := front_pos h
  unfold frames
  obtain ⟨n, hn⟩ : ∃ n, l.length = n + 1 := ⟨l.length - 1, by omega⟩
  rw [hn]
  simp only [framesF]
  rw [if_neg h, framesF_more (l.drop (front l + 7)).length n _ (Nat.le_refl _) (by rw [List.length_drop]; omega)]
theorem frames_le (n : Nat) : ∀ l : List Int, l.length ≤ n → (frames l).2 ≤ l.length ∧ 8 * (frames l).1.length ≤ l.length := by
  induction n with
  | zero =>
    intro l hl
    have : l = [] := List.eq_nil_of_length_eq_zero (by omega)
    subst this
    rw [frames_stop front_nil]
    simp
  | succ n ih =>
    intro l hl
    by_cases h : front l = 0
    · rw [frames_stop h]
      simp
    · obtain ⟨p1, _, p3, _, _⟩ := front_pos h
      rw [frames_step h]
      have := ih (l.drop (front l + 7)) (by rw [List.length_drop]; omega)
      rw [List.length_drop] at this
      simp only [List.length_cons]
      omega

/-- What is whole behind a cut. -/
def cuts : List (List Int) → Nat → List (List Int)
  | [], _ => []
  | x :: xs, c => if x.length + 7 ≤ c then x :: cuts xs (c - (x.length + 7)) else []
theorem frames_cut : ∀ (xs : List (List Int)) (c k : Nat), (∀ x ∈ xs, 1 ≤ x.length ∧ x.length ≤ 4096) → (frames ((xs.flatMap frameOf).take c ++ List.replicate k 0)).1 = cuts xs c := by
  intro xs
  induction xs with
  | nil =>
    intro c k _
    have hz : front (List.replicate k 0) = 0 := by
      refine Classical.byContradiction fun h => ?_
      obtain ⟨p1, _, p3, p4, _⟩ := front_pos h
      have e := congrArg (fun l => l[front (List.replicate k 0) + 6]?) p4
      have hb : (((List.replicate k (0 : Int)).drop 2).take (front (List.replicate k 0))).length = front (List.replicate k 0) := by
        rw [List.length_take, List.length_drop]
        omega
      have hl := frameOf_last (((List.replicate k (0 : Int)).drop 2).take (front (List.replicate k 0)))
      rw [hb] at hl
      simp only [hl, List.getElem?_take, if_pos (show front (List.replicate k 0) + 6 < front (List.replicate k 0) + 7 by omega), List.getElem?_replicate] at e
      split at e
      · injection e with e
        omega
      · cases e
    simp [frames_stop hz, cuts]
  | cons x xs ih =>
    intro c k hx
    obtain ⟨h1, h2⟩ := hx x List.mem_cons_self
    have hx' : ∀ y ∈ xs, 1 ≤ y.length ∧ y.length ≤ 4096 := fun y hy => hx y (List.mem_cons_of_mem _ hy)
    rw [List.flatMap_cons]
    unfold cuts
    by_cases hc : x.length + 7 ≤ c
    · rw [if_pos hc, List.take_append, List.take_of_length_le (by rw [frameOf_len]; exact hc), frameOf_len, List.append_assoc]
      have hf := front_frame ((xs.flatMap frameOf).take (c - (x.length + 7)) ++ List.replicate k 0) h1 h2
      rw [frames_step (by rw [hf]; omega), hf, frameOf_body, List.drop_left' (frameOf_len x), ih _ _ hx']
    · rw [if_neg hc, List.take_append_of_le_length (by rw [frameOf_len]; omega), frames_stop (front_cut c k h1 h2 (by omega))]

/-- May it have a frame? -/
def fits (x : List Int) : Bool := decide (1 ≤ x.length ∧ x.length ≤ 4096)
/-- The frames of all that may have one. -/
def framed (xs : List (List Int)) : List Int := (xs.filter fits).flatMap frameOf
theorem take_snoc (xs : List (List Int)) (j : Nat) (h : j < xs.length) : xs.take (j + 1) = xs.take j ++ [xs.getD j []] := by
  rw [List.take_add_one, List.getElem?_eq_getElem h, List.getD_eq_getElem?_getD, List.getElem?_eq_getElem h]
  rfl
theorem drop_cons (xs : List (List Int)) (j : Nat) (h : j < xs.length) : xs.drop j = xs.getD j [] :: xs.drop (j + 1) := by
  rw [List.drop_eq_getElem_cons h, List.getD_eq_getElem?_getD, List.getElem?_eq_getElem h]
  rfl
theorem framed_snoc (xs : List (List Int)) (x : List Int) : framed (xs ++ [x]) = framed xs ++ (if fits x then frameOf x else []) := by
  unfold framed
  rw [List.filter_append, List.flatMap_append]
  congr 1
  by_cases h : fits x = true
  · simp [h]
  · simp [h]
theorem framed_len (xs : List (List Int)) : (framed xs).length ≤ xs.length * 4103 := by
  induction xs with
  | nil => simp [framed]
  | cons x xs ih =>
    have e : framed (x :: xs) = (if fits x then frameOf x else []) ++ framed xs := by
      unfold framed
      by_cases h : fits x = true
      · simp [h]
      · simp [h]
    rw [e, List.length_append, List.length_cons, Nat.succ_mul]
    by_cases h : fits x = true
    · rw [if_pos h, frameOf_len]
      have := of_decide_eq_true h
      omega
    · rw [if_neg h]
      simp only [List.length_nil]
      omega
theorem framed_octs {xs : List (List Int)} (h : ∀ x ∈ xs, Octs x) : Octs (framed xs) := by
  intro n hn
  obtain ⟨x, hx, hnx⟩ := List.mem_flatMap.1 hn
  exact frameOf_octs (h x (List.mem_filter.1 hx).1) n hnx
theorem fits_all (xs : List (List Int)) : ∀ x ∈ xs.filter fits, 1 ≤ x.length ∧ x.length ≤ 4096 := fun x hx => of_decide_eq_true (List.mem_filter.1 hx).2

/-- What is whole behind a cut, told one by one: at stands ahead of the next. -/
def wholes : Nat → List (List Int) → Nat → List (List Int)
  | _, [], _ => []
  | at_, x :: xs, c => if fits x then (if at_ + x.length + 7 ≤ c then x :: wholes (at_ + x.length + 7) xs c else wholes (at_ + x.length + 7) xs c) else wholes at_ xs c
theorem wholes_none : ∀ (xs : List (List Int)) (a c : Nat), c < a → wholes a xs c = [] := by
  intro xs
  induction xs with
  | nil => intro a c _; rfl
  | cons x xs ih =>
    intro a c h
    unfold wholes
    split
    · rw [if_neg (by omega), ih _ _ (by omega)]
    · exact ih _ _ h
theorem wholes_cuts : ∀ (xs : List (List Int)) (a c : Nat), a ≤ c → wholes a xs c = cuts (xs.filter fits) (c - a) := by
  intro xs
  induction xs with
  | nil => intro a c _; rfl
  | cons x xs ih =>
    intro a c h
    unfold wholes
    by_cases hf : fits x = true
    · rw [if_pos hf, List.filter_cons_of_pos hf]
      unfold cuts
      by_cases hc : a + x.length + 7 ≤ c
      · rw [if_pos hc, if_pos (by omega), ih _ _ (by omega)]
        congr 2
        omega
      · rw [if_neg hc, if_neg (by omega), wholes_none _ _ _ (by omega)]
    · rw [if_neg hf, List.filter_cons_of_neg hf, ih _ _ h]
/-- All that stands above, of what the statement makes: the frames found are those that are whole. -/
theorem frames_wholes (xs : List (List Int)) (c k : Nat) : (frames ((framed xs).take c ++ List.replicate k 0)).1 = wholes 0 xs c := by
  rw [wholes_cuts xs 0 c (Nat.zero_le _), Nat.sub_zero]
  exact frames_cut _ c k (fits_all xs)
end Go.Proofs.Ythoedknnchaiaaa
