/-
  Vectors, as data: words.
-/
import Derived.Test.YtakjlcnojgboeaaStampRef
import Derived.Test.YtakjlcnojgboeaaLater
namespace Go.Proofs.Ytakjlcnojgboeaa
open Go.RowKit
set_option linter.unusedVariables false

structure Vec where
  a : Int
  b : Int
  c : Int
  d : Int
def Vec.val (v : Vec) : Value := .agg #[.int .i64 v.a, .int .i64 v.b, .int .i64 v.c, .int .i64 v.d]
/-- The part of a replica. -/
def Vec.at_ (v : Vec) (r : Int) : Int := if r = 0 then v.a else if r = 1 then v.b else if r = 2 then v.c else v.d
def joinV (v u : Vec) : Vec := ⟨max v.a u.a, max v.b u.b, max v.c u.c, max v.d u.d⟩
def coversV (v u : Vec) : Bool := decide (u.a ≤ v.a ∧ u.b ≤ v.b ∧ u.c ≤ v.c ∧ u.d ≤ v.d)
def seqOf (r : Int) (l : List Chg) : Int := l.foldl (fun m x => if x.r = r then max m x.s else m) 0
def ofV (l : List Chg) : Vec := ⟨seqOf 0 l, seqOf 1 l, seqOf 2 l, seqOf 3 l⟩
def hasV (v : Vec) (r s : Int) : Bool := decide (0 ≤ r ∧ r < 4 ∧ 1 ≤ s ∧ s ≤ v.at_ r)
def lackV (v : Vec) (l : List Chg) : List Chg := l.filter fun x => !hasV v x.r x.s
def nextV (v : Vec) (r : Int) : Int × Int := if 0 ≤ r ∧ r < 4 ∧ v.at_ r < 65535 then (r, v.at_ r + 1) else (0, 0)

theorem join_covers (v u : Vec) : coversV (joinV v u) v = true ∧ coversV (joinV v u) u = true := by
  unfold coversV joinV
  exact ⟨decide_eq_true (by simp only []; omega), decide_eq_true (by simp only []; omega)⟩
theorem covers_self (v : Vec) : coversV v v = true := decide_eq_true (by omega)
theorem covers_join (w v u : Vec) : coversV w (joinV v u) = (coversV w v && coversV w u) := by
  unfold coversV joinV
  rw [Bool.eq_iff_iff, Bool.and_eq_true, decide_eq_true_iff, decide_eq_true_iff, decide_eq_true_iff]
  simp only []
  omega
theorem seqOf_app (r : Int) (l m : List Chg) : seqOf r (l ++ m) = max (seqOf r l) (seqOf r m) := by
  have key : ∀ (m : List Chg) (t : Int), m.foldl (fun m x => if x.r = r then max m x.s else m) t = max t (m.foldl (fun m x => if x.r = r then max m x.s else m) 0) ∨ t < 0 := by
    intro m
    induction m with
    | nil =>
      intro t
      rcases Int.lt_or_le t 0 with h | h
      · exact .inr h
      · left
        simp only [List.foldl_nil]
        omega
    | cons x m ih =>
      intro t
      rcases Int.lt_or_le t 0 with h | h
      · exact .inr h
      · left
        simp only [List.foldl_cons]
        by_cases hx : x.r = r
        · rw [if_pos hx, if_pos hx]
          rcases ih (max t x.s) with h1 | h1
          · rcases ih (max 0 x.s) with h2 | h2
            · rw [h1, h2]; omega
            · omega
          · omega
        · rw [if_neg hx, if_neg hx]
          rcases ih t with h1 | h1
          · exact h1
          · omega
  have pos : ∀ (l : List Chg) (t : Int), 0 ≤ t → 0 ≤ l.foldl (fun m x => if x.r = r then max m x.s else m) t := by
    intro l
    induction l with
    | nil => intro t h; exact h
    | cons x l ih =>
      intro t h
      simp only [List.foldl_cons]
      split
      · exact ih _ (by omega)
      · exact ih _ h
  unfold seqOf
  rw [List.foldl_append]
  rcases key m (l.foldl (fun m x => if x.r = r then max m x.s else m) 0) with h | h
  · exact h
  · have := pos l 0 (by omega)
    omega
theorem seqOf_nonneg (r : Int) (l : List Chg) : 0 ≤ seqOf r l := by
  have := seqOf_app r l []
  have e : seqOf r [] = 0 := rfl
  rw [List.append_nil, e] at this
  omega
theorem seqOf_has {l : List Chg} {x : Chg} (h : x ∈ l) : x.s ≤ seqOf x.r l := by
  obtain ⟨a, b, rfl⟩ := List.append_of_mem h
  rw [seqOf_app]
  have e : seqOf x.r (x :: b) = max (seqOf x.r [x]) (seqOf x.r b) := by
    have := seqOf_app x.r [x] b
    simpa using this
  have e1 : seqOf x.r [x] = max 0 x.s := by simp [seqOf]
  omega
theorem vec_at (l : List Chg) {r : Int} (h0 : 0 ≤ r) (h4 : r < 4) : (ofV l).at_ r = seqOf r l := by
  unfold Vec.at_ ofV
  by_cases h : r = 0
  · subst h; rfl
  · by_cases h1 : r = 1
    · subst h1; rfl
    · by_cases h2 : r = 2
      · subst h2; rfl
      · have h3 : r = 3 := by omega
        subst h3; rfl
/-- Those of known changes that are lacking can't be. -/
theorem lack_own (l : List Chg) : ∀ x ∈ lackV (ofV l) l, ¬ (0 ≤ x.r ∧ x.r < 4 ∧ 1 ≤ x.s) := by
  intro x hx h
  obtain ⟨hm, hn⟩ := List.mem_filter.1 hx
  have := seqOf_has hm
  have hh : hasV (ofV l) x.r x.s = true := decide_eq_true ⟨h.1, h.2.1, h.2.2, by rw [vec_at l h.1 h.2.1]; exact this⟩
  rw [hh] at hn
  cases hn
/-- What is lacking, and what was known, come to all. -/
theorem seq_lack (l m : List Chg) {r : Int} (h0 : 0 ≤ r) (h4 : r < 4) : max (seqOf r l) (seqOf r (lackV (ofV l) m)) = seqOf r (l ++ m) := by
  rw [seqOf_app]
  induction m with
  | nil => rfl
  | cons x m ih =>
    have hn := seqOf_nonneg r l
    have e : seqOf r (x :: m) = max (seqOf r [x]) (seqOf r m) := by
      have := seqOf_app r [x] m
      simpa using this
    unfold lackV at ih ⊢
    rw [e, List.filter_cons]
    have e1 : seqOf r [x] = if x.r = r then max 0 x.s else 0 := by simp [seqOf]
    split
    · have e2 : seqOf r (x :: m.filter fun x => !hasV (ofV l) x.r x.s) = max (seqOf r [x]) (seqOf r (m.filter fun x => !hasV (ofV l) x.r x.s)) := by
        have := seqOf_app r [x] (m.filter fun x => !hasV (ofV l) x.r x.s)
        simpa using this
      rw [e2]
      omega
    · rename_i hb
      simp only [Bool.not_eq_true, Bool.not_eq_false'] at hb
      have hh := of_decide_eq_true (show decide _ = true from hb)
      have h1 : seqOf r [x] ≤ seqOf r l := by
        rw [e1]
        split
        · rename_i hr
          have := hh.2.2.2
          rw [hr, vec_at l h0 h4] at this
          omega
        · exact hn
      omega
theorem join_lack (l m : List Chg) : joinV (ofV l) (ofV (lackV (ofV l) m)) = ofV (l ++ m) := by
  have h0 := seq_lack l m (r := 0) (by omega) (by omega)
  have h1 := seq_lack l m (r := 1) (by omega) (by omega)
  have h2 := seq_lack l m (r := 2) (by omega) (by omega)
  have h3 := seq_lack l m (r := 3) (by omega) (by omega)
  unfold joinV
  simp only [ofV] at h0 h1 h2 h3 ⊢
  rw [h0, h1, h2, h3]
theorem lack_len (v : Vec) (l : List Chg) : (lackV v l).length ≤ l.length := List.length_filter_le _ _
end Go.Proofs.Ytakjlcnojgboeaa
