/-
  Contracts of num.Sum, and of the statement's 'alive'.
-/
import Derived.Test.YtieojdnpdeceiaaNumMul
namespace Go.Proofs.Ytieojdnpdeceiaa
open Go.RowKit
set_option linter.unusedVariables false

/-- The sum of all from s on, one by one; none as soon as one is no number of 64 bits. -/
def sumFrom : Int → List Int → Option Int
  | s, [] => some s
  | s, n :: l => if I64 (s + n) then sumFrom (s + n) l else none

theorem sumFrom_append (s : Int) (l m : List Int) : sumFrom s (l ++ m) = (sumFrom s l).bind fun t => sumFrom t m := by
  induction l generalizing s with
  | nil => rfl
  | cons n l ih =>
    simp only [List.cons_append, sumFrom]
    split
    · exact ih _
    · rfl
theorem sumFrom_i64 {s t : Int} {l : List Int} (hs : I64 s) (h : sumFrom s l = some t) : I64 t := by
  induction l generalizing s with
  | nil => simp only [sumFrom, Option.some.injEq] at h; exact h ▸ hs
  | cons n l ih =>
    simp only [sumFrom] at h
    split at h
    · exact ih ‹_› h
    · cases h
/-- One more. -/
theorem sum_yes {s t n : Int} {zs : List Int} {k : Nat} (hk : zs[k]? = some n) (h : sumFrom s (zs.take k) = some t) (hi : I64 (t + n)) : sumFrom s (zs.take (k + 1)) = some (t + n) := by
  rw [List.take_add_one, hk, sumFrom_append, h]
  simp [sumFrom, hi]
theorem sum_no {s t n : Int} {zs : List Int} {k m : Nat} (hk : zs[k]? = some n) (h : sumFrom s (zs.take k) = some t) (hi : ¬ I64 (t + n)) (hm : k < m) : sumFrom s (zs.take m) = none := by
  have e : zs.take m = zs.take k ++ n :: (zs.take m).drop (k + 1) := by
    have hlt : k < zs.length := by
      rcases Nat.lt_or_ge k zs.length with x | x
      · exact x
      · rw [List.getElem?_eq_none x] at hk; cases hk
    have h1 : (zs.take m)[k]? = some n := by rw [List.getElem?_take]; simp [hm, hk]
    have h2 : k < (zs.take m).length := by simp; omega
    have h3 := List.take_append_drop k (zs.take m)
    rw [List.take_take, Nat.min_eq_left (by omega), List.drop_eq_getElem_cons h2] at h3
    rw [List.getElem?_eq_getElem h2, Option.some.injEq] at h1
    rw [h1] at h3
    exact h3.symm
  rw [e, sumFrom_append, h]
  simp [sumFrom, hi]

/-- What a partial sum is. -/
def Part (zs : List Int) (k : Nat) (v : Int) : Prop := sumFrom 0 (zs.take k) = some v

theorem numSum_some (b off len cap : Nat) (zs : List Int) (t : Int) (w : World) (hz : len ≤ zs.length) (hbig : len ≤ 9223372036854775807) (hr : ∀ n ∈ zs, I64 n)
    (hc : ∀ j, j < zs.length → w.cell? ⟨b, off + j, none⟩ = some (.int .i64 (zs.getD j 0))) (h : Part zs len t) :
    Calls Try.prog 13 #[.slice (some ⟨b, off, none⟩) len cap] w fun e w' => e = .returned (.tuple #[.int .i64 t, .bool true]) ∧ w = w' := by
  go_enter Try.func13, Try.ntmps13
  go_wp2
  go_loop [4, 11] (fun s i => ∃ (k : Nat) (v : Int), k ≤ len ∧ i = .int .i64 k ∧ s = .int .i64 v ∧ Part zs k v) (fun _ i => len - (intOf i).toNat)
  case atStart => exact ⟨0, 0, Nat.zero_le _, rfl, rfl, rfl⟩
  case round =>
    obtain ⟨k, v, hk, rfl, rfl, hv⟩ := hrel
    by_cases hlt : k < len
    · have hcell := hc k (by omega)
      generalize hn : zs.getD k 0 = n at hcell
      have hn' : zs[k]? = some n := by
        rw [List.getD_eq_getElem?_getD] at hn
        rw [List.getElem?_eq_getElem (by omega)] at hn ⊢
        simpa using hn
      have hvi : I64 v := sumFrom_i64 (by unfold I64; omega) hv
      have hni : I64 n := hr n (List.mem_of_getElem? hn')
      by_cases hs : I64 (v + n)
      · have hp : Part zs (k + 1) (v + n) := sum_yes hn' hv hs
        clear hn hn' hr hc
        go_wp2_with fail
        refine (numAdd_yes _ _ _ hvi hni hs).mono ?_
        rintro e w' ⟨rfl, rfl⟩
        go_wp2
        go_round
        case rel => exact ⟨k + 1, v + n, by omega, by go_num, rfl, hp⟩
        case measure => simp [intOf]; omega
      · exfalso
        have := sum_no hn' hv hs hlt
        unfold Part at h
        rw [h] at this
        cases this
    · have e : k = len := by omega
      subst e
      have e : v = t := by unfold Part at h hv; rw [h] at hv; exact (Option.some.inj hv).symm
      subst e
      clear hc hr
      go_wp2
      go_ret2
      exact ⟨rfl, rfl⟩

theorem numSum_none (b off len cap : Nat) (zs : List Int) (w : World) (hz : len ≤ zs.length) (hbig : len ≤ 9223372036854775807) (hr : ∀ n ∈ zs, I64 n)
    (hc : ∀ j, j < zs.length → w.cell? ⟨b, off + j, none⟩ = some (.int .i64 (zs.getD j 0))) (h : ∀ t, ¬ Part zs len t) :
    Calls Try.prog 13 #[.slice (some ⟨b, off, none⟩) len cap] w fun e w' => e = .returned (.tuple #[.int .i64 0, .bool false]) ∧ w = w' := by
  go_enter Try.func13, Try.ntmps13
  go_wp2
  go_loop [4, 11] (fun s i => ∃ (k : Nat) (v : Int), k ≤ len ∧ i = .int .i64 k ∧ s = .int .i64 v ∧ Part zs k v) (fun _ i => len - (intOf i).toNat)
  case atStart => exact ⟨0, 0, Nat.zero_le _, rfl, rfl, rfl⟩
  case round =>
    obtain ⟨k, v, hk, rfl, rfl, hv⟩ := hrel
    by_cases hlt : k < len
    · have hcell := hc k (by omega)
      generalize hn : zs.getD k 0 = n at hcell
      have hn' : zs[k]? = some n := by
        rw [List.getD_eq_getElem?_getD] at hn
        rw [List.getElem?_eq_getElem (by omega)] at hn ⊢
        simpa using hn
      have hvi : I64 v := sumFrom_i64 (by unfold I64; omega) hv
      have hni : I64 n := hr n (List.mem_of_getElem? hn')
      by_cases hs : I64 (v + n)
      · have hp : Part zs (k + 1) (v + n) := sum_yes hn' hv hs
        clear hn hn' hr hc h
        go_wp2_with fail
        refine (numAdd_yes _ _ _ hvi hni hs).mono ?_
        rintro e w' ⟨rfl, rfl⟩
        go_wp2
        go_round
        case rel => exact ⟨k + 1, v + n, by omega, by go_num, rfl, hp⟩
        case measure => simp [intOf]; omega
      · clear hn hn' hr hc h
        go_wp2_with fail
        refine (numAdd_no _ _ _ hvi hni hs).mono ?_
        rintro e w' ⟨rfl, rfl⟩
        go_wp2
        go_ret2
        exact ⟨rfl, rfl⟩
    · have e : k = len := by omega
      subst e
      exact absurd hv (h v)

theorem numSum_nil (a : Option Addr) (cap : Nat) (w : World) :
    Calls Try.prog 13 #[.slice a 0 cap] w fun e w' => e = .returned (.tuple #[.int .i64 0, .bool true]) ∧ w = w' := by
  go_enter Try.func13, Try.ntmps13
  go_wp2
  go_loop [4, 11] (fun s i => s = .int .i64 0 ∧ i = .int .i64 0) (fun _ _ => 0)
  case atStart => exact ⟨rfl, rfl⟩
  case round =>
    obtain ⟨rfl, rfl⟩ := hrel
    go_wp2
    go_ret2
    exact ⟨rfl, rfl⟩

end Go.Proofs.Ytieojdnpdeceiaa
