/-
  The program's disks: where one lies; whether there is one, whether it works, whether it reaches a sector.
-/
import Derived.Test.YthoedknnchaiaaaDiskC
import Derived.Test.YthoedknnchaiaaaRange
import Derived.Test.YthoedknnchaiaaaLater
namespace Go.Proofs.Ythoedknnchaiaaa
open Go.RowKit
set_option linter.unusedVariables false

/-- The sectors: in block s, m of c. -/
def Secs (w : World) (s m c : Nat) (b : List Int) : Prop :=
  ∃ cur, Blk w s 80 cur ∧ m ≤ c ∧ c ≤ 9223372036854775807 ∧ cur.size = c * 32 ∧ cur.toList.take (m * 32) = octs b
def DskAt (w : World) (g s m c : Nat) (k : Dk) : Prop :=
  Blk w g 74 #[.bool true, .slice (some ⟨s, 0, none⟩) m c, .int .i64 k.fuel, .bool k.dead, .int .i64 k.written] ∧ Secs w s m c k.b ∧ g ≠ s
/-- Block g, with those of P, is a disk that is as k says. -/
def Dsk (w : World) (P : Nat → Prop) (g : Nat) (k : Dk) : Prop := ∃ s m c, DskAt w g s m c k ∧ ∀ b, P b ↔ b = g ∨ b = s
abbrev oddCells : Array Value := #[.bool false, .slice none 0 0, .int .i64 0, .bool false, .int .i64 0]
def OddD (w : World) (g : Nat) : Prop := Blk w g 74 oddCells
section
variable {w w' : World} {P : Nat → Prop} {g s m c : Nat} {k : Dk} {b : List Int}
theorem Secs.lt (h : Secs w s m c b) : s < w.heap.size := by
  obtain ⟨cur, h1, _⟩ := h
  exact h1.lt
theorem Secs.keep (h : Secs w s m c b) (hk : w'.heap[s]? = w.heap[s]?) : Secs w' s m c b := by
  obtain ⟨cur, h1, h2⟩ := h
  exact ⟨cur, hk.trans h1, h2⟩
theorem Secs.len (h : Secs w s m c b) : b.length = m * 32 := by
  obtain ⟨cur, h1, h2, h3, h4, h5⟩ := h
  have := congrArg List.length h5
  rw [List.length_take, Array.length_toList, octs_len] at this
  have : m * 32 ≤ c * 32 := Nat.mul_le_mul_right _ h2
  omega
theorem Secs.cell (h : Secs w s m c b) {j : Nat} (hj : j < m * 32) : w.cell? ⟨s, j, none⟩ = (octs b)[j]? := by
  obtain ⟨cur, h1, h2, h3, h4, h5⟩ := h
  rw [h1.cell j, ← h5, List.getElem?_take, if_pos hj, Array.getElem?_toList]
theorem DskAt.lt (h : DskAt w g s m c k) : g < w.heap.size ∧ s < w.heap.size := ⟨h.1.lt, h.2.1.lt⟩
theorem DskAt.keep (h : DskAt w g s m c k) (h1 : w'.heap[g]? = w.heap[g]?) (h2 : w'.heap[s]? = w.heap[s]?) : DskAt w' g s m c k := ⟨h1.trans h.1, h.2.1.keep h2, h.2.2⟩
theorem DskAt.secs (h : DskAt w g s m c k) {n : Nat} (hk : k.ok n) : n = m := by
  have h1 := h.2.1.len
  have h2 := hk.1
  omega
theorem dsk_keep (h : Dsk w P g k) (hk : ∀ b, P b → b < w.heap.size → w'.heap[b]? = w.heap[b]?) : Dsk w' P g k := by
  obtain ⟨s, m, c, h1, h2⟩ := h
  exact ⟨s, m, c, h1.keep (hk g ((h2 g).2 (.inl rfl)) h1.lt.1) (hk s ((h2 s).2 (.inr rfl)) h1.lt.2), h2⟩
theorem dsk_lt (h : Dsk w P g k) : ∀ b, P b → b < w.heap.size := by
  obtain ⟨s, m, c, h1, h2⟩ := h
  intro b hb
  rcases (h2 b).1 hb with rfl | rfl
  · exact h1.lt.1
  · exact h1.lt.2
theorem odd_keep (h : OddD w g) (hk : w'.heap[g]? = w.heap[g]?) : OddD w' g := hk.trans h
theorem odd_lt (h : OddD w g) : g < w.heap.size := Blk.lt h
end
theorem odd_new (w : World) : OddD (w.alloc (.cells oddCells 74)) w.heap.size := Blk.new w _ _

/-- Is there one? -/
theorem real_nil (w : World) : Calls Try.prog 48 #[.pointer none] w fun e w' => e = .returned (.bool false) ∧ w = w' := by
  go_enter Try.func48, Try.ntmps48
  go_wp2
  go_ret
  exact ⟨rfl, rfl⟩
theorem real_at (w : World) (g : Nat) (b : Bool) (h : w.cell? ⟨g, 0, none⟩ = some (.bool b)) : Calls Try.prog 48 #[.pointer (some ⟨g, 0, none⟩)] w fun e w' => e = .returned (.bool b) ∧ w = w' := by
  go_enter Try.func48, Try.ntmps48
  go_wp2
  go_ret
  exact ⟨rfl, rfl⟩
/-- Does it work? -/
theorem works_nil (w : World) : Calls Try.prog 44 #[.pointer none] w fun e w' => e = .returned (.bool false) ∧ w = w' := by
  go_enter Try.func44, Try.ntmps44
  go_wp2_with fail
  refine (real_nil w).mono ?_
  rintro e w' ⟨rfl, rfl⟩
  go_wp2
  go_ret
  exact ⟨rfl, rfl⟩
theorem works_at (w : World) (g : Nat) (b d : Bool) (h : w.cell? ⟨g, 0, none⟩ = some (.bool b)) (h3 : w.cell? ⟨g, 3, none⟩ = some (.bool d)) : Calls Try.prog 44 #[.pointer (some ⟨g, 0, none⟩)] w fun e w' => e = .returned (.bool (b && !d)) ∧ w = w' := by
  cases b
  all_goals
    go_enter Try.func44, Try.ntmps44
    go_wp2_with fail
    refine (real_at w g _ h).mono ?_
    rintro e w' ⟨rfl, rfl⟩
    go_wp2
    go_ret
    exact ⟨rfl, rfl⟩
/-- Does it reach sector i? -/
theorem reaches_nil (i : Int) (w : World) : Calls Try.prog 51 #[.pointer none, .int .i64 i] w fun e w' => e = .returned (.bool false) ∧ w = w' := by
  go_enter Try.func51, Try.ntmps51
  go_wp2_with fail
  refine (works_nil w).mono ?_
  rintro e w' ⟨rfl, rfl⟩
  go_wp2
  go_ret
  exact ⟨rfl, rfl⟩
theorem reaches_odd (i : Int) (w : World) (g : Nat) (h : OddD w g) : Calls Try.prog 51 #[.pointer (some ⟨g, 0, none⟩), .int .i64 i] w fun e w' => e = .returned (.bool false) ∧ w = w' := by
  have h0 : w.cell? ⟨g, 0, none⟩ = some (.bool false) := (Blk.cell h 0).trans rfl
  have h3 : w.cell? ⟨g, 3, none⟩ = some (.bool false) := (Blk.cell h 3).trans rfl
  go_enter Try.func51, Try.ntmps51
  go_wp2_with fail
  refine (works_at w g _ _ h0 h3).mono ?_
  rintro e w' ⟨rfl, rfl⟩
  go_wp2
  go_ret
  exact ⟨rfl, rfl⟩
theorem reaches_at {w : World} {g s m c n : Nat} {k : Dk} (i : Int) (h : DskAt w g s m c k) (hk : k.ok n) (hi : I64' i) : Calls Try.prog 51 #[.pointer (some ⟨g, 0, none⟩), .int .i64 i] w fun e w' => e = .returned (.bool (decide (k.has i))) ∧ w = w' := by
  obtain rfl := h.secs hk
  have h0 : w.cell? ⟨g, 0, none⟩ = some (.bool true) := (h.1.cell 0).trans rfl
  have h1 : w.cell? ⟨g, 1, none⟩ = some (.slice (some ⟨s, 0, none⟩) n c) := (h.1.cell 1).trans rfl
  have h3 : w.cell? ⟨g, 3, none⟩ = some (.bool k.dead) := (h.1.cell 3).trans rfl
  have hs := Dk.secs hk
  have hb := hk.2.1
  have hw : IntKind.i64.wrap ((n : Int) - 1) = (n : Int) - 1 := by rw [IntKind.wrap_i64]; omega
  have key : k.has i ↔ 0 ≤ i ∧ i < (n : Int) ∧ k.dead = false := by unfold Dk.has; rw [hs]
  obtain ⟨B, hB⟩ : ∃ B, B = decide (k.has i) := ⟨_, rfl⟩
  rw [← hB]
  simp only [key] at hB
  generalize k.dead = dead at *
  clear h hk hs key
  cases dead with
  | true =>
    obtain rfl : B = false := by rw [hB]; exact decide_eq_false (by simp)
    clear hB
    go_enter Try.func51, Try.ntmps51
    go_wp2_with fail
    refine (works_at w g _ _ h0 h3).mono ?_
    rintro e w' ⟨rfl, rfl⟩
    go_wp2
    go_ret
    exact ⟨rfl, rfl⟩
  | false =>
    by_cases hin : 0 ≤ i ∧ i < (n : Int)
    · obtain rfl : B = true := by rw [hB]; exact decide_eq_true ⟨hin.1, hin.2, rfl⟩
      clear hB
      go_enter Try.func51, Try.ntmps51
      go_wp2_with fail
      refine (works_at w g _ _ h0 h3).mono ?_
      rintro e w' ⟨rfl, rfl⟩
      go_wp2_with fail
      refine (in_yes i 0 ((n : Int) - 1) w hin.1 (by omega)).mono ?_
      rintro e w' ⟨rfl, rfl⟩
      go_wp2
      go_ret
      exact ⟨rfl, rfl⟩
    · obtain rfl : B = false := by rw [hB]; exact decide_eq_false (fun h => hin ⟨h.1, h.2.1⟩)
      clear hB
      go_enter Try.func51, Try.ntmps51
      go_wp2_with fail
      refine (works_at w g _ _ h0 h3).mono ?_
      rintro e w' ⟨rfl, rfl⟩
      go_wp2_with fail
      refine (in_no i 0 ((n : Int) - 1) w (by omega)).mono ?_
      rintro e w' ⟨rfl, rfl⟩
      go_wp2
      go_ret
      exact ⟨rfl, rfl⟩
end Go.Proofs.Ythoedknnchaiaaa
