/-
  A log in a script that appends records of a list.
-/
import Derived.Test.YthoedknnchaiaaaWalAlive
import Derived.Test.YthoedknnchaiaaaWalPrefix
import Derived.Test.YthoedknnchaiaaaNear
import Derived.Test.YthoedknnchaiaaaWalRefN
namespace Go.Proofs.Ythoedknnchaiaaa
open Go.RowKit
set_option linter.unusedVariables false

/-- A part, in whatever world that only made or turned memory from B on. -/
theorem part_at {w0 wr : World} {A : Option Addr} {n : Nat} {ls : List (List Int)} (h : Parts w0 A n ls) (hb : Below w0.heap.size w0 wr) {i : Nat} (hi : i < n) :
    ∃ (b o : Nat) (a : Option Addr) (c : Nat), A = some ⟨b, o, none⟩ ∧ wr.cell? ⟨b, o + i, none⟩ = some (.slice a (ls.getD i []).length c) ∧ Row wr (· < w0.heap.size) a (ls.getD i []).length c (octs (ls.getD i [])) ∧ Octs (ls.getD i []) := by
  obtain ⟨b, o, a, c, e, h1, h2, h3⟩ := h.at_ hi
  have hlt := World.block_lt_of_cell? w0 _ h1
  refine ⟨b, o, a, c, e, (Below.cell hb hlt).trans h1, ?_, h3⟩
  exact (h2.within.below hb fun b hb _ => hb.2).mono fun b hb => hb.2
/-- A log in memory from B on, in whatever blocks. -/
def OneB (B : Nat) (w : World) (l d : Nat) (k : Dk) (m : Lm) : Prop := ∃ P Q, One B w P Q l d k m
theorem OneB.below {B : Nat} {w w' : World} {l d : Nat} {k : Dk} {m : Lm} (s : OneB B w l d k m) (hb : Below w.heap.size w w') : OneB B w' l d k m := by
  obtain ⟨P, Q, h⟩ := s
  exact ⟨P, Q, h.below hb⟩
theorem oneB_append {B l d : Nat} {k : Dk} {m : Lm} (A : Option Addr) (n c : Nat) (x : List Int) (w : World) (s : OneB B w l d k m) (hB : B ≤ w.heap.size) (hx : Row w (· < B) A n c (octs x)) (ho : Octs x) (hc : n ≤ 140737488355000) :
    Calls Try.prog 15 #[.pointer (some ⟨l, 0, none⟩), .slice A n c] w fun e w' => e = .returned (.int .i64 (appendL m x).2) ∧ OneB B w' l d k (appendL m x).1 ∧ Below B w w' := by
  obtain ⟨P, Q, h⟩ := s
  exact one_append A n c x w h hB hx ho (fun i hi _ hp => by have := h.pb i hp; omega) hc
theorem oneB_sync {B l d : Nat} {k : Dk} {m : Lm} (w : World) (s : OneB B w l d k m) (hB : B ≤ w.heap.size) :
    Calls Try.prog 16 #[.pointer (some ⟨l, 0, none⟩)] w fun e w' => e = .returned (.int .i64 (syncL k m).2.2) ∧ OneB B w' l d (syncL k m).1 (syncL k m).2.1 ∧ Below B w w' := by
  obtain ⟨P, Q, h⟩ := s
  exact one_sync w h hB
theorem OneB.inv {B l d : Nat} {k : Dk} {m : Lm} {w : World} (s : OneB B w l d k m) : Inv k m := by
  obtain ⟨P, Q, h⟩ := s
  exact h.inv
theorem LRecs.parts2 {ls : List (List Int)} {w w' : World} {e : Ending} (h : LRecs ls w w' e) : ∃ A c, e = .returned (.slice A ls.length c) ∧ Parts w' A ls.length ls ∧ ls.length ≤ c ∧ c ≤ 9223372036854775807 ∧ Below w.heap.size w w' := by
  exact h

theorem syncL_n (k : Dk) (m : Lm) : (syncL k m).2.1.n = m.n := by
  unfold syncL
  split <;> rfl
theorem swapL_n (k : Dk) (m : Lm) (x : List Int) : (swapL k m x).2.1.n = m.n := by
  unfold swapL
  split
  · rfl
  · split
    · rfl
    · split
      · rfl
      · split
        · rfl
        · split
          · rfl
          · split
            · rfl
            · simp only
              split <;> rfl
theorem Lm.eta (m : Lm) : (⟨m.n, m.recs, m.dur⟩ : Lm) = m := rfl

end Go.Proofs.Ythoedknnchaiaaa
