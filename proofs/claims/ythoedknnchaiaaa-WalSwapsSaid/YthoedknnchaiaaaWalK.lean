/-
  What the calls of package wal come to. (L: 'this block, with those of P, is a log upon the disk at d, which was as k says when it last looked; it is as m says'; D: a disk, as in stage 11.)
-/
import Derived.Test.YthoedknnchaiaaaWalT
import Derived.Test.YthoedknnchaiaaaDiskC
import Derived.Test.YthoedknnchaiaaaParts
namespace Go.Proofs.Ythoedknnchaiaaa
open Go.RowKit
set_option linter.unusedVariables false
abbrev LogP := World → (Nat → Prop) → Nat → Nat → Dk → Lm → Prop

/-- What holds of a log and its disk in a script, dead or alive. -/
structure Inv (k : Dk) (m : Lm) : Prop where
  ok : k.ok (2 * m.n + 1)
  n1 : 1 ≤ m.n
  fit : Fit m.recs
  octs : ∀ x ∈ m.recs, Octs x
  dur : m.dur ≤ m.recs.length
  room : m.used ≤ 32 * m.n
  good : k.dead = false → Good k m
/-- A new log, on a new disk. -/
def LNew (L : LogP) (D : DskP) (n : Nat) (w w' : World) (e : Ending) : Prop :=
  ∃ l d P Q, e = .returned (.pointer (some ⟨l, 0, none⟩)) ∧ L w' P l d (Dk.fresh (2 * n + 1)) ⟨n, [], 0⟩ ∧ D w' Q d (Dk.fresh (2 * n + 1)) ∧ (∀ b, P b → ¬ Q b) ∧ (∀ b, P b → w.heap.size ≤ b) ∧ (∀ b, Q b → w.heap.size ≤ b) ∧ Below w.heap.size w w'
/-- A log that was opened upon the disk at d. -/
def LOpen (L : LogP) (D : DskP) (Q : Nat → Prop) (d : Nat) (k : Dk) (s : Nat) (w w' : World) (e : Ending) : Prop :=
  ∃ l P Q', e = .returned (.tuple #[.pointer (some ⟨l, 0, none⟩), .bool true]) ∧ L w' P l d (openL k s).1 (openL k s).2.1 ∧ D w' Q' d (openL k s).1 ∧ (∀ b, P b → ¬ Q' b) ∧ (∀ b, P b → w.heap.size ≤ b) ∧ (∀ b, Q' b → Q b ∨ w.heap.size ≤ b) ∧ Touch Q w w'
/-- Behind a call that may write the disk. -/
def LDid (L : LogP) (D : DskP) (P Q : Nat → Prop) (l d : Nat) (k : Dk) (m : Lm) (v : Value) (w w' : World) (e : Ending) : Prop :=
  e = .returned v ∧ ∃ P' Q', L w' P' l d k m ∧ D w' Q' d k ∧ (∀ b, P' b → ¬ Q' b) ∧ (∀ b, P' b → P b ∨ w.heap.size ≤ b) ∧ (∀ b, Q' b → Q b ∨ w.heap.size ≤ b) ∧ Touch (fun b => P b ∨ Q b) w w'
/-- Behind a call that leaves the disk. -/
def LApp (L : LogP) (P : Nat → Prop) (l d : Nat) (b : Dk) (m : Lm) (v : Value) (w w' : World) (e : Ending) : Prop :=
  e = .returned v ∧ ∃ P', L w' P' l d b m ∧ (∀ b, P' b → P b ∨ w.heap.size ≤ b) ∧ Touch P w w'
/-- Its records, in new memory. -/
def LRecs (ls : List (List Int)) (w w' : World) (e : Ending) : Prop :=
  ∃ A c, e = .returned (.slice A ls.length c) ∧ Parts w' A ls.length ls ∧ ls.length ≤ c ∧ c ≤ 9223372036854775807 ∧ Below w.heap.size w w'
end Go.Proofs.Ythoedknnchaiaaa

/-
  Two disks that are alike but for how much was written: every call of a log does the same to both. And what holds of a log in a script stays. No program.
-/
namespace Go.Proofs.Ythoedknnchaiaaa
set_option linter.unusedVariables false

/-- Alike, but for how much was written. -/
def Dk.like (k h : Dk) : Prop := k.b = h.b ∧ k.fuel = h.fuel ∧ k.dead = h.dead
theorem Dk.like.refl (k : Dk) : k.like k := ⟨rfl, rfl, rfl⟩
theorem Dk.like.half {k h : Dk} (e : k.like h) (n : Nat) (o : Bool) : half k n o = half h n o := by
  unfold Go.Proofs.Ythoedknnchaiaaa.half bitOf
  rw [e.1]
theorem Dk.like.hf {k h : Dk} (e : k.like h) (n : Nat) (o : Bool) : hf k n o = hf h n o := by
  unfold Go.Proofs.Ythoedknnchaiaaa.hf
  rw [e.half, e.1]
theorem Dk.like.down {k h : Dk} (e : k.like h) (q : Nat) : k.down q = h.down q := by
  unfold Dk.down
  rw [e.2.1]
theorem Dk.like.laid {k h : Dk} (e : k.like h) (p at_ : Nat) (x : List Int) : (k.laid p at_ x).like (h.laid p at_ x) := by
  unfold Dk.laid
  rw [e.2.2, e.down]
  split
  · exact e
  · split
    · exact ⟨by simp only; rw [e.1, e.2.1], rfl, rfl⟩
    · exact ⟨by simp only; rw [e.1], by simp only; rw [e.2.1], rfl⟩
theorem Dk.like.laidOk {k h : Dk} (e : k.like h) (at_ : Nat) (x : List Int) : k.laidOk at_ x = h.laidOk at_ x := by
  unfold Dk.laidOk
  rw [e.2.2, e.down]
theorem Dk.like.may {k h : Dk} (e : k.like h) (i : Int) (x : List Int) : k.may i x ↔ h.may i x := by
  unfold Dk.may Dk.has
  rw [e.1, e.2.2]
theorem Dk.like.dies {k h : Dk} (e : k.like h) : k.dies = h.dies := by
  unfold Dk.dies
  rw [e.2.1]
theorem Dk.like.write {k h : Dk} (e : k.like h) (i : Int) (x : List Int) : (k.write i x).like (h.write i x) := by
  have hf : k.front = h.front := by unfold Dk.front; rw [e.dies, e.2.1]
  have hr : k.rest = h.rest := by unfold Dk.rest; rw [e.dies, e.2.1]
  unfold Dk.write
  by_cases hm : k.may i x
  · rw [if_pos hm, if_pos ((e.may i x).1 hm)]
    exact ⟨by simp only; rw [e.1, hf], hr, e.dies⟩
  · rw [if_neg hm, if_neg fun hc => hm ((e.may i x).2 hc)]
    exact e
theorem Dk.like.wrote {k h : Dk} (e : k.like h) (i : Int) (x : List Int) : k.wrote i x = h.wrote i x := by
  unfold Dk.wrote
  rw [e.dies, Bool.eq_iff_iff]
  simp only [Bool.and_eq_true, decide_eq_true_iff, e.may]
theorem Dk.like.sync {k h : Dk} (e : k.like h) (m : Lm) : (syncL k m).1.like (syncL h m).1 ∧ (syncL k m).2 = (syncL h m).2 := by
  unfold syncL
  rw [e.laidOk, e.2.2, e.half]
  split
  · refine ⟨?_, rfl⟩
    simp only
    split
    · exact e
    · exact e.laid _ _ _
  · exact ⟨e.laid _ _ _, rfl⟩
theorem Dk.like.swap {k h : Dk} (e : k.like h) (m : Lm) (x : List Int) : (swapL k m x).1.like (swapL h m x).1 ∧ (swapL k m x).2 = (swapL h m x).2 := by
  have e1 := e.laid (Go.Proofs.Ythoedknnchaiaaa.half h m.n true) 0 (zs (32 * m.n))
  have e2 := e1.laid (Go.Proofs.Ythoedknnchaiaaa.half h m.n true) 0 (frameOf x)
  have hfl : flip k.b = flip h.b := by rw [e.1]
  unfold swapL
  rw [e.laidOk, e.2.2, e.half, hfl]
  split
  · exact ⟨e, rfl⟩
  · split
    · exact ⟨e, rfl⟩
    · split
      · exact ⟨e, rfl⟩
      · split
        · exact ⟨e, rfl⟩
        · split
          · exact ⟨e1, rfl⟩
          · rw [e1.laidOk]
            split
            · exact ⟨e2, rfl⟩
            · exact ⟨e2.write _ _, by simp only; rw [e2.wrote]⟩
theorem Dk.like.open_ {k h : Dk} (e : k.like h) (n : Nat) : (openL k n).1.like (openL h n).1 ∧ (openL k n).2 = (openL h n).2 := by
  unfold openL
  rw [e.hf, e.half, e.laidOk]
  exact ⟨e.laid _ _ _, rfl⟩
theorem Dk.like.arm {k h : Dk} (e : k.like h) (a : Int) : (k.arm a).like (h.arm a) := by
  unfold Dk.arm
  by_cases hd : h.dead = true
  · rw [if_pos hd, if_pos (e.2.2.trans hd)]
    exact e
  · rw [if_neg hd, if_neg fun hc => hd (e.2.2.symm.trans hc)]
    exact ⟨e.1, rfl, e.2.2⟩

/-! ### What holds stays -/
theorem Inv.of_good {k : Dk} {m : Lm} (h : Good k m) : Inv k m := ⟨h.ok, h.n1, h.fit, h.octs, h.dur, h.room, fun _ => h⟩
theorem Inv.like {k h : Dk} {m : Lm} (i : Inv k m) (e : k.like h) (ho : h.ok (2 * m.n + 1)) : Inv h m :=
  ⟨ho, i.n1, i.fit, i.octs, i.dur, i.room, fun hd => ⟨ho, i.n1, i.fit, i.octs, i.dur, i.room, by rw [← e.hf]; exact (i.good (e.2.2.trans hd)).cont⟩⟩
theorem appendL_n (m : Lm) (x : List Int) : (appendL m x).1.n = m.n := by
  unfold appendL
  split
  · rfl
  · split
    · rfl
    · split <;> rfl
theorem Inv.append {k : Dk} {m : Lm} (h : Inv k m) {x : List Int} (hx : Octs x) : Inv k (appendL m x).1 := by
  unfold appendL
  split
  · exact h
  · split
    · exact h
    · split
      · exact h
      · rename_i h1 h2 h3
        refine ⟨h.ok, h.n1, fun y hy => ?_, fun y hy => ?_, ?_, ?_, fun hd => ?_⟩
        · rcases List.mem_append.1 hy with hy | hy
          · exact h.fit y hy
          · rw [List.mem_singleton.1 hy]; omega
        · rcases List.mem_append.1 hy with hy | hy
          · exact h.octs y hy
          · rw [List.mem_singleton.1 hy]; exact hx
        · show m.dur ≤ (m.recs ++ [x]).length
          have := h.dur
          rw [List.length_append]; omega
        · show (allF (m.recs ++ [x])).length ≤ 32 * m.n
          rw [allF_append, allF_one, List.length_append, frameOf_len]
          unfold Lm.used at h3
          omega
        · have := (h.good hd).append hx
          unfold appendL at this
          rwa [if_neg h1, if_neg h2, if_neg h3] at this
/-- Where the disk is dead the log in memory is as it was. -/
theorem sync_dies {k : Dk} {m : Lm} (h : (syncL k m).2.2 ≠ 0) : (syncL k m).2.1 = m ∧ (syncL k m).1.dead = true := by
  unfold syncL at h ⊢
  split
  · rename_i hc
    refine ⟨rfl, ?_⟩
    simp only
    split
    · assumption
    · rename_i hd
      exact laid_dead (hc.resolve_left hd)
  · rename_i hc
    rw [if_neg hc] at h
    exact absurd rfl h
theorem Inv.sync {k : Dk} {m : Lm} (h : Inv k m) : Inv (syncL k m).1 (syncL k m).2.1 := by
  by_cases hd : k.dead = true
  · have e : syncL k m = (k, m, 19) := by unfold syncL; rw [if_pos (.inl hd), if_pos hd]
    rw [e]
    exact h
  · have hd0 : k.dead = false := by simpa using hd
    by_cases h0 : (syncL k m).2.2 = 0
    · exact .of_good ((h.good hd0).sync hd0 h0).1
    · obtain ⟨e1, e2⟩ := sync_dies h0
      obtain ⟨c, h1, h2, h3⟩ := sync_leaves (h.good hd0) hd0
      rw [e1]
      exact ⟨h3, h.n1, h.fit, h.octs, h.dur, h.room, fun hc => by rw [e2] at hc; cases hc⟩
/-- Whatever lies in a half: what is opened is a log. -/
theorem open_any {k : Dk} {n : Nat} (hk : k.ok (2 * n + 1)) (hn : 1 ≤ n) (hd : k.dead = false) (ho : (openL k n).2.2 = true) : Good (openL k n).1 (openL k n).2.1 ∧ (openL k n).1.dead = false := by
  have hlen := hf_len hk false
  have hoc : Octs (hf k n false) := (hk.2.2.1.drop _).take _
  obtain ⟨s1, s2, s3⟩ := frames_sound _ (hf k n false) (Nat.le_refl _)
  have e2 := frames_len (hf k n false)
  have hl := half_lt hk false
  have ht := tail0_le ((hf k n false).drop (frames (hf k n false)).2)
  rw [List.length_drop, hlen] at ht
  obtain ⟨q, q1, q2⟩ := laid_b k (half k n false) (frames (hf k n false)).2 (zs (tail0 ((hf k n false).drop (frames (hf k n false)).2)))
  have q2 := q2 ho
  rw [q2] at q1
  have hox : ∀ x ∈ (frames (hf k n false)).1, Octs x := fun x hx y hy => by
    refine hoc y (List.mem_of_mem_take (i := (frames (hf k n false)).2) ?_)
    rw [s1]
    refine List.mem_flatMap.2 ⟨x, hx, ?_⟩
    unfold frameOf
    simp only [List.mem_append]
    exact .inl (.inl (.inr hy))
  refine ⟨⟨laid_ok hk (zs_octs _) (by rw [zs_len]; omega), hn, s3, hox, Nat.le_refl _, by unfold Lm.used; show (allF (frames (hf k n false)).1).length ≤ 32 * n; omega, ?_⟩, laid_alive ho hd⟩
  show hf (k.laid (half k n false) (frames (hf k n false)).2 _) n false = allF ((frames (hf k n false)).1.take (frames (hf k n false)).1.length) ++ zs (32 * n - (allF ((frames (hf k n false)).1.take (frames (hf k n false)).1.length)).length)
  rw [List.take_length, hf_lay hk (by rw [zs_len]; omega) q1]
  have hr := tail0_rest ((hf k n false).drop (frames (hf k n false)).2)
  unfold lay
  rw [List.length_drop, hlen, List.drop_drop] at hr
  rw [zs_len, hr, s1, List.append_assoc, zs_append]
  congr 2
  omega
theorem Inv.swap {k : Dk} {m : Lm} (h : Inv k m) {x : List Int} (hx : Octs x) : Inv (swapL k m x).1 (swapL k m x).2.1 := by
  by_cases hd : k.dead = true
  · have e : (swapL k m x).1 = k ∧ (swapL k m x).2.1 = m := by
      unfold swapL
      split
      · exact ⟨rfl, rfl⟩
      · split
        · exact ⟨rfl, rfl⟩
        · split
          · exact ⟨rfl, rfl⟩
          · first | exact ⟨rfl, rfl⟩ | (rw [if_pos hd]; exact ⟨rfl, rfl⟩)
    rw [e.1, e.2]
    exact h
  · have hd0 : k.dead = false := by simpa using hd
    obtain ⟨h1, ⟨e0, hg, hm, ha⟩ | ⟨e0, hm, hn, hdd, _⟩⟩ := swap_leaves (h.good hd0) hd0 hx
    · rw [hm]
      exact .of_good hg
    · rw [hm]
      refine ⟨h1, h.n1, h.fit, h.octs, h.dur, h.room, fun hc => ?_⟩
      by_cases h19 : (swapL k m x).2.2 = 19
      · rw [hdd h19] at hc
        cases hc
      · rw [hn h19]
        exact h.good hd0
end Go.Proofs.Ythoedknnchaiaaa
