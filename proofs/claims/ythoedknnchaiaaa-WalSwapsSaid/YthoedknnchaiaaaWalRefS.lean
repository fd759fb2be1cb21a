/-
  The reference's log: what it holds; Room, Sync.
-/
import Derived.Test.YthoedknnchaiaaaWalRefL
import Derived.Test.YthoedknnchaiaaaAppE
import Derived.Test.YthoedknnchaiaaaParts
import Derived.Deep.RegionHeld
import Derived.BigQuiet
namespace Go.Proofs.Ythoedknnchaiaaa
open Go.RowKit
set_option linter.unusedVariables false

theorem own_keep {w w' : World} {base : Nat} {e : TypeId} {size : Nat} {v : Value} {n : Nat} {xs : List Value} (h : w.ownsRow base e size v n xs) (hk : ∀ b, v.ownBlock = some b → w'.heap[b]? = w.heap[b]?) : w'.ownsRow base e size v n xs := by
  obtain ⟨h1, h2⟩ := h
  refine ⟨h1, ?_⟩
  rcases h2 with h2 | ⟨g, cap, cur, hv, hb, hg, r⟩
  · exact .inl h2
  · exact .inr ⟨g, cap, cur, hv, hb, (hk g (by rw [hv]; rfl)).trans hg, r⟩
theorem own_row8 {w : World} {base : Nat} {A : Option Addr} {n c : Nat} {l : List Int} (h : w.ownsRow base 5 1 (.slice A n c) n (octs l)) : Row w (fun b => (Value.slice A n c).ownBlock = some b) A n c (octs l) := by
  obtain ⟨h1, h2⟩ := h
  rcases h2 with ⟨h2, h3⟩ | ⟨g, cap, cur, hv, hb, hg, hn, hc, hs, ht⟩
  · injection h2 with e1 e2 e3
    subst e1 e2 e3
    rw [show octs l = [] from List.eq_nil_of_length_eq_zero (by omega)]
    exact Row.nil _ _ _
  · injection hv with e1 e2 e3
    subst e1 e3
    unfold maxLen at hc
    refine ⟨by rw [h1, Nat.mul_one], hn, by omega, .inr ⟨g, 0, rfl, rfl, fun j hj => ?_⟩⟩
    rw [cell_of_row w g _ cur _ (0, 0) hg, ← ht, List.getElem?_take, if_pos (by omega), Nat.zero_add]
    simp

/-- The reference's log at block l, its disk at g and a, in memory R: k, m. -/
def RLog (R : Nat → Prop) (w : World) (l g a c : Nat) (k : Dk) (m : Lm) : Prop :=
  ∃ (cur : Array Value) (RA : Option Addr) (rc : Nat) (PA : Option Addr) (pc : Nat) (vs : List Value), Rk w g a c cur k ∧
    Blk w l 64 #[.pointer (some ⟨g, 0, none⟩), .int .i64 (m.n : Int), .int .i64 (m.at_ : Int), .slice RA m.recs.length rc, .int .i64 (m.dur : Int), .slice PA m.pend.length pc] ∧
    (l ≠ g ∧ l ≠ a ∧ R l ∧ R g ∧ R a ∧ ∀ b, R b → b < w.heap.size) ∧
    w.ownsRow 0 5 1 (.slice PA m.pend.length pc) m.pend.length (octs m.pend) ∧ w.ownsRow 0 32 1 (.slice RA m.recs.length rc) m.recs.length vs ∧
    (∀ b, (Value.slice PA m.pend.length pc).ownBlock = some b → R b ∧ b ≠ l ∧ b ≠ g ∧ b ≠ a) ∧ (∀ b, (Value.slice RA m.recs.length rc).ownBlock = some b → R b ∧ b ≠ l ∧ b ≠ g ∧ b ≠ a ∧ (Value.slice PA m.pend.length pc).ownBlock ≠ some b) ∧
    Vals w (fun b => R b ∧ b ≠ l ∧ b ≠ g ∧ b ≠ a ∧ (Value.slice PA m.pend.length pc).ownBlock ≠ some b ∧ (Value.slice RA m.recs.length rc).ownBlock ≠ some b) vs m.recs
/-- Memory beside it is turned. -/
theorem RLog.keep {R : Nat → Prop} {w w' : World} {l g a c : Nat} {k : Dk} {m : Lm} (h : RLog R w l g a c k m) (hs : w.heap.size ≤ w'.heap.size) (hk : ∀ b, R b → w'.heap[b]? = w.heap[b]?) : RLog R w' l g a c k m := by
  obtain ⟨cur, RA, rc, PA, pc, vs, h1, h2, h3, h4, h5, h6, h7, h8⟩ := h
  obtain ⟨d1, d2, d3, d4, d5, d6⟩ := h3
  refine ⟨cur, RA, rc, PA, pc, vs, h1.keep (hk g d4) (hk a d5), (hk l d3).trans h2, ⟨d1, d2, d3, d4, d5, fun b hb => Nat.lt_of_lt_of_le (d6 b hb) hs⟩, own_keep h4 fun b hb => hk b (h6 b hb).1, own_keep h5 fun b hb => hk b (h7 b hb).1, h6, h7, ?_⟩
  exact h8.turn fun r => r.keep fun b hb _ => hk b hb.1
/-- Another state of the disk, all else as it was. -/
theorem RLog.disk {R : Nat → Prop} {w w' : World} {l g a c : Nat} {k k' : Dk} {m : Lm} (h : RLog R w l g a c k m) (ht : Touch (fun n => n = g ∨ n = a) w w') (hr : ∃ cur, Rk w' g a c cur k') : RLog R w' l g a c k' m := by
  obtain ⟨cur, RA, rc, PA, pc, vs, h1, h2, h3, h4, h5, h6, h7, h8⟩ := h
  obtain ⟨cur', hr⟩ := hr
  obtain ⟨d1, d2, d3, d4, d5, d6⟩ := h3
  refine ⟨cur', RA, rc, PA, pc, vs, hr, h2.touch ht (fun h => h.elim d1 d2), ⟨d1, d2, d3, d4, d5, fun b hb => Nat.lt_of_lt_of_le (d6 b hb) ht.size⟩, own_keep h4 fun b hb => ht.block b (d6 b (h6 b hb).1) fun h => h.elim (h6 b hb).2.2.1 (h6 b hb).2.2.2,
    own_keep h5 fun b hb => ht.block b (d6 b (h7 b hb).1) fun h => h.elim (h7 b hb).2.2.1 (h7 b hb).2.2.2.1, h6, h7, ?_⟩
  exact h8.turn fun r => r.touch ht (fun b hb _ hp => hp.elim hb.2.2.1 hb.2.2.2.1)
/-- What a call on the reference's log leaves. -/
def RStep (R : Nat → Prop) (l g a c : Nat) (k : Dk) (m : Lm) (v : Value) (w w' : World) (e : Ending) : Prop :=
  e = .returned v ∧ Touch R w w' ∧ ∃ R', RLog R' w' l g a c k m ∧ ∀ b, R' b → R b ∨ w.heap.size ≤ b

theorem refroom_any {R : Nat → Prop} {l g a c : Nat} {k : Dk} {m : Lm} (w : World) (h : RLog R w l g a c k m) (hn : m.n ≤ 127) (hu : m.used ≤ 32 * m.n) :
    Calls Try.prog 36 #[.pointer (some ⟨l, 0, none⟩)] w fun e w' => e = .returned (.int .i64 (32 * (m.n : Int) - (m.used : Int))) ∧ ∃ q, w' = w.drewN q := by
  obtain ⟨cur, RA, rc, PA, pc, vs, h1, h2, h3, h4, h5, h6, h7, h8⟩ := h
  have hus := m.used_split
  have c1 := (h2.cell 1).trans rfl
  have c2 := (h2.cell 2).trans rfl
  have c5 := (h2.cell 5).trans rfl
  have HU := hide hus
  have e : 32 * (m.n : Int) - (m.used : Int) = 32 * (m.n : Int) - (m.at_ : Int) - (m.pend.length : Int) := by omega
  rw [e]
  have b1 : m.at_ ≤ 5000 := by omega
  have b2 : m.pend.length ≤ 5000 := by omega
  clear h1 h2 h3 h4 h5 h6 h7 h8 hus hu e HU
  generalize m.at_ = x at *
  generalize m.pend.length = y at *
  generalize m.n = n at *
  go_enter Try.func36, Try.ntmps36
  go_wp2_with fail
  go_quiet (fail)
  go_wp2
  go_ret
  exact ⟨rfl, nq, rfl⟩

/-- Behind a sync all is durable. -/
theorem RLog.synced {R : Nat → Prop} {w : World} {l g a c : Nat} {k : Dk} {m : Lm} {cur : Array Value} {RA : Option Addr} {rc : Nat} {vs : List Value} (h1 : Rk w g a c cur k) (h2 : Blk w l 64 #[.pointer (some ⟨g, 0, none⟩), .int .i64 (m.n : Int), .int .i64 (m.used : Int), .slice RA m.recs.length rc, .int .i64 (m.recs.length : Int), .slice none 0 0])
    (h3 : l ≠ g ∧ l ≠ a ∧ R l ∧ R g ∧ R a ∧ ∀ b, R b → b < w.heap.size) (h5 : w.ownsRow 0 32 1 (.slice RA m.recs.length rc) m.recs.length vs)
    (h7 : ∀ b, (Value.slice RA m.recs.length rc).ownBlock = some b → R b ∧ b ≠ l ∧ b ≠ g ∧ b ≠ a) (h8 : Vals w (fun b => R b ∧ b ≠ l ∧ b ≠ g ∧ b ≠ a ∧ (Value.slice RA m.recs.length rc).ownBlock ≠ some b) vs m.recs) : RLog R w l g a c k { m with dur := m.recs.length } := by
  have e1 : ({ m with dur := m.recs.length } : Lm).pend = [] := by
    show allF (m.recs.drop m.recs.length) = []
    rw [List.drop_length]
    rfl
  have e2 : ({ m with dur := m.recs.length } : Lm).at_ = m.used := by
    show (allF (m.recs.take m.recs.length)).length = (allF m.recs).length
    rw [List.take_length]
  refine ⟨cur, RA, rc, none, 0, vs, h1, ?_, h3, ?_, h5, ?_, ?_, ?_⟩
  · rw [e1, e2]
    exact h2
  · rw [e1]
    exact World.ownsRow_nil w 0 _ 1
  · rw [e1]
    intro b hb
    cases hb
  · intro b hb
    rw [e1]
    exact ⟨(h7 b hb).1, (h7 b hb).2.1, (h7 b hb).2.2.1, (h7 b hb).2.2.2, by simp [Value.ownBlock]⟩
  · refine h8.turn fun r => r.mono fun b hb => ?_
    rw [e1]
    exact ⟨hb.1, hb.2.1, hb.2.2.1, hb.2.2.2.1, by simp [Value.ownBlock], hb.2.2.2.2⟩

set_option maxHeartbeats 1000000 in
theorem refsync_any {R : Nat → Prop} {l g a c : Nat} {k : Dk} {m : Lm} (w : World) (h : RLog R w l g a c k m) (hk : k.ok (2 * m.n + 1)) (hu : m.used ≤ 32 * m.n) (ho : ∀ x ∈ m.recs, Octs x) :
    Calls Try.prog 33 #[.pointer (some ⟨l, 0, none⟩)] w fun e w' => RStep R l g a c (syncL k m).1 (syncL k m).2.1 (.int .i64 (syncL k m).2.2) w w' e := by
  have hus := m.used_split
  have hl := half_lt hk false
  have hpo : Octs m.pend := allF_octs fun x hx => ho x (List.mem_of_mem_drop hx)
  have hn := hk.2.1
  have HR := hide h
  obtain ⟨cur, RA, rc, PA, pc, vs, h1, h2, h3, h4, h5, h6, h7, h8⟩ := h
  obtain ⟨d1, d2, d3, d4, d5, d6⟩ := h3
  have hpr : Row w (fun b => (Value.slice PA m.pend.length pc).ownBlock = some b) PA m.pend.length pc (octs m.pend) := own_row8 h4
  have hag := h1.2.2.1
  have HSYN := hide (show ∀ (W : World) (cur' : Array Value) (k' : Dk), Touch (fun n => n = l ∨ n = g ∨ n = a) w W → Rk W g a c cur' k' → Blk W l 64 #[.pointer (some ⟨g, 0, none⟩), .int .i64 (m.n : Int), .int .i64 (m.used : Int), .slice RA m.recs.length rc, .int .i64 (m.recs.length : Int), .slice none 0 0] → RLog R W l g a c k' { m with dur := m.recs.length } from
    fun W cur' k' ht hr hb => RLog.synced hr hb ⟨d1, d2, d3, d4, d5, fun b hb => Nat.lt_of_lt_of_le (d6 b hb) ht.size⟩ (own_keep h5 fun b hb => ht.block b (d6 b (h7 b hb).1) fun h => h.elim (h7 b hb).2.1 fun h => h.elim (h7 b hb).2.2.1 (h7 b hb).2.2.2.1) (fun b hb => ⟨(h7 b hb).1, (h7 b hb).2.1, (h7 b hb).2.2.1, (h7 b hb).2.2.2.1⟩)
      (h8.turn fun r => (r.touch ht fun b hb _ h => h.elim hb.2.1 fun h => h.elim hb.2.2.1 hb.2.2.2.1).mono fun b hb => ⟨hb.1, hb.2.1, hb.2.2.1, hb.2.2.2.1, hb.2.2.2.2.2⟩))
  have c0 := (h2.cell 0).trans rfl
  have c2 := (h2.cell 2).trans rfl
  have c5 := (h2.cell 5).trans rfl
  have g2 := (h1.1.cell 2).trans rfl
  by_cases hd : k.dead = true
  · have e1 : syncL k m = (k, m, 19) := by unfold syncL; rw [if_pos (.inl hd), if_pos hd]
    rw [e1]
    rw [hd] at g2
    clear h1 h2 h4 h5 h6 h7 h8 hpr hpo hus hl e1 hk hu ho
    have HFIN := hide (show ∀ w' : World, Touch (fun n => n = g ∨ n = a) w w' → (∀ b, b < w.heap.size → w'.heap[b]? = w.heap[b]?) → RStep R l g a c k m (.int .i64 19) w w' (.returned (.int .i64 19)) from
      fun w' ht hb => ⟨rfl, ht.mono fun n _ h => h.elim (fun h => h ▸ d4) (fun h => h ▸ d5), R, HR.out.keep ht.size (fun b hb' => hb b (d6 b hb')), fun b hb => .inl hb⟩)
    go_enter Try.func33, Try.ntmps33
    go_wp2_with fail
    go_quiet (fail)
    go_wp2
    go_ret
    exact HFIN.out _ ((Touch.refl _ _).drewN _) (fun b hb => rfl)
  · have hd0 : k.dead = false := by simpa using hd
    rw [hd0] at g2
    have hP : ∃ P, half k m.n false = 32 * P := ⟨_, rfl⟩
    obtain ⟨P, hP⟩ := hP
    have hlay := fun w' (ht : Touch (fun n => n = g ∨ n = a) w w') (hk' : Rk w' g a c cur k) => reflay_any (Q := fun b => (Value.slice PA m.pend.length pc).ownBlock = some b) P m.at_ PA m.pend.length pc m.pend _ _ _ _ w' hk' hk hd0 (h2.touch ht (fun h => h.elim d1 d2)) ⟨d1, d2⟩ (hpr.touch ht fun b hb _ h => h.elim (h6 b hb).2.2.1 (h6 b hb).2.2.2) hpo (fun b hb _ => ⟨(h6 b hb).2.2.1, (h6 b hb).2.2.2⟩) (by omega)
    have hhalf := fun w' (ht : Touch (fun n => n = g ∨ n = a) w w') (hk' : Rk w' g a c cur k) => refhalf_any (n := m.n) false _ _ _ _ w' hk' hk (h2.touch ht (fun h => h.elim d1 d2))
    cases hw : k.laidOk m.at_ m.pend with
    | false =>
      have e1 : syncL k m = (k.laid (half k m.n false) m.at_ m.pend, m, 19) := by unfold syncL; rw [if_pos (.inr hw), if_neg hd]
      rw [e1]
      rw [hw] at hlay
      have HL := hide hlay
      have HH := hide hhalf
      have z0 : ∀ w', Touch (fun n => n = g ∨ n = a) w w' → w'.cell? ⟨l, 0, none⟩ = some (.pointer (some ⟨g, 0, none⟩)) := fun w' ht => ((h2.touch ht (fun h => h.elim d1 d2)).cell 0).trans rfl
      have z2 : ∀ w', Touch (fun n => n = g ∨ n = a) w w' → w'.cell? ⟨l, 2, none⟩ = some (.int .i64 (m.at_ : Int)) := fun w' ht => ((h2.touch ht (fun h => h.elim d1 d2)).cell 2).trans rfl
      have z5 : ∀ w', Touch (fun n => n = g ∨ n = a) w w' → w'.cell? ⟨l, 5, none⟩ = some (.slice PA m.pend.length pc) := fun w' ht => ((h2.touch ht (fun h => h.elim d1 d2)).cell 5).trans rfl
      have hr0 := (Touch.refl (fun n => n = g ∨ n = a) w).drew
      have HK1 := hide (show Rk w.drew g a c cur k from h1)
      rw [hP] at HH ⊢
      clear h1 h2 h4 h5 h6 h7 h8 hpr hpo hlay hhalf hk hu ho c2 c5 e1
      go_enter Try.func33, Try.ntmps33
      go_wp2_with fail
      refine wp_region_held_drew (S := (fun w' => Touch (fun n => n = g ∨ n = a) w w')) (by kernel_rfl) hr0 (fun hHeld => ?_)
      refine wpAnyH_taken (i := 0) (v := ?_) rfl rfl (by kernel_rfl) (by kernel_rfl) (by kernel_rfl) (fun _ _ _ h => h) (Or.inl ⟨by rfl, ?_⟩) (by assumption) ?_
      rotate_left 1
      · intro w hSw
        (try dsimp only at hSw)
        go_simp
        try with_reducible rfl
      simp only [List.setIfInBounds_toArray, List.set_cons_zero, List.set_cons_succ]
      refine wpAnyH_taken (i := 1) (v := ?_) rfl rfl (by kernel_rfl) (by kernel_rfl) (by kernel_rfl) (fun _ _ _ h => h) (Or.inl ⟨by rfl, ?_⟩) (by assumption) ?_
      rotate_left 1
      · intro w hSw
        (try dsimp only at hSw)
        go_simp
        try with_reducible rfl
      simp only [List.setIfInBounds_toArray, List.set_cons_zero, List.set_cons_succ]
      refine wpAnyH_taken (i := 2) (v := ?_) rfl rfl (by kernel_rfl) (by kernel_rfl) (by kernel_rfl) (fun _ _ _ h => h) (Or.inl ⟨by rfl, ?_⟩) (by assumption) ?_
      rotate_left 1
      · intro w hSw
        (try dsimp only at hSw)
        go_simp
        try with_reducible rfl
      simp only [List.setIfInBounds_toArray, List.set_cons_zero, List.set_cons_succ]
      refine wpAnyH_taken (i := 3) (v := ?_) rfl rfl (by kernel_rfl) (by kernel_rfl) (by kernel_rfl) (fun _ _ _ h => h) (Or.inl ⟨by rfl, ?_⟩) (by assumption) ?_
      rotate_left 1
      · intro w hSw
        (try dsimp only at hSw)
        go_simp
        try with_reducible rfl
      simp only [List.setIfInBounds_toArray, List.set_cons_zero, List.set_cons_succ]
      refine wpAnyH_taken (i := 4) (v := ?_) rfl rfl (by kernel_rfl) (by kernel_rfl) (by kernel_rfl) (fun _ _ _ h => h) (Or.inl ⟨by rfl, ?_⟩) (by assumption) ?_
      rotate_left 1
      · intro w hSw
        (try dsimp only at hSw)
        go_simp
        try with_reducible rfl
      simp only [List.setIfInBounds_toArray, List.set_cons_zero, List.set_cons_succ]
      refine wpAnyH_taken (i := 5) (v := ?_) rfl rfl (by kernel_rfl) (by kernel_rfl) (by kernel_rfl) (fun _ _ _ h => h) (Or.inl ⟨by rfl, ?_⟩) (by assumption) ?_
      rotate_left 1
      · intro w hSw
        (try dsimp only at hSw)
        go_simp
        try with_reducible rfl
      simp only [List.setIfInBounds_toArray, List.set_cons_zero, List.set_cons_succ]
      refine wpAnyH_ready (rs := [6]) (by kernel_rfl) (by simp) ?_
      refine AllReadyH.cons rfl (fun K hK => ?_) AllReadyH.nil
      go_simp
      refine hK.out _ _ ?_ (fun hHeld => ?_)
      · assumption
      clear hK K
      refine wpAnyH_taken (i := 7) (v := ?_) rfl rfl (by kernel_rfl) (by kernel_rfl) (by kernel_rfl) (fun _ _ _ h => h) (Or.inl ⟨by rfl, ?_⟩) (by assumption) ?_
      rotate_left 1
      · intro w hSw
        (try dsimp only at hSw)
        go_simp
        try with_reducible rfl
      simp only [List.setIfInBounds_toArray, List.set_cons_zero, List.set_cons_succ]
      refine wpAnyH_taken (i := 8) (v := ?_) rfl rfl (by kernel_rfl) (by kernel_rfl) (by kernel_rfl) (fun _ _ _ h => h) (Or.inl ⟨by rfl, ?_⟩) (by assumption) ?_
      rotate_left 1
      · intro w hSw
        (try dsimp only at hSw)
        go_simp
        try with_reducible rfl
      simp only [List.setIfInBounds_toArray, List.set_cons_zero, List.set_cons_succ]
      refine wpAnyH_taken (i := 9) (v := ?_) rfl rfl (by kernel_rfl) (by kernel_rfl) (by kernel_rfl) (fun _ _ _ h => h) (Or.inl ⟨by rfl, ?_⟩) (by assumption) ?_
      rotate_left 1
      · intro w hSw
        (try dsimp only at hSw)
        go_simp
        try with_reducible rfl
      simp only [List.setIfInBounds_toArray, List.set_cons_zero, List.set_cons_succ]
      refine wpAnyH_taken (i := 11) (v := ?_) rfl rfl (by kernel_rfl) (by kernel_rfl) (by kernel_rfl) (fun _ _ _ h => h) (Or.inl ⟨by rfl, ?_⟩) (by assumption) ?_
      rotate_left 1
      · intro w hSw
        (try dsimp only at hSw)
        go_simp
        try with_reducible rfl
      simp only [List.setIfInBounds_toArray, List.set_cons_zero, List.set_cons_succ]
      refine wpAnyH_taken (i := 12) (v := ?_) rfl rfl (by kernel_rfl) (by kernel_rfl) (by kernel_rfl) (fun _ _ _ h => h) (Or.inl ⟨by rfl, ?_⟩) (by assumption) ?_
      rotate_left 1
      · intro w hSw
        (try dsimp only at hSw)
        go_simp
        try with_reducible rfl
      simp only [List.setIfInBounds_toArray, List.set_cons_zero, List.set_cons_succ]
      refine wpAnyH_taken (i := 13) (v := ?_) rfl rfl (by kernel_rfl) (by kernel_rfl) (by kernel_rfl) (fun _ _ _ h => h) (Or.inl ⟨by rfl, ?_⟩) (by assumption) ?_
      rotate_left 1
      · intro w hSw
        (try dsimp only at hSw)
        go_simp
        try with_reducible rfl
      simp only [List.setIfInBounds_toArray, List.set_cons_zero, List.set_cons_succ]
      refine wpAnyH_taken (i := 14) (v := ?_) rfl rfl (by kernel_rfl) (by kernel_rfl) (by kernel_rfl) (fun _ _ _ h => h) (Or.inl ⟨by rfl, ?_⟩) (by assumption) ?_
      rotate_left 1
      · intro w hSw
        (try dsimp only at hSw)
        go_simp
        try with_reducible rfl
      simp only [List.setIfInBounds_toArray, List.set_cons_zero, List.set_cons_succ]
      refine wpAnyH_taken (i := 15) (v := ?_) rfl rfl (by kernel_rfl) (by kernel_rfl) (by kernel_rfl) (fun _ _ _ h => h) (Or.inl ⟨by rfl, ?_⟩) (by assumption) ?_
      rotate_left 1
      · intro w hSw
        (try dsimp only at hSw)
        go_simp
        try with_reducible rfl
      simp only [List.setIfInBounds_toArray, List.set_cons_zero, List.set_cons_succ]
      refine wpAnyH_taken (i := 16) (v := ?_) rfl rfl (by kernel_rfl) (by kernel_rfl) (by kernel_rfl) (fun _ _ _ h => h) (Or.inl ⟨by rfl, ?_⟩) (by assumption) ?_
      rotate_left 1
      · intro w hSw
        (try dsimp only at hSw)
        go_simp
        try with_reducible rfl
      simp only [List.setIfInBounds_toArray, List.set_cons_zero, List.set_cons_succ]
      refine wpAnyH_taken (i := 17) (v := ?_) rfl rfl (by kernel_rfl) (by kernel_rfl) (by kernel_rfl) (fun _ _ _ h => h) (Or.inl ⟨by rfl, ?_⟩) (by assumption) ?_
      rotate_left 1
      · intro w hSw
        (try dsimp only at hSw)
        go_simp
        try with_reducible rfl
      simp only [List.setIfInBounds_toArray, List.set_cons_zero, List.set_cons_succ]
      refine wpAnyH_taken (i := 18) (v := ?_) rfl rfl (by kernel_rfl) (by kernel_rfl) (by kernel_rfl) (fun _ _ _ h => h) (Or.inl ⟨by rfl, ?_⟩) (by assumption) ?_
      rotate_left 1
      · intro w hSw
        (try dsimp only at hSw)
        go_simp
        try with_reducible rfl
      simp only [List.setIfInBounds_toArray, List.set_cons_zero, List.set_cons_succ]
      refine wpAnyH_ready (rs := [10]) (by kernel_rfl) (by simp) ?_
      refine AllReadyH.cons rfl (fun K hK => ?_) AllReadyH.nil
      go_simp
      go_wp2_with ((go_at_call 55; refine (HH.out _ (by assumption) HK1.out).mono ?_; rintro e w5 ⟨rfl, rfl⟩))
      refine hK.out _ _ ?_ (fun hHeld => ?_)
      · assumption
      clear hK K
      refine wpAnyH_ready (rs := [19]) (by kernel_rfl) (by simp) ?_
      refine AllReadyH.cons rfl (fun K hK => ?_) AllReadyH.nil
      go_simp
      go_wp2_with ((go_at_call 54; refine (HL.out _ (by assumption) HK1.out).mono ?_; rintro e w5 ⟨rfl, hk5, ht5⟩; have hq5 := hr0.trans ht5 (fun _ _ h => h)))
      refine hK.out _ _ ?_ (fun hHeld => ?_)
      · assumption
      clear hK K
      refine wpAnyH_taken (i := 20) (v := ?_) rfl rfl (by kernel_rfl) (by kernel_rfl) (by kernel_rfl) (fun _ _ _ h => h) (Or.inl ⟨by rfl, ?_⟩) (by assumption) ?_
      rotate_left 1
      · intro w hSw
        (try dsimp only at hSw)
        go_simp
        try with_reducible rfl
      simp only [List.setIfInBounds_toArray, List.set_cons_zero, List.set_cons_succ]
      refine wpAnyH_taken (i := 21) (v := ?_) rfl rfl (by kernel_rfl) (by kernel_rfl) (by kernel_rfl) (fun _ _ _ h => h) (Or.inl ⟨by rfl, ?_⟩) (by assumption) ?_
      rotate_left 1
      · intro w hSw
        (try dsimp only at hSw)
        go_simp
        try with_reducible rfl
      simp only [List.setIfInBounds_toArray, List.set_cons_zero, List.set_cons_succ]
      refine wpAnyH_done (by kernel_rfl) ?_ _
      go_wp2
      go_ret
      exact ⟨rfl, hq5.mono fun n _ h => h.elim (fun h => h ▸ d4) (fun h => h ▸ d5), R, HR.out.disk hq5 hk5, fun b hb => .inl hb⟩
    | true =>
      have e1 : syncL k m = (k.laid (half k m.n false) m.at_ m.pend, { m with dur := m.recs.length }, 0) := by
        unfold syncL
        rw [if_neg (fun h => h.elim hd (fun h => by rw [hw] at h; cases h))]
      rw [e1]
      rw [hw] at hlay
      have HL := hide hlay
      have HH := hide hhalf
      have z0 : ∀ w', Touch (fun n => n = g ∨ n = a) w w' → w'.cell? ⟨l, 0, none⟩ = some (.pointer (some ⟨g, 0, none⟩)) := fun w' ht => ((h2.touch ht (fun h => h.elim d1 d2)).cell 0).trans rfl
      have z2 : ∀ w', Touch (fun n => n = g ∨ n = a) w w' → w'.cell? ⟨l, 2, none⟩ = some (.int .i64 (m.at_ : Int)) := fun w' ht => ((h2.touch ht (fun h => h.elim d1 d2)).cell 2).trans rfl
      have z5 : ∀ w', Touch (fun n => n = g ∨ n = a) w w' → w'.cell? ⟨l, 5, none⟩ = some (.slice PA m.pend.length pc) := fun w' ht => ((h2.touch ht (fun h => h.elim d1 d2)).cell 5).trans rfl
      have hr0 := (Touch.refl (fun n => n = g ∨ n = a) w).drew
      have HK1 := hide (show Rk w.drew g a c cur k from h1)
      rw [hP] at HH ⊢
      have b1 : m.at_ ≤ 5000 := by omega
      have b2 : m.pend.length ≤ 5000 := by omega
      have HU := hide hus
      have HB := hide h2
      clear h1 h2 h4 h5 h6 h7 h8 hpr hpo hlay hhalf hk hu ho c2 c5 e1 hus
      go_enter Try.func33, Try.ntmps33
      go_wp2_with fail
      refine wp_region_held_drew (S := (fun w' => Touch (fun n => n = g ∨ n = a) w w')) (by kernel_rfl) hr0 (fun hHeld => ?_)
      refine wpAnyH_taken (i := 0) (v := ?_) rfl rfl (by kernel_rfl) (by kernel_rfl) (by kernel_rfl) (fun _ _ _ h => h) (Or.inl ⟨by rfl, ?_⟩) (by assumption) ?_
      rotate_left 1
      · intro w hSw
        (try dsimp only at hSw)
        go_simp
        try with_reducible rfl
      simp only [List.setIfInBounds_toArray, List.set_cons_zero, List.set_cons_succ]
      refine wpAnyH_taken (i := 1) (v := ?_) rfl rfl (by kernel_rfl) (by kernel_rfl) (by kernel_rfl) (fun _ _ _ h => h) (Or.inl ⟨by rfl, ?_⟩) (by assumption) ?_
      rotate_left 1
      · intro w hSw
        (try dsimp only at hSw)
        go_simp
        try with_reducible rfl
      simp only [List.setIfInBounds_toArray, List.set_cons_zero, List.set_cons_succ]
      refine wpAnyH_taken (i := 2) (v := ?_) rfl rfl (by kernel_rfl) (by kernel_rfl) (by kernel_rfl) (fun _ _ _ h => h) (Or.inl ⟨by rfl, ?_⟩) (by assumption) ?_
      rotate_left 1
      · intro w hSw
        (try dsimp only at hSw)
        go_simp
        try with_reducible rfl
      simp only [List.setIfInBounds_toArray, List.set_cons_zero, List.set_cons_succ]
      refine wpAnyH_taken (i := 3) (v := ?_) rfl rfl (by kernel_rfl) (by kernel_rfl) (by kernel_rfl) (fun _ _ _ h => h) (Or.inl ⟨by rfl, ?_⟩) (by assumption) ?_
      rotate_left 1
      · intro w hSw
        (try dsimp only at hSw)
        go_simp
        try with_reducible rfl
      simp only [List.setIfInBounds_toArray, List.set_cons_zero, List.set_cons_succ]
      refine wpAnyH_taken (i := 4) (v := ?_) rfl rfl (by kernel_rfl) (by kernel_rfl) (by kernel_rfl) (fun _ _ _ h => h) (Or.inl ⟨by rfl, ?_⟩) (by assumption) ?_
      rotate_left 1
      · intro w hSw
        (try dsimp only at hSw)
        go_simp
        try with_reducible rfl
      simp only [List.setIfInBounds_toArray, List.set_cons_zero, List.set_cons_succ]
      refine wpAnyH_taken (i := 5) (v := ?_) rfl rfl (by kernel_rfl) (by kernel_rfl) (by kernel_rfl) (fun _ _ _ h => h) (Or.inl ⟨by rfl, ?_⟩) (by assumption) ?_
      rotate_left 1
      · intro w hSw
        (try dsimp only at hSw)
        go_simp
        try with_reducible rfl
      simp only [List.setIfInBounds_toArray, List.set_cons_zero, List.set_cons_succ]
      refine wpAnyH_ready (rs := [6]) (by kernel_rfl) (by simp) ?_
      refine AllReadyH.cons rfl (fun K hK => ?_) AllReadyH.nil
      go_simp
      refine hK.out _ _ ?_ (fun hHeld => ?_)
      · assumption
      clear hK K
      refine wpAnyH_taken (i := 7) (v := ?_) rfl rfl (by kernel_rfl) (by kernel_rfl) (by kernel_rfl) (fun _ _ _ h => h) (Or.inl ⟨by rfl, ?_⟩) (by assumption) ?_
      rotate_left 1
      · intro w hSw
        (try dsimp only at hSw)
        go_simp
        try with_reducible rfl
      simp only [List.setIfInBounds_toArray, List.set_cons_zero, List.set_cons_succ]
      refine wpAnyH_taken (i := 8) (v := ?_) rfl rfl (by kernel_rfl) (by kernel_rfl) (by kernel_rfl) (fun _ _ _ h => h) (Or.inl ⟨by rfl, ?_⟩) (by assumption) ?_
      rotate_left 1
      · intro w hSw
        (try dsimp only at hSw)
        go_simp
        try with_reducible rfl
      simp only [List.setIfInBounds_toArray, List.set_cons_zero, List.set_cons_succ]
      refine wpAnyH_taken (i := 9) (v := ?_) rfl rfl (by kernel_rfl) (by kernel_rfl) (by kernel_rfl) (fun _ _ _ h => h) (Or.inl ⟨by rfl, ?_⟩) (by assumption) ?_
      rotate_left 1
      · intro w hSw
        (try dsimp only at hSw)
        go_simp
        try with_reducible rfl
      simp only [List.setIfInBounds_toArray, List.set_cons_zero, List.set_cons_succ]
      refine wpAnyH_taken (i := 11) (v := ?_) rfl rfl (by kernel_rfl) (by kernel_rfl) (by kernel_rfl) (fun _ _ _ h => h) (Or.inl ⟨by rfl, ?_⟩) (by assumption) ?_
      rotate_left 1
      · intro w hSw
        (try dsimp only at hSw)
        go_simp
        try with_reducible rfl
      simp only [List.setIfInBounds_toArray, List.set_cons_zero, List.set_cons_succ]
      refine wpAnyH_taken (i := 12) (v := ?_) rfl rfl (by kernel_rfl) (by kernel_rfl) (by kernel_rfl) (fun _ _ _ h => h) (Or.inl ⟨by rfl, ?_⟩) (by assumption) ?_
      rotate_left 1
      · intro w hSw
        (try dsimp only at hSw)
        go_simp
        try with_reducible rfl
      simp only [List.setIfInBounds_toArray, List.set_cons_zero, List.set_cons_succ]
      refine wpAnyH_taken (i := 13) (v := ?_) rfl rfl (by kernel_rfl) (by kernel_rfl) (by kernel_rfl) (fun _ _ _ h => h) (Or.inl ⟨by rfl, ?_⟩) (by assumption) ?_
      rotate_left 1
      · intro w hSw
        (try dsimp only at hSw)
        go_simp
        try with_reducible rfl
      simp only [List.setIfInBounds_toArray, List.set_cons_zero, List.set_cons_succ]
      refine wpAnyH_taken (i := 14) (v := ?_) rfl rfl (by kernel_rfl) (by kernel_rfl) (by kernel_rfl) (fun _ _ _ h => h) (Or.inl ⟨by rfl, ?_⟩) (by assumption) ?_
      rotate_left 1
      · intro w hSw
        (try dsimp only at hSw)
        go_simp
        try with_reducible rfl
      simp only [List.setIfInBounds_toArray, List.set_cons_zero, List.set_cons_succ]
      refine wpAnyH_taken (i := 15) (v := ?_) rfl rfl (by kernel_rfl) (by kernel_rfl) (by kernel_rfl) (fun _ _ _ h => h) (Or.inl ⟨by rfl, ?_⟩) (by assumption) ?_
      rotate_left 1
      · intro w hSw
        (try dsimp only at hSw)
        go_simp
        try with_reducible rfl
      simp only [List.setIfInBounds_toArray, List.set_cons_zero, List.set_cons_succ]
      refine wpAnyH_taken (i := 16) (v := ?_) rfl rfl (by kernel_rfl) (by kernel_rfl) (by kernel_rfl) (fun _ _ _ h => h) (Or.inl ⟨by rfl, ?_⟩) (by assumption) ?_
      rotate_left 1
      · intro w hSw
        (try dsimp only at hSw)
        go_simp
        try with_reducible rfl
      simp only [List.setIfInBounds_toArray, List.set_cons_zero, List.set_cons_succ]
      refine wpAnyH_taken (i := 17) (v := ?_) rfl rfl (by kernel_rfl) (by kernel_rfl) (by kernel_rfl) (fun _ _ _ h => h) (Or.inl ⟨by rfl, ?_⟩) (by assumption) ?_
      rotate_left 1
      · intro w hSw
        (try dsimp only at hSw)
        go_simp
        try with_reducible rfl
      simp only [List.setIfInBounds_toArray, List.set_cons_zero, List.set_cons_succ]
      refine wpAnyH_taken (i := 18) (v := ?_) rfl rfl (by kernel_rfl) (by kernel_rfl) (by kernel_rfl) (fun _ _ _ h => h) (Or.inl ⟨by rfl, ?_⟩) (by assumption) ?_
      rotate_left 1
      · intro w hSw
        (try dsimp only at hSw)
        go_simp
        try with_reducible rfl
      simp only [List.setIfInBounds_toArray, List.set_cons_zero, List.set_cons_succ]
      refine wpAnyH_ready (rs := [10]) (by kernel_rfl) (by simp) ?_
      refine AllReadyH.cons rfl (fun K hK => ?_) AllReadyH.nil
      go_simp
      go_wp2_with ((go_at_call 55; refine (HH.out _ (by assumption) HK1.out).mono ?_; rintro e w5 ⟨rfl, rfl⟩))
      refine hK.out _ _ ?_ (fun hHeld => ?_)
      · assumption
      clear hK K
      refine wpAnyH_ready (rs := [19]) (by kernel_rfl) (by simp) ?_
      refine AllReadyH.cons rfl (fun K hK => ?_) AllReadyH.nil
      go_simp
      go_wp2_with ((go_at_call 54; refine (HL.out _ (by assumption) HK1.out).mono ?_; rintro e w5 ⟨rfl, hk5, ht5⟩; have hq5 := hr0.trans ht5 (fun _ _ h => h)))
      refine hK.out _ _ ?_ (fun hHeld => ?_)
      · assumption
      clear hK K
      refine wpAnyH_taken (i := 20) (v := ?_) rfl rfl (by kernel_rfl) (by kernel_rfl) (by kernel_rfl) (fun _ _ _ h => h) (Or.inl ⟨by rfl, ?_⟩) (by assumption) ?_
      rotate_left 1
      · intro w hSw
        (try dsimp only at hSw)
        go_simp
        try with_reducible rfl
      simp only [List.setIfInBounds_toArray, List.set_cons_zero, List.set_cons_succ]
      refine wpAnyH_taken (i := 21) (v := ?_) rfl rfl (by kernel_rfl) (by kernel_rfl) (by kernel_rfl) (fun _ _ _ h => h) (Or.inl ⟨by rfl, ?_⟩) (by assumption) ?_
      rotate_left 1
      · intro w hSw
        (try dsimp only at hSw)
        go_simp
        try with_reducible rfl
      simp only [List.setIfInBounds_toArray, List.set_cons_zero, List.set_cons_succ]
      refine wpAnyH_done (by kernel_rfl) ?_ _
      have B5 := HB.out.touch hq5 (fun h => h.elim d1 d2)
      have HT5 := hide (hq5.mono (Q := fun n => n = l ∨ n = g ∨ n = a) fun n _ h => .inr h)
      clear hq5 ht5 hr0 c0 g2 z0 z2 z5 HL HH HK1 HB
      have q2 := (B5.cell 2).trans rfl
      have q5 := (B5.cell 5).trans rfl
      have f2 := B5.frozen 2
      have B6 := B5.store 2 (.int .i64 ((m.at_ : Int) + (m.pend.length : Int)))
      have B6' := B5.store 2 (.int .i64 ((m.at_ : Int) + (m.pend.length : Int)))
      have f5 := B6'.frozen 5
      have v5 := (B6'.cell 5).trans rfl
      have B7' := B6'.store 5 (.slice none 0 0)
      have v3 := (B7'.cell 3).trans rfl
      have v4 := (B7'.cell 4).trans rfl
      have f4 := B7'.frozen 4
      have B7 := B6.store 5 (.slice none 0 0)
      have B8 := B7.store 4 (.int .i64 (m.recs.length : Int))
      have eu : (m.at_ : Int) + (m.pend.length : Int) = (m.used : Int) := by have := HU.out; omega
      have T8 := ((((HT5.out).setCell (p := ⟨l, 2, none⟩) (fun _ => .inl rfl) (.int .i64 ((m.at_ : Int) + (m.pend.length : Int)))).setCell (p := ⟨l, 5, none⟩) (fun _ => .inl rfl) (.slice none 0 0)).setCell (p := ⟨l, 4, none⟩) (fun _ => .inl rfl) (.int .i64 (m.recs.length : Int))).drew
      obtain ⟨cur5, hk5⟩ := hk5
      have hkb : ∀ b, b ≠ l → (((w5.setCell ⟨l, 2, none⟩ (.int .i64 ((m.at_ : Int) + (m.pend.length : Int)))).setCell ⟨l, 5, none⟩ (.slice none 0 0)).setCell ⟨l, 4, none⟩ (.int .i64 (m.recs.length : Int))).heap[b]? = w5.heap[b]? := fun b hb =>
        (Below.heap_setCell _ ⟨l, 4, none⟩ _ b hb).trans ((Below.heap_setCell _ ⟨l, 5, none⟩ _ b hb).trans (Below.heap_setCell _ ⟨l, 2, none⟩ _ b hb))
      have hk8 := hk5.keep (hkb g (Ne.symm d1)) (hkb a (Ne.symm d2))
      have HFIN := hide (show RStep R l g a c (k.laid (32 * P) m.at_ m.pend) { m with dur := m.recs.length } (.int .i64 0) w _ (.returned (.int .i64 0)) from
        ⟨rfl, T8.mono fun n _ h => h.elim (fun h => h ▸ d3) fun h => h.elim (fun h => h ▸ d4) (fun h => h ▸ d5), R, HSYN.out _ cur5 _ T8 (hk8.keep rfl rfl) (by rw [← eu]; exact B8.drew), fun b hb => .inl hb⟩)
      clear B5 B6 B7 B6' B7' B8 hk5 hk8 T8 HT5 hkb eu
      go_wp2
      go_region
      go_wp2
      go_ret
      exact HFIN.out
end Go.Proofs.Ythoedknnchaiaaa
