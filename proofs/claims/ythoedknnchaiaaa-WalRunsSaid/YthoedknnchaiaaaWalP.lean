/-
  The program's contracts of layer 12: Sync, Swap.
-/
import Derived.Test.YthoedknnchaiaaaWalPU
import Derived.Test.YthoedknnchaiaaaWalPA
import Derived.Lib.SliceRun
namespace Go.Proofs.Ythoedknnchaiaaa
open Go.RowKit
set_option linter.unusedVariables false

section
variable {P Q R : Nat → Prop} {l d : Nat} {k : Dk} {m : Lm}
theorem bit_like {k h : Dk} (e : k.like h) : bitOf k = bitOf h := by unfold bitOf; rw [e.1]
theorem LogM.like {w : World} {k k' : Dk} (h : LogM w P l d k m) (e : k.like k') : LogM w P l d k' m := by
  obtain ⟨o, h1, h2⟩ := h
  exact ⟨o, h1, fun hd => by rw [← bit_like e]; exact h2 (e.2.2.trans hd)⟩
theorem LDid.ll {w w' : World} {e : Ending} {k k' : Dk} {v : Value} {n : Nat} (h : LDid LogM Dsk P Q l d k m v w w' e) (hl : k.like k') (hk : k.ok n) : LDid LogM DskL P Q l d k' m v w w' e := by
  obtain ⟨h1, P', Q', h2, h3, h4⟩ := h
  exact ⟨h1, P', Q', h2.like hl, ⟨k, hl, hk.2.2.2.2, h3⟩, h4⟩
/-- Where the log in memory is as it was. -/
theorem LDid.still {w w' : World} {k k' : Dk} {v : Value} (h : LogM w P l d k m) (hpq : ∀ b, P b → ¬ Q b) (hd : DskIn Q w d k' w') (hk : k'.dead = false → k.dead = false ∧ bitOf k' = bitOf k) : LDid LogM Dsk P Q l d k' m v w w' (.returned v) := by
  have hlt := log_lt h
  obtain ⟨⟨Q', h1, h2⟩, h3⟩ := hd
  obtain ⟨o, ho, hb⟩ := h
  refine ⟨rfl, P, Q', ⟨o, ho.keep fun b hb hlt => h3.block b hlt (hpq b hb), fun hd => by rw [hb (hk hd).1, (hk hd).2]⟩, h1, fun b hb hq => ?_, fun b hb => .inl hb, h2, h3.mono fun _ _ h => .inr h⟩
  rcases h2 b hq with h | h
  · exact hpq b hb h
  · have := hlt b hb; omega
theorem synced_at (m : Lm) : ({ m with dur := m.recs.length } : Lm).at_ = m.used := by
  show (allF (m.recs.take m.recs.length)).length = _
  rw [List.take_length]
  rfl

set_option maxHeartbeats 1000000 in
theorem wsync0_any (w : World) (h : LogM w P l d k m) (hq : Dsk w Q d k) (hpq : ∀ b, P b → ¬ Q b) (hi : Inv k m) :
    Calls Try.prog 16 #[.pointer (some ⟨l, 0, none⟩)] w fun e w' => LDid LogM Dsk P Q l d (syncL k m).1 (syncL k m).2.1 (.int .i64 (syncL k m).2.2) w w' e := by
  have HM := hide h
  have HPQ := hide hpq
  have hlt := log_lt h
  obtain ⟨o, ⟨FA, fc, b1, b2, b3, b4⟩, hbit⟩ := h
  have hP : P l := (b3 l).2 (.inl rfl)
  have hlQ : ¬ Q l := hpq l hP
  have hll := hlt l hP
  have c0 : w.cell? ⟨l, 0, none⟩ = some (.pointer (some ⟨d, 0, none⟩)) := (b1.cell 0).trans rfl
  have hv : HvAt w l d o := ⟨c0, (b1.cell 1).trans rfl⟩
  by_cases hd : k.dead = true
  · have e1 : syncL k m = (k, m, 19) := by unfold syncL; rw [if_pos (.inl hd), if_pos hd]
    rw [e1]
    have HST := hide (wsteady_no w.drew (HvAt.keep hv rfl) (dsk_keep hq fun _ _ _ => rfl) hi.ok hd)
    have HE := hide (fun (w' : World) (hs : Since w w') => LDid.still (v := .int .i64 19) HM.out HPQ.out ((DskIn.start hq).below hs) fun hc => ⟨hc, rfl⟩)
    have hr0 := (Since.refl w).drew
    clear hpq b1 b2 b3 b4 hbit hP hlQ hll hlt hv hq hi hd e1
    go_enter Try.func16, Try.ntmps16
    go_wp2_with fail
    refine (wreal_yes w l d c0).mono ?_
    rintro e w' ⟨rfl, rfl⟩
    go_wp2_with fail
    refine wp_region_held_drew (S := (fun w' => Since w w')) (by kernel_rfl) hr0 (fun hHeld => ?_)
    refine wpAnyH_taken (i := 0) (v := ?_) rfl rfl (by kernel_rfl) (by kernel_rfl) (by kernel_rfl) (fun _ _ _ h => h) (Or.inl ⟨by rfl, ?_⟩) (by assumption) ?_
    rotate_left 1
    · intro w hSw
      (try dsimp only at hSw)
      go_simp
      try with_reducible rfl
    simp only [List.setIfInBounds_toArray, List.set_cons_zero, List.set_cons_succ]
    refine wpAnyH_taken (i := 1) (v := ?_) rfl rfl (by kernel_rfl) (by kernel_rfl) (by kernel_rfl) (fun _ _ _ h => h) (Or.inl ⟨by rfl, ?_⟩) (by assumption) ?_
    rotate_left 1
    · intro w hSw
      (try dsimp only at hSw)
      go_simp
      try with_reducible rfl
    simp only [List.setIfInBounds_toArray, List.set_cons_zero, List.set_cons_succ]
    refine wpAnyH_taken (i := 2) (v := ?_) rfl rfl (by kernel_rfl) (by kernel_rfl) (by kernel_rfl) (fun _ _ _ h => h) (Or.inl ⟨by rfl, ?_⟩) (by assumption) ?_
    rotate_left 1
    · intro w hSw
      (try dsimp only at hSw)
      go_simp
      try with_reducible rfl
    simp only [List.setIfInBounds_toArray, List.set_cons_zero, List.set_cons_succ]
    refine wpAnyH_ready (rs := [3]) (by kernel_rfl) (by simp) ?_
    refine AllReadyH.cons rfl (fun K hK => ?_) AllReadyH.nil
    go_simp
    go_wp2_with ((go_at_call 39; refine HST.out.mono ?_; rintro e w5 ⟨rfl, hb5⟩; have hS5 := Since.next hr0 hb5))
    refine hK.out _ _ ?_ (fun hHeld => ?_)
    · assumption
    clear hK K
    refine wpAnyH_taken (i := 4) (v := ?_) rfl rfl (by kernel_rfl) (by kernel_rfl) (by kernel_rfl) (fun _ _ _ h => h) (Or.inl ⟨by rfl, ?_⟩) (by assumption) ?_
    rotate_left 1
    · intro w hSw
      (try dsimp only at hSw)
      go_simp
      try with_reducible rfl
    simp only [List.setIfInBounds_toArray, List.set_cons_zero, List.set_cons_succ]
    refine wpAnyH_taken (i := 5) (v := ?_) rfl rfl (by kernel_rfl) (by kernel_rfl) (by kernel_rfl) (fun _ _ _ h => h) (Or.inl ⟨by rfl, ?_⟩) (by assumption) ?_
    rotate_left 1
    · intro w hSw
      (try dsimp only at hSw)
      go_simp
      try with_reducible rfl
    simp only [List.setIfInBounds_toArray, List.set_cons_zero, List.set_cons_succ]
    refine wpAnyH_taken (i := 6) (v := undef) rfl rfl (by kernel_rfl) (by kernel_rfl) (by kernel_rfl) (fun _ _ _ h => h) (Or.inr ⟨by rfl, rfl⟩) (by assumption) ?_
    simp only [List.setIfInBounds_toArray, List.set_cons_zero, List.set_cons_succ]
    refine wpAnyH_taken (i := 7) (v := undef) rfl rfl (by kernel_rfl) (by kernel_rfl) (by kernel_rfl) (fun _ _ _ h => h) (Or.inr ⟨by rfl, rfl⟩) (by assumption) ?_
    simp only [List.setIfInBounds_toArray, List.set_cons_zero, List.set_cons_succ]
    refine wpAnyH_taken (i := 8) (v := undef) rfl rfl (by kernel_rfl) (by kernel_rfl) (by kernel_rfl) (fun _ _ _ h => h) (Or.inr ⟨by rfl, rfl⟩) (by assumption) ?_
    simp only [List.setIfInBounds_toArray, List.set_cons_zero, List.set_cons_succ]
    refine wpAnyH_taken (i := 9) (v := undef) rfl rfl (by kernel_rfl) (by kernel_rfl) (by kernel_rfl) (fun _ _ _ h => h) (Or.inr ⟨by rfl, rfl⟩) (by assumption) ?_
    simp only [List.setIfInBounds_toArray, List.set_cons_zero, List.set_cons_succ]
    refine wpAnyH_taken (i := 10) (v := undef) rfl rfl (by kernel_rfl) (by kernel_rfl) (by kernel_rfl) (fun _ _ _ h => h) (Or.inr ⟨by rfl, rfl⟩) (by assumption) ?_
    simp only [List.setIfInBounds_toArray, List.set_cons_zero, List.set_cons_succ]
    refine wpAnyH_taken (i := 11) (v := undef) rfl rfl (by kernel_rfl) (by kernel_rfl) (by kernel_rfl) (fun _ _ _ h => h) (Or.inr ⟨by rfl, rfl⟩) (by assumption) ?_
    simp only [List.setIfInBounds_toArray, List.set_cons_zero, List.set_cons_succ]
    refine wpAnyH_taken (i := 12) (v := undef) rfl rfl (by kernel_rfl) (by kernel_rfl) (by kernel_rfl) (fun _ _ _ h => h) (Or.inr ⟨by rfl, rfl⟩) (by assumption) ?_
    simp only [List.setIfInBounds_toArray, List.set_cons_zero, List.set_cons_succ]
    refine wpAnyH_taken (i := 13) (v := undef) rfl rfl (by kernel_rfl) (by kernel_rfl) (by kernel_rfl) (fun _ _ _ h => h) (Or.inr ⟨by rfl, rfl⟩) (by assumption) ?_
    simp only [List.setIfInBounds_toArray, List.set_cons_zero, List.set_cons_succ]
    refine wpAnyH_taken (i := 14) (v := undef) rfl rfl (by kernel_rfl) (by kernel_rfl) (by kernel_rfl) (fun _ _ _ h => h) (Or.inr ⟨by rfl, rfl⟩) (by assumption) ?_
    simp only [List.setIfInBounds_toArray, List.set_cons_zero, List.set_cons_succ]
    refine wpAnyH_taken (i := 15) (v := undef) rfl rfl (by kernel_rfl) (by kernel_rfl) (by kernel_rfl) (fun _ _ _ h => h) (Or.inr ⟨by rfl, rfl⟩) (by assumption) ?_
    simp only [List.setIfInBounds_toArray, List.set_cons_zero, List.set_cons_succ]
    refine wpAnyH_taken (i := 16) (v := undef) rfl rfl (by kernel_rfl) (by kernel_rfl) (by kernel_rfl) (fun _ _ _ h => h) (Or.inr ⟨by rfl, rfl⟩) (by assumption) ?_
    simp only [List.setIfInBounds_toArray, List.set_cons_zero, List.set_cons_succ]
    refine wpAnyH_taken (i := 17) (v := undef) rfl rfl (by kernel_rfl) (by kernel_rfl) (by kernel_rfl) (fun _ _ _ h => h) (Or.inr ⟨by rfl, rfl⟩) (by assumption) ?_
    simp only [List.setIfInBounds_toArray, List.set_cons_zero, List.set_cons_succ]
    refine wpAnyH_taken (i := 18) (v := undef) rfl rfl (by kernel_rfl) (by kernel_rfl) (by kernel_rfl) (fun _ _ _ h => h) (Or.inr ⟨by rfl, rfl⟩) (by assumption) ?_
    simp only [List.setIfInBounds_toArray, List.set_cons_zero, List.set_cons_succ]
    refine wpAnyH_taken (i := 19) (v := undef) rfl rfl (by kernel_rfl) (by kernel_rfl) (by kernel_rfl) (fun _ _ _ h => h) (Or.inr ⟨by rfl, rfl⟩) (by assumption) ?_
    simp only [List.setIfInBounds_toArray, List.set_cons_zero, List.set_cons_succ]
    refine wpAnyH_taken (i := 20) (v := undef) rfl rfl (by kernel_rfl) (by kernel_rfl) (by kernel_rfl) (fun _ _ _ h => h) (Or.inr ⟨by rfl, rfl⟩) (by assumption) ?_
    simp only [List.setIfInBounds_toArray, List.set_cons_zero, List.set_cons_succ]
    refine wpAnyH_taken (i := 21) (v := undef) rfl rfl (by kernel_rfl) (by kernel_rfl) (by kernel_rfl) (fun _ _ _ h => h) (Or.inr ⟨by rfl, rfl⟩) (by assumption) ?_
    simp only [List.setIfInBounds_toArray, List.set_cons_zero, List.set_cons_succ]
    refine wpAnyH_taken (i := 22) (v := undef) rfl rfl (by kernel_rfl) (by kernel_rfl) (by kernel_rfl) (fun _ _ _ h => h) (Or.inr ⟨by rfl, rfl⟩) (by assumption) ?_
    simp only [List.setIfInBounds_toArray, List.set_cons_zero, List.set_cons_succ]
    refine wpAnyH_taken (i := 23) (v := undef) rfl rfl (by kernel_rfl) (by kernel_rfl) (by kernel_rfl) (fun _ _ _ h => h) (Or.inr ⟨by rfl, rfl⟩) (by assumption) ?_
    simp only [List.setIfInBounds_toArray, List.set_cons_zero, List.set_cons_succ]
    refine wpAnyH_taken (i := 24) (v := ?_) rfl rfl (by kernel_rfl) (by kernel_rfl) (by kernel_rfl) (fun _ _ _ h => h) (Or.inl ⟨by rfl, ?_⟩) (by assumption) ?_
    rotate_left 1
    · intro w hSw
      (try dsimp only at hSw)
      go_simp
      try with_reducible rfl
    simp only [List.setIfInBounds_toArray, List.set_cons_zero, List.set_cons_succ]
    refine wpAnyH_done (by kernel_rfl) ?_ _
    all_goals go_wp2
    all_goals go_ret
    all_goals exact HE.out _ (by assumption)
  · have hd0 : k.dead = false := by simpa using hd
    have hg := hi.good hd0
    have ho := hbit hd0
    obtain ⟨hcov, hpend⟩ := cov_sync hg
    have hus := m.used_split
    have hhb : 32 * bas o m.n = half k m.n false := by rw [half_bas, ho]; cases bitOf k <;> rfl
    have hrow := LogAt.row b2
    have HST := hide (wsteady_yes w.drew (HvAt.keep hv rfl) (dsk_keep hq fun _ _ _ => rfl) hi.ok hd0 ho)
    have hly := fun (w' : World) (hs : Since w w') => wlay_any o m.at_ FA m.used fc (allF m.recs) w' (((DskIn.start hq).below hs).hv hv hlQ) (dsk_keep hq fun b _ hb => (show Below w.heap.size w w' from hs).block b hb) hi.ok hd0 hlQ (hs.row hrow) (allF_octs hi.octs) (fun b hb _ h => hpq b ((b3 b).2 (.inr hb.1)) h) (by omega) hi.room (by rw [ho]; exact hcov)
    rw [hpend, hhb] at hly
    have hlb := first_laid (a := m.at_) (x := m.pend) hi.ok false (by have := hi.room; omega)
    have z1 : ∀ w', Touch Q w w' → w'.cell? ⟨l, 1, none⟩ = some (.int .i64 (hi_ o)) := fun w' ht => ((b1.touch ht hlQ).cell 1).trans rfl
    have z2 : ∀ w', Touch Q w w' → w'.cell? ⟨l, 2, none⟩ = some (.slice FA m.used fc) := fun w' ht => ((b1.touch ht hlQ).cell 2).trans rfl
    have z3 : ∀ w', Touch Q w w' → w'.cell? ⟨l, 3, none⟩ = some (.int .i64 (m.at_ : Int)) := fun w' ht => ((b1.touch ht hlQ).cell 3).trans rfl
    have hr0 := (Touch.refl Q w).drew
    have hs0 := (Since.refl w).drew
    cases hw : k.laidOk m.at_ m.pend with
    | false =>
      have e1 : syncL k m = (k.laid (half k m.n false) m.at_ m.pend, m, 19) := by unfold syncL; rw [if_pos (.inr hw), if_neg hd]
      rw [e1]
      rw [hw] at hly
      have HLY := hide hly
      have HE := hide (fun (w5 w' : World) (hs : Since w w5) (hdd : DDid Dsk Q d (k.laid (half k m.n false) m.at_ m.pend) (.bool false) w5 w' (.returned (.bool false))) =>
        LDid.still (v := .int .i64 19) HM.out HPQ.out (DskIn.next ((Touch.of_below (show Below w.heap.size w w5 from hs)).mono (Q := Q) fun _ _ h => h.elim) (fun _ h => .inl h) hdd) fun hc => by rw [laid_dead hw] at hc; cases hc)
      clear hpq b1 b2 b3 b4 hbit hP hlQ hll hlt hv hq hi hd hd0 e1 hg ho hcov hpend hus hhb hrow hly hlb hw
      generalize m.used = u at *
      generalize m.at_ = a at *
      go_enter Try.func16, Try.ntmps16
      go_wp2_with fail
      refine (wreal_yes w l d c0).mono ?_
      rintro e w' ⟨rfl, rfl⟩
      go_wp2_with fail
      go_region_held (fun w' => Touch Q w w') (assumption) (first
        | (go_at_call 39; refine HST.out.mono ?_; rintro e w5 ⟨rfl, hb5⟩; have hS5 := Since.next hs0 hb5; have hq5 := (Touch.of_below (show Below w.heap.size w w5 from hS5)).mono (Q := Q) fun _ _ h => h.elim)
        | (go_at_call 40; refine (HLY.out _ hS5).mono ?_; rintro e w6 hdd; have hre := hdd.1; subst hre; have hq6 := hq5.trans hdd.2.choose_spec.2.2 (fun _ _ h => h); have HDD := hide hdd; clear hdd))
      all_goals go_wp2
      all_goals go_ret
      all_goals exact HE.out _ _ hS5 HDD.out
    | true =>
      have e1 : syncL k m = (k.laid (half k m.n false) m.at_ m.pend, { m with dur := m.recs.length }, 0) := by
        unfold syncL
        rw [if_neg (fun h => h.elim hd (fun h => by rw [hw] at h; cases h))]
      rw [e1]
      rw [hw] at hly
      have HLY := hide hly
      have HB1 := hide b1
      have HB2 := hide b2
      have HB3 := hide b3
      have HB4 := hide b4
      have HLT := hide hlt
      have HLL := hide hll
      have HLQ := hide hlQ
      have HU : Hid (m.used ≤ 5000) := hide (by have := hi.room; have := hi.ok.2.1; omega)
      have HE := hide (fun (w5 w6 : World) (hs : Since w w5) (hdd : DDid Dsk Q d (k.laid (half k m.n false) m.at_ m.pend) (.bool true) w5 w6 (.returned (.bool true))) =>
        show LDid LogM Dsk P Q l d (k.laid (half k m.n false) m.at_ m.pend) { m with dur := m.recs.length } (.int .i64 0) w (w6.setCell ⟨l, 3, none⟩ (.int .i64 (m.used : Int))) (.returned (.int .i64 0)) from by
          obtain ⟨⟨Q', h1, h2⟩, h3⟩ := DskIn.next ((Touch.of_below (show Below w.heap.size w w5 from hs)).mono (Q := Q) fun _ _ h => h.elim) (fun _ h => .inl h) hdd
          have hz := h3.size
          have nQ : ∀ b, P b → ¬ Q' b := fun b hb hq => (h2 b hq).elim (HPQ.out b hb) fun h => by have := HLT.out b hb; omega
          have hB6 := (HB1.out.touch h3 HLQ.out).store 3 (.int .i64 (m.used : Int))
          refine ⟨rfl, P, Q', ⟨o, ⟨FA, fc, ?_, ?_, HB3.out, HB4.out⟩, fun hc => by rw [hlb.2, ho]⟩, dsk_keep h1 fun b hb _ => Below.heap_setCell _ ⟨l, 3, none⟩ _ b fun h => nQ l ((HB3.out l).2 (.inl rfl)) (by subst h; exact hb), nQ, fun b hb => .inl hb, h2, ?_⟩
          · rw [synced_at]
            exact hB6
          · refine own_keep HB2.out fun b hb => ?_
            have hbp := (HB3.out b).2 (.inr hb)
            exact (Below.heap_setCell _ ⟨l, 3, none⟩ _ b fun h => HB4.out (by subst h; exact hb)).trans (h3.block b (HLT.out b hbp) (HPQ.out b hbp))
          · exact (h3.mono (Q := fun b => P b ∨ Q b) fun _ _ h => .inr h).setCell (fun _ => .inl ((HB3.out l).2 (.inl rfl))) _)
      clear hpq b1 b2 b3 b4 hbit hP hlQ hlt hv hq hi hd hd0 e1 hg ho hcov hpend hus hhb hrow hly hlb hw
      generalize m.used = u at *
      generalize m.at_ = a at *
      have hub := HU.out
      go_enter Try.func16, Try.ntmps16
      go_wp2_with fail
      refine (wreal_yes w l d c0).mono ?_
      rintro e w' ⟨rfl, rfl⟩
      go_wp2_with fail
      go_region_held (fun w' => Touch Q w w') (assumption) (first
        | (go_at_call 39; refine HST.out.mono ?_; rintro e w5 ⟨rfl, hb5⟩; have hS5 := Since.next hs0 hb5; have hq5 := (Touch.of_below (show Below w.heap.size w w5 from hS5)).mono (Q := Q) fun _ _ h => h.elim)
        | (go_at_call 40; refine (HLY.out _ hS5).mono ?_; rintro e w6 hdd; have hre := hdd.1; subst hre; have hq6 := hq5.trans hdd.2.choose_spec.2.2 (fun _ _ h => h); have HDD := hide hdd; clear hdd))
      all_goals have B6 := HB1.out.touch hq6 HLQ.out
      all_goals have f3 := B6.frozen 3
      all_goals have v3 := (B6.cell 3).trans rfl
      all_goals have v2 := (B6.cell 2).trans rfl
      all_goals have HEN := hide (HE.out _ _ hS5 HDD.out)
      all_goals clear B6 z1 z2 z3 hq5 HDD HE hS5 hb5
      all_goals go_wp2
      all_goals go_ret
      all_goals exact HEN.out
end
end Go.Proofs.Ythoedknnchaiaaa

/-
  The program's contracts of layer 12: Swap, New; Sync and Swap upon a disk, however much was written to it.
-/
namespace Go.Proofs.Ythoedknnchaiaaa
open Go.RowKit
set_option linter.unusedVariables false

theorem turn_ends {k : Dk} {n : Nat} {f : List Int} (hk : k.ok (2 * n + 1)) (hd : k.dead = false) (hf : f.length ≤ 32 * n) (hfo : Octs f) :
    ((turnL k n f).2 = true → bitOf (turnL k n f).1 = !bitOf k ∧ (turnL k n f).1.dead = false) ∧ ((turnL k n f).2 = false → (turnL k n f).1.dead = true) ∧ (turnL k n f).1.ok (2 * n + 1) := by
  have hz0 : (0 + (zs (32 * n)).length) ≤ 32 * n := by rw [zs_len]; omega
  have hk1 : (k.laid (half k n true) 0 (zs (32 * n))).ok (2 * n + 1) := laid_ok hk (zs_octs _) (by have := half_lt hk true; rw [zs_len]; omega)
  have hbit1 := first_laid hk true hz0
  have hhalf1 := half_laid hk true true hz0
  have hk2 : ((k.laid (half k n true) 0 (zs (32 * n))).laid (half k n true) 0 f).ok (2 * n + 1) := laid_ok hk1 hfo (by have := half_lt hk true; have := hk1.1; have := hk.1; omega)
  have hbit2 := first_laid hk1 true (a := 0) (x := f) (by omega)
  rw [hhalf1, hbit1.1, hbit1.2] at hbit2
  unfold turnL
  by_cases h1 : k.laidOk 0 (zs (32 * n)) = false
  · rw [if_pos h1]
    exact ⟨fun h => (by cases h), fun _ => laid_dead h1, hk1⟩
  · rw [if_neg h1]
    have h1' : k.laidOk 0 (zs (32 * n)) = true := by simpa using h1
    have al1 := laid_alive (p := half k n true) h1' hd
    by_cases h2 : (k.laid (half k n true) 0 (zs (32 * n))).laidOk 0 f = false
    · rw [if_pos h2]
      exact ⟨fun h => (by cases h), fun _ => laid_dead h2, hk2⟩
    · rw [if_neg h2]
      have h2' : (k.laid (half k n true) 0 (zs (32 * n))).laidOk 0 f = true := by simpa using h2
      have al2 := laid_alive (p := half k n true) h2' al1
      generalize (k.laid (half k n true) 0 (zs (32 * n))).laid (half k n true) 0 f = d2 at *
      have hfll := flip_len hk (by omega)
      have hfo2 := flip_octs hk (by omega)
      have hmay : d2.may 0 (flip k.b) := ⟨⟨by omega, by have := hk2.1; omega, al2⟩, hfll⟩
      have wb : (d2.write 0 (flip k.b)).b = lay d2.b 0 ((flip k.b).take d2.front) := by unfold Dk.write; rw [if_pos hmay]; rfl
      have wd : (d2.write 0 (flip k.b)).dead = d2.dies := by unfold Dk.write; rw [if_pos hmay]
      have wo : d2.wrote 0 (flip k.b) = !d2.dies := by unfold Dk.wrote; rw [decide_eq_true hmay]; rfl
      refine ⟨fun h => ?_, fun h => ?_, Dk.ok_write hk2 0 hfo2⟩
      · simp only at h
        rw [wo] at h
        have hdd : d2.dies = false := by simpa using h
        refine ⟨?_, by rw [wd, hdd]⟩
        have hf32 : d2.front = 32 := by unfold Dk.front; rw [if_neg (by rw [hdd]; decide)]
        show bitOf (d2.write 0 (flip k.b)) = !bitOf k
        have hl2 := hk2.1
        unfold bitOf
        rw [← flip_bit, wb, hf32, List.getD_eq_getElem?_getD, lay_get (by rw [List.length_take]; omega), if_pos (by rw [List.length_take]; omega), List.getElem?_take, if_pos (by omega), Nat.sub_zero, ← List.getD_eq_getElem?_getD]
      · simp only at h
        rw [wo] at h
        rw [wd]
        simpa using h

section
variable {P Q R : Nat → Prop} {l d : Nat} {k : Dk} {m : Lm}
theorem one_used {x : List Int} {n : Nat} : (⟨n, [x], 1⟩ : Lm).used = x.length + 7 ∧ (⟨n, [x], 1⟩ : Lm).at_ = x.length + 7 ∧ allF (⟨n, [x], 1⟩ : Lm).recs = frameOf x := by
  refine ⟨?_, ?_, allF_one x⟩
  · show (allF [x]).length = _
    rw [allF_one, frameOf_len]
  · show (allF ([x].take 1)).length = _
    rw [show [x].take 1 = [x] from rfl, allF_one, frameOf_len]
set_option maxHeartbeats 1000000 in
theorem wswap0_any (A : Option Addr) (n c : Nat) (x : List Int) (w : World) (h : LogM w P l d k m) (hq : Dsk w Q d k) (hpq : ∀ b, P b → ¬ Q b) (hi : Inv k m) (hx : Row w R A n c (octs x)) (ho : Octs x) :
    Calls Try.prog 25 #[.pointer (some ⟨l, 0, none⟩), .slice A n c] w fun e w' => LDid LogM Dsk P Q l d (swapL k m x).1 (swapL k m x).2.1 (.int .i64 (swapL k m x).2.2) w w' e := by
  have HM := hide h
  have HPQ := hide hpq
  have hlt := log_lt h
  obtain ⟨o, ⟨FA, fc, b1, b2, b3, b4⟩, hbit⟩ := h
  have hP : P l := (b3 l).2 (.inl rfl)
  have hlQ : ¬ Q l := hpq l hP
  have hll := hlt l hP
  have c0 : w.cell? ⟨l, 0, none⟩ = some (.pointer (some ⟨d, 0, none⟩)) := (b1.cell 0).trans rfl
  have hv : HvAt w l d o := ⟨c0, (b1.cell 1).trans rfl⟩
  have hn := hi.ok.2.1
  have HSZ := hide (wsize_any w hv hq hi.ok)
  have HFT := hide (wfit_any R A n c x ((32 * m.n : Nat) : Int) w hx ho)
  have HST0 := hide (fun (v : Value) (w' : World) (hin : DskIn Q w d k w') => LDid.still (v := v) HM.out HPQ.out hin fun h => ⟨h, rfl⟩)
  have HQ0 := hide hq
  have HD0 := hide (DskIn.start hq)
  by_cases g0 : x.length = 0 ∨ 4096 < x.length ∨ 32 * m.n < x.length + 7
  · -- the errors of fit
    have hE : ∃ code : Int, (code ≠ 0 ∧ swapL k m x = (k, m, code)) ∧ ∀ (w' : World) (e : Ending), WFit w x ((32 * m.n : Nat) : Int) w' e → e = .returned (.tuple #[.slice none 0 0, .int .i64 code]) ∧ Below w.heap.size w w' := by
      by_cases h1 : x.length = 0
      · exact ⟨4, ⟨by decide, by unfold swapL; rw [if_pos h1]⟩, fun w' e h => ⟨h.1 h1, h.2.2.2.2⟩⟩
      · by_cases h2 : 4096 < x.length
        · exact ⟨5, ⟨by decide, by unfold swapL; rw [if_neg h1, if_pos h2]⟩, fun w' e h => ⟨h.2.1 h2, h.2.2.2.2⟩⟩
        · have h3 : 32 * m.n < x.length + 7 := by omega
          exact ⟨10, ⟨by decide, by unfold swapL; rw [if_neg h1, if_neg h2, if_pos h3]⟩, fun w' e h => ⟨h.2.2.1 (by omega) (by omega) (by omega), h.2.2.2.2⟩⟩
    obtain ⟨code, ⟨hc0, e1⟩, hE⟩ := hE
    rw [e1]
    have HE := hide hE
    have hcb : (code != 0) = true := by simpa using hc0
    have hcb2 : (code == 0) = false := by simpa using hc0
    clear hx ho hi hq hpq b1 b2 b3 b4 hbit hn hlt e1 hP hlQ hll hv hE hc0 g0
    generalize ((32 * m.n : Nat) : Int) = S at *
    go_enter Try.func25, Try.ntmps25
    go_wp2_with fail
    refine (wreal_yes w l d c0).mono ?_
    rintro e w' ⟨rfl, rfl⟩
    go_wp2_with fail
    refine HSZ.out.mono ?_
    rintro e w' ⟨rfl, rfl⟩
    go_wp2_with fail
    refine HFT.out.mono ?_
    intro e w2 hf
    obtain ⟨rfl, hb2⟩ := HE.out _ _ hf
    have HB := hide hb2
    clear hf hb2
    go_wp2
    go_ret
    exact HST0.out _ _ (HD0.out.below HB.out)
  · have x1 : 1 ≤ x.length := by omega
    have x2 : x.length ≤ 4096 := by omega
    have x3 : x.length + 7 ≤ 32 * m.n := by omega
    have hE : ∀ (w' : World) (e : Ending), WFit w x ((32 * m.n : Nat) : Int) w' e → ∃ A' c', e = .returned (.tuple #[.slice A' (x.length + 7) c', .int .i64 0]) ∧ w'.ownsRow w.heap.size 5 1 (.slice A' (x.length + 7) c') (x.length + 7) (octs (frameOf x)) ∧ Below w.heap.size w w' := fun w' e h => by
      obtain ⟨A', c', h1, h2⟩ := h.2.2.2.1 x1 x2 (by omega)
      exact ⟨A', c', h1, h2, h.2.2.2.2⟩
    have HE := hide hE
    by_cases hd : k.dead = true
    · have e1 : swapL k m x = (k, m, 19) := by unfold swapL; rw [if_neg (by omega), if_neg (by omega), if_neg (by omega), if_pos hd]
      rw [e1]
      have HST := hide (fun (w' : World) (hb : Below w.heap.size w w') => wsteady_no w' ((HD0.out.below hb).hv hv hlQ) (dsk_keep hq fun b _ hlt => hb.block b hlt) hi.ok hd)
      clear hx ho hi hq hpq b1 b2 b3 b4 hbit hn hlt e1 hP hlQ hll hv hE g0 x1 x2 x3 hd
      generalize ((32 * m.n : Nat) : Int) = S at *
      generalize x.length + 7 = xn at *
      go_enter Try.func25, Try.ntmps25
      go_wp2_with fail
      refine (wreal_yes w l d c0).mono ?_
      rintro e w' ⟨rfl, rfl⟩
      go_wp2_with fail
      refine HSZ.out.mono ?_
      rintro e w' ⟨rfl, rfl⟩
      go_wp2_with fail
      refine HFT.out.mono ?_
      intro e w2 hf
      obtain ⟨A', c', rfl, -, hb2⟩ := HE.out _ _ hf
      have HB := hide hb2
      clear hf hb2
      go_wp2_with fail
      refine (HST.out w2 HB.out).mono ?_
      rintro e w3 ⟨rfl, hb3⟩
      have HB3 := hide (HB.out.trans (hb3.mono HB.out.size))
      clear hb3 HB
      go_wp2
      go_ret
      exact HST0.out _ _ (HD0.out.below HB3.out)
    · have hd0 : k.dead = false := by simpa using hd
      have ho2 := hbit hd0
      have hfl := frameOf_len x
      have hfo := frameOf_octs ho
      obtain ⟨t1, t2, t3⟩ := turn_ends hi.ok hd0 (f := frameOf x) (by omega) hfo
      rw [swap_turn x1 x2 x3 hd0]
      have HST := hide (fun (w' : World) (hb : Below w.heap.size w w') => wsteady_yes w' ((HD0.out.below hb).hv hv hlQ) (dsk_keep hq fun b _ hlt => hb.block b hlt) hi.ok hd0 ho2)
      have hql := dsk_lt hq
      have HTU := hide (fun (w1 w' : World) (A' : Option Addr) (c' : Nat) (hb : Below w.heap.size w w') (hr : Row w' (fun b => w.heap.size ≤ b) A' (x.length + 7) c' (octs (frameOf x))) =>
        wturn_any (n := m.n) A' (x.length + 7) c' (frameOf x) w' (b1.below hb hll) rfl rfl (dsk_keep hq fun b _ hlt => hb.block b hlt) hi.ok hd0 ho2 hlQ hr hfo (fun b hb' _ h => by have := hql b h; omega) x3)
      have HB1 := hide b1
      have HB3 := hide b3
      have HLT := hide hlt
      have HLL := hide hll
      have HLQ := hide hlQ
      have hub : x.length + 7 ≤ 5000 := by omega
      have HXN := hide (show (⟨m.n, [x], 1⟩ : Lm).used = x.length + 7 ∧ (⟨m.n, [x], 1⟩ : Lm).at_ = x.length + 7 ∧ allF (⟨m.n, [x], 1⟩ : Lm).recs = frameOf x from one_used)
      have HDI := hide (show ∀ (w3 w5 : World) (k3 : Dk), Below w.heap.size w w3 → DskIn Q w3 d k3 w5 → DskIn Q w d k3 w5 from fun w3 w5 k3 hb h => by
        obtain ⟨⟨Q', h1, h2⟩, h3⟩ := h
        have hz := hb.size
        exact ⟨⟨Q', h1, fun b hb' => (h2 b hb').imp id fun h => by omega⟩, ((Touch.of_below hb).mono (Q := Q) fun _ _ h => h.elim).trans h3 fun _ _ h => h⟩)
      clear hx ho hi hq hpq b1 b2 b3 b4 hbit hn hlt hP hlQ hll hv hE g0 x1 x2 x3 hd hql hfl hfo t3
      generalize turnL k m.n (frameOf x) = kb at *
      obtain ⟨k3, tb⟩ := kb
      simp only at t1 t2 ⊢
      cases tb with
      | false =>
        have HT2 := hide (t2 rfl)
        clear t1 t2
        rw [if_neg (by decide)]
        generalize ((32 * m.n : Nat) : Int) = S at *
        generalize x.length + 7 = xn at *
        go_enter Try.func25, Try.ntmps25
        go_wp2_with fail
        refine (wreal_yes w l d c0).mono ?_
        rintro e w' ⟨rfl, rfl⟩
        go_wp2_with fail
        refine HSZ.out.mono ?_
        rintro e w' ⟨rfl, rfl⟩
        go_wp2_with fail
        refine HFT.out.mono ?_
        intro e w2 hf
        obtain ⟨A', c', rfl, hown, hb2⟩ := HE.out _ _ hf
        have HB := hide hb2
        have HR := hide (Row.of_own hown)
        clear hf hb2 hown
        go_wp2_with fail
        refine (HST.out w2 HB.out).mono ?_
        rintro e w3 ⟨rfl, hb3⟩
        have HB3' := hide (HB.out.trans (hb3.mono HB.out.size))
        have HR3 := hide (HR.out.below hb3 fun _ _ h => h)
        clear hb3 HB HR
        go_wp2_with fail
        refine (HTU.out w w3 A' c' HB3'.out HR3.out).mono ?_
        rintro e w4 ⟨rfl, w5, hin, rfl⟩
        have HIN := hide (HDI.out _ _ _ HB3'.out hin)
        clear hin
        go_wp2
        go_ret
        exact LDid.still HM.out HPQ.out HIN.out fun h => by rw [HT2.out] at h; cases h
      | true =>
        have HT1 := hide (t1 rfl)
        clear t1 t2
        rw [if_pos rfl]
        have HFIN := hide (show ∀ (w2 w5 : World) (A' : Option Addr) (c' : Nat), Below w.heap.size w w2 → w2.ownsRow w.heap.size 5 1 (.slice A' (x.length + 7) c') (x.length + 7) (octs (frameOf x)) → DskIn Q w2 d k3 w5 →
            LDid LogM Dsk P Q l d k3 ⟨m.n, [x], 1⟩ (.int .i64 0) w (((w5.setCell ⟨l, 1, none⟩ (.int .i64 (hi_ (!o)))).setCell ⟨l, 2, none⟩ (.slice A' (x.length + 7) c')).setCell ⟨l, 3, none⟩ (.int .i64 ((x.length + 7 : Nat) : Int))) (.returned (.int .i64 0)) from
          fun w2 w5 A' c' hb hown hin => by
            obtain ⟨⟨Q', h1, h2⟩, h3⟩ := hin
            have hz2 := hb.size
            have hz := h3.size
            have hl2 : l < w2.heap.size := Nat.lt_of_lt_of_le HLL.out hz2
            have hB5 := ((((HB1.out.below hb HLL.out).touch h3 HLQ.out).store 1 (.int .i64 (hi_ (!o)))).store 2 (.slice A' (x.length + 7) c')).store 3 (.int .i64 ((x.length + 7 : Nat) : Int))
            have hob : ∀ b, (Value.slice A' (x.length + 7) c').ownBlock = some b → w.heap.size ≤ b ∧ b < w2.heap.size := fun b hb' => ⟨own_block hown b hb', own_lt8 hown b hb'⟩
            have nQ2 : ∀ b, Q b → b < w.heap.size := dsk_lt (show Dsk w Q d k from HQ0.out)
            have nlo : ∀ b, (Value.slice A' (x.length + 7) c').ownBlock = some b → b ≠ l := fun b hb' e => by have := (hob b hb').1; have := HLL.out; omega
            have kk : ∀ b, b ≠ l → ((((w5.setCell ⟨l, 1, none⟩ (.int .i64 (hi_ (!o)))).setCell ⟨l, 2, none⟩ (.slice A' (x.length + 7) c')).setCell ⟨l, 3, none⟩ (.int .i64 ((x.length + 7 : Nat) : Int)))).heap[b]? = w5.heap[b]? := fun b hb =>
              (Below.heap_setCell _ ⟨l, 3, none⟩ _ b hb).trans ((Below.heap_setCell _ ⟨l, 2, none⟩ _ b hb).trans (Below.heap_setCell _ ⟨l, 1, none⟩ _ b hb))
            have nQ' : ¬ Q' l := fun h => (h2 l h).elim HLQ.out fun h => by omega
            refine ⟨rfl, fun b => b = l ∨ (Value.slice A' (x.length + 7) c').ownBlock = some b, Q', ⟨!o, ⟨A', c', ?_, ?_, ?_, ?_⟩, fun _ => by rw [HT1.out.1, ho2]⟩, dsk_keep h1 fun b hb _ => kk b fun e => nQ' (by subst e; exact hb), ?_, ?_, ?_, ?_⟩
            · rw [HXN.out.1, HXN.out.2.1]
              exact hB5
            · rw [HXN.out.1, HXN.out.2.2]
              refine own_keep (own_mono hown (Nat.zero_le _)) fun b hb' => (kk b (nlo b hb')).trans (h3.block b (hob b hb').2 fun hq => by have := nQ2 b hq; have := (hob b hb').1; omega)
            · rw [HXN.out.1]
              exact fun b => Iff.rfl
            · rw [HXN.out.1]
              exact fun e => nlo l e rfl
            · rintro b (rfl | hb') hq
              · exact nQ' hq
              · rcases h2 b hq with h | h
                · have := nQ2 b h; have := (hob b hb').1; omega
                · have := (hob b hb').2; omega
            · rintro b (rfl | hb')
              · exact .inl ((HB3.out b).2 (.inl rfl))
              · exact .inr (hob b hb').1
            · exact fun b hb' => (h2 b hb').imp id fun h => by omega
            · have hPl : P l := (HB3.out l).2 (.inl rfl)
              exact ((((((Touch.of_below hb).mono (Q := fun b => P b ∨ Q b) fun _ _ h => h.elim).trans (h3.mono (Q := fun b => P b ∨ Q b) fun _ _ h => .inr h) fun _ _ h => h).setCell (fun _ => .inl hPl) _).setCell (fun _ => .inl hPl) _).setCell (fun _ => .inl hPl) _))
        generalize ((32 * m.n : Nat) : Int) = S at *
        generalize x.length + 7 = xn at *
        go_enter Try.func25, Try.ntmps25
        go_wp2_with fail
        refine (wreal_yes w l d c0).mono ?_
        rintro e w' ⟨rfl, rfl⟩
        go_wp2_with fail
        refine HSZ.out.mono ?_
        rintro e w' ⟨rfl, rfl⟩
        go_wp2_with fail
        refine HFT.out.mono ?_
        intro e w2 hf
        obtain ⟨A', c', rfl, hown, hb2⟩ := HE.out _ _ hf
        have HB := hide hb2
        have HO := hide hown
        have HR := hide (Row.of_own hown)
        clear hf hb2 hown
        go_wp2_with fail
        refine (HST.out w2 HB.out).mono ?_
        rintro e w3 ⟨rfl, hb3⟩
        have HB3' := hide (HB.out.trans (hb3.mono HB.out.size))
        have HR3 := hide (HR.out.below hb3 fun _ _ h => h)
        have HO3 := hide (own_below HO.out hb3)
        clear hb3 HB HR HO
        go_wp2_with fail
        refine (HTU.out w w3 A' c' HB3'.out HR3.out).mono ?_
        rintro e w4 ⟨rfl, w5, hin, rfl⟩
        have HEN := hide (HFIN.out w3 w5 A' c' HB3'.out HO3.out hin)
        have B4 := ((HB1.out.below HB3'.out HLL.out).touch hin.2 HLQ.out).store 1 (.int .i64 (hi_ (!o)))
        have f2 := B4.frozen 2
        have f3 := B4.frozen 3
        have v2 : (w5.setCell ⟨l, 1, none⟩ (.int .i64 (hi_ (!o)))).cell? ⟨l, 2, none⟩ = some (.slice FA m.used fc) := (B4.cell 2).trans rfl
        have v3 : (w5.setCell ⟨l, 1, none⟩ (.int .i64 (hi_ (!o)))).cell? ⟨l, 3, none⟩ = some (.int .i64 (m.at_ : Int)) := (B4.cell 3).trans rfl
        clear hin B4 HFIN HO3 HR3 HB3' HTU HST HSZ HFT ho2 HT1
        simp only [if_true]
        go_wp2
        go_ret
        exact HEN.out
theorem wsync_any (w : World) (h : LogM w P l d k m) (hq : DskL w Q d k) (hpq : ∀ b, P b → ¬ Q b) (hi : Inv k m) :
    Calls Try.prog 16 #[.pointer (some ⟨l, 0, none⟩)] w fun e w' => LDid LogM DskL P Q l d (syncL k m).1 (syncL k m).2.1 (.int .i64 (syncL k m).2.2) w w' e := by
  obtain ⟨k0, e1, e2, h3⟩ := hq
  have hi0 := hi.like e1.symm (like_ok e1 e2 hi.ok)
  have e := e1.sync m
  rw [← e.2]
  exact (wsync0_any w (h.like e1.symm) h3 hpq hi0).mono fun e' w' hh => hh.ll e.1 hi0.sync.ok
theorem wswap_any (A : Option Addr) (n c : Nat) (x : List Int) (w : World) (h : LogM w P l d k m) (hq : DskL w Q d k) (hpq : ∀ b, P b → ¬ Q b) (hi : Inv k m) (hx : Row w R A n c (octs x)) (ho : Octs x) :
    Calls Try.prog 25 #[.pointer (some ⟨l, 0, none⟩), .slice A n c] w fun e w' => LDid LogM DskL P Q l d (swapL k m x).1 (swapL k m x).2.1 (.int .i64 (swapL k m x).2.2) w w' e := by
  obtain ⟨k0, e1, e2, h3⟩ := hq
  have hi0 := hi.like e1.symm (like_ok e1 e2 hi.ok)
  have e := e1.swap m x
  rw [← e.2]
  exact (wswap0_any A n c x w (h.like e1.symm) h3 hpq hi0 hx ho).mono fun e' w' hh => hh.ll e.1 (hi0.swap ho).ok
end
/-- A new log. -/
theorem wnew_any (n : Int) (w : World) (hn : I64' n) : Calls Try.prog 9 #[.int .i64 n] w fun e w' => LNew LogM DskL (near n 1 64).toNat w w' e := by
  have hnn := near_in (n := n) (lo := 1) (hi := 64) (by omega)
  obtain ⟨N, hN⟩ := Int.eq_ofNat_of_zero_le (show 0 ≤ near n 1 64 by omega)
  have hN1 : 1 ≤ N ∧ N ≤ 64 := by omega
  have hCL := clampd_any n 1 64 w
  rw [hN] at hCL ⊢
  have HCL := hide hCL
  have hDN := dlnew_any (2 * (N : Int) + 1) w (by unfold I64'; omega)
  rw [show (near (2 * (N : Int) + 1) 0 256).toNat = 2 * N + 1 by unfold near; rw [if_neg (by omega), if_neg (by omega)]; omega] at hDN
  have HDN := hide hDN
  have HGN := hide (good_new N hN1.1 (by omega))
  have HFIN := hide (show ∀ (w1 : World) (d : Nat) (Q : Nat → Prop), DskL w1 Q d (Dk.fresh (2 * N + 1)) → (∀ b, Q b → w.heap.size ≤ b) → Below w.heap.size w w1 →
      LNew LogM DskL ((N : Int)).toNat w (w1.alloc (.cells #[.pointer (some ⟨d, 0, none⟩), .int .i64 0, .slice none 0 0, .int .i64 0] 57)) (.returned (.pointer (some ⟨w1.heap.size, 0, none⟩))) from
    fun w1 d Q hd hq hb => by
      have hz := hb.size
      have hql := dskl_lt hd
      rw [Int.toNat_natCast]
      have hbit : bitOf (Dk.fresh (2 * N + 1)) = false := by
        unfold bitOf Dk.fresh
        rw [List.getD_eq_getElem?_getD, List.getElem?_replicate]
        split <;> rfl
      refine ⟨w1.heap.size, d, fun b => b = w1.heap.size, Q, rfl, ⟨false, ⟨none, 0, Blk.new w1 _ _, own_none _ _ _, ?_, ?_⟩, fun _ => hbit.symm⟩, dskl_keep hd fun b _ hb => Below.heap_alloc w1 _ b hb, fun b hb hq => ?_, fun b hb => by omega, hq, hb.alloc hz _⟩
      · intro b
        exact ⟨fun h => .inl h, fun h => h.elim id fun h => by cases h⟩
      · intro h; cases h
      · have := hql b hq; omega)
  clear hCL hDN hN hnn
  go_enter Try.func9, Try.ntmps9
  go_wp2_with fail
  refine HCL.out.mono ?_
  rintro e w' ⟨rfl, rfl⟩
  go_wp2_with fail
  refine HDN.out.mono ?_
  rintro e w1 ⟨d, Q, rfl, hd, hq, hb⟩
  have HEN := hide (HFIN.out w1 d Q hd hq hb)
  clear hd hq hb HFIN
  go_wp2
  go_ret
  exact HEN.out
end Go.Proofs.Ythoedknnchaiaaa

/-
  The library's ContainsFunc over octets, at 'is not 0'.
-/
namespace Go.Proofs.Ythoedknnchaiaaa
open Go.RowKit
set_option linter.unusedVariables false

theorem wsome_any (y : Int) (w : World) : Calls Try.prog 68 #[.int .u8 y] w fun e w' => e = .returned (.bool (!decide (y = 0))) ∧ w = w' := by
  by_cases h : y = 0
  · subst h
    go_enter Try.func68, Try.ntmps68
    go_wp2
    go_ret
    exact ⟨rfl, rfl⟩
  · have hb : (y != 0) = true := by simpa using h
    have hb2 : (y == 0) = false := by simpa using h
    rw [decide_eq_false h]
    go_enter Try.func68, Try.ntmps68
    go_wp2
    go_ret
    exact ⟨by simp, rfl⟩
/-- Where something is not 0. -/
def nzAt (l : List Int) (v : Int) : Prop := (0 ≤ v ∧ v ≤ 100000 ∧ ∃ x ∈ l, x ≠ 0) ∨ (v = -1 ∧ ∀ x ∈ l, x = 0)
theorem windex_any {P : Nat → Prop} (A : Option Addr) (n c : Nat) (l : List Int) (w : World) (h : Row w P A n c (octs l)) (hn : n ≤ 100000) :
    Calls Try.prog 79 #[.slice A n c, .func (.func 68) #[] #[]] w fun e w' => ∃ v, e = .returned (.int .i64 v) ∧ nzAt l v ∧ w = w' := by
  have hl : l.length = n := by have := h.1; rwa [octs_len] at this
  have H := hide h
  have HL := hide hl
  clear h hl
  go_enter Try.func79, Try.ntmps79
  go_wp2_with fail
  go_loopw [8] (fun s8 wr => ∃ j : Nat, j ≤ n ∧ s8 = .int .i64 (j : Int) ∧ Hid (∀ i, i < j → l.getD i 0 = 0) ∧ wr = w) (fun s8 _ => n - (intOf s8).toNat)
  case atStart => exact ⟨0, Nat.zero_le _, rfl, fun i hi => by omega, rfl⟩
  case round =>
    obtain ⟨j, hj, rfl, hz, rfl⟩ := hrel
    by_cases hlt : j < n
    · obtain ⟨b, o, rfl, -, -, hc⟩ := H.out.some_ (by omega)
      have hcj := (hc j hlt).trans (octs_at l j (by rw [HL.out]; exact hlt))
      obtain ⟨y, hy⟩ : ∃ y, l.getD j 0 = y := ⟨_, rfl⟩
      rw [hy] at hcj
      have HY := hide hy
      clear hc hy
      by_cases h0 : y = 0
      · subst h0
        have HS := hide (wsome_any 0 wr)
        go_wp2_with fail
        refine HS.out.mono ?_
        rintro e w' ⟨rfl, rfl⟩
        clear HS
        go_wp2
        go_roundw
        case rel => exact ⟨j + 1, by omega, by go_num, fun i hi => by
          rcases Nat.lt_or_ge i j with h | h
          · exact hz.out i h
          · obtain rfl : i = j := by omega
            exact HY.out, trivial⟩
        case measure => simp [intOf]; omega
      · have hs := wsome_any y wr
        rw [decide_eq_false h0] at hs
        have HS := hide hs
        have hyl : y ∈ l := by
          rw [← HY.out, List.getD_eq_getElem?_getD, List.getElem?_eq_getElem (by rw [HL.out]; exact hlt)]
          exact List.getElem_mem _
        have HN := hide (show nzAt l (j : Int) from .inl ⟨by omega, by omega, y, hyl, h0⟩)
        clear hs h0 hyl
        go_wp2_with fail
        refine HS.out.mono ?_
        rintro e w' ⟨rfl, rfl⟩
        clear HS
        go_wp2
        go_ret
        exact ⟨_, rfl, HN.out, rfl⟩
    · obtain rfl : j = n := by omega
      have HN := hide (show nzAt l (-1) from .inr ⟨rfl, fun x hx => by
        obtain ⟨i, hi, rfl⟩ := List.getElem_of_mem hx
        have := hz.out i (by rw [← HL.out]; exact hi)
        rwa [List.getD_eq_getElem?_getD, List.getElem?_eq_getElem hi] at this⟩)
      go_wp2
      go_ret
      exact ⟨_, rfl, HN.out, rfl⟩
theorem wcontains_any {P : Nat → Prop} (A : Option Addr) (n c : Nat) (l : List Int) (w : World) (h : Row w P A n c (octs l)) (hn : n ≤ 100000) :
    Calls Try.prog 67 #[.slice A n c, .func (.func 68) #[] #[]] w fun e w' => ((e = .returned (.bool true) ∧ ∃ x ∈ l, x ≠ 0) ∨ (e = .returned (.bool false) ∧ ∀ x ∈ l, x = 0)) ∧ w = w' := by
  have HI := hide (windex_any A n c l w h hn)
  clear h
  go_enter Try.func67, Try.ntmps67
  go_wp2_with fail
  refine HI.out.mono ?_
  rintro e w' ⟨v, rfl, hv, rfl⟩
  rcases hv with ⟨h0, h1, h2⟩ | ⟨rfl, h2⟩
  · have H2 := hide h2
    clear h2
    go_wp2
    go_ret
    exact ⟨.inl ⟨rfl, H2.out⟩, rfl⟩
  · have H2 := hide h2
    clear h2
    go_wp2
    go_ret
    exact ⟨.inr ⟨rfl, H2.out⟩, rfl⟩
end Go.Proofs.Ythoedknnchaiaaa

/-
  The program's halves: what a half holds; whether a disk may have a log.
-/
namespace Go.Proofs.Ythoedknnchaiaaa
open Go.RowKit
set_option linter.unusedVariables false

section
variable {Q : Nat → Prop} {g d n : Nat} {u : Bool} {k : Dk}
theorem read_in {k : Dk} {n j : Nat} (o : Bool) (hk : k.ok (2 * n + 1)) (ha : k.dead = false) (hj : j < n) : k.read ((plc o n j : Nat) : Int) = (k.b.drop (32 * bas o n + 32 * j)).take 32 ∧ decide (k.has ((plc o n j : Nat) : Int)) = true ∧ ((k.b.drop (32 * bas o n + 32 * j)).take 32).length = 32 ∧ I64' ((plc o n j : Nat) : Int) := by
  have hl := hk.1
  have hm := hk.2.1
  have hp : plc o n j = bas o n + j := rfl
  have hb : bas o n ≤ 1 + n := by unfold bas; split <;> omega
  have hh : k.has ((plc o n j : Nat) : Int) := ⟨by omega, by omega, ha⟩
  refine ⟨?_, decide_eq_true hh, by rw [List.length_take, List.length_drop]; omega, by unfold I64'; omega⟩
  unfold Dk.read
  rw [if_pos hh, hp, Int.toNat_natCast, Nat.mul_add]
theorem half_le (o : Bool) (hk : k.ok (2 * n + 1)) : 32 ≤ 32 * bas o n ∧ 32 * bas o n + 32 * n ≤ k.b.length := by
  have := hk.1
  unfold bas
  split <;> omega

set_option maxHeartbeats 1000000 in
theorem woctets_any (w : World) (hv : HvAt w g d u) (hd : Dsk w Q d k) (hk : k.ok (2 * n + 1)) (ha : k.dead = false) (hn : 1 ≤ n) :
    Calls Try.prog 46 #[.pointer (some ⟨g, 0, none⟩)] w fun e w' => ∃ A c, e = .returned (.slice A (32 * n) c) ∧ w'.ownsRow w.heap.size 5 1 (.slice A (32 * n) c) (32 * n) (octs ((k.b.drop (32 * bas u n)).take (32 * n))) ∧ Below w.heap.size w w' := by
  obtain ⟨i5, hi5, hz0, hz1, hz2⟩ := info_parts info5
  have hm := hk.2.1
  have hgl : g < w.heap.size := World.block_lt_of_cell? w _ hv.1
  have HV := hide hv
  have HD := hide hd
  have HK := hide hk
  have hsec := wsectors_any w hv hd hk
  have HS := hide hsec
  have hnn : n ≤ 127 := by omega
  clear hv hd hk hsec hm
  go_enter Try.func46, Try.ntmps46
  go_wp2_with fail
  refine HS.out.mono ?_
  rintro e w' ⟨rfl, rfl⟩
  clear HS
  go_wp2
  go_loopw [3, 9] (fun v i wr => ∃ (j : Nat), j ≤ n ∧ i = .int .i64 (j : Int) ∧ Hid (∃ A' c', v = .slice A' (32 * j) c') ∧ Hid (wr.ownsRow w.heap.size 5 1 v (32 * j) (octs ((k.b.drop (32 * bas u n)).take (32 * j)))) ∧ Hid (Below w.heap.size w wr)) (fun _ i _ => n - (intOf i).toNat)
  case atStart => exact ⟨0, Nat.zero_le _, rfl, hide ⟨none, 0, rfl⟩, hide (own_none _ _ _), hide (Below.refl _ _)⟩
  case round =>
    obtain ⟨j, hj, rfl, hvv, how, hbl⟩ := hrel
    obtain ⟨A', c', rfl⟩ := hvv.out
    by_cases hlt : j < n
    · obtain ⟨r1, r2, r3, r4⟩ := read_in u HK.out ha hlt
      have hS0 : Since w wr := hbl.out
      have hv2 : HvAt wr g d u := HV.out.keep (hbl.out.block g hgl)
      have hd2 : Dsk wr Q d k := dsk_keep HD.out fun b _ hb => hbl.out.block b hb
      have z0 : ∀ w', Since wr w' → w'.cell? ⟨g, 0, none⟩ = some (.pointer (some ⟨d, 0, none⟩)) := fun w' hs => (hv2.keep ((show Below wr.heap.size wr w' from hs).block g (Nat.lt_of_lt_of_le hgl hbl.out.size))).1
      have z1 : ∀ w', Since wr w' → w'.cell? ⟨g, 1, none⟩ = some (.int .i64 (hi_ u)) := fun w' hs => (hv2.keep ((show Below wr.heap.size wr w' from hs).block g (Nat.lt_of_lt_of_le hgl hbl.out.size))).2
      have hpl := wplace_any (o := u) j wr.drew (HvAt.keep hv2 rfl) (dsk_keep hd2 fun _ _ _ => rfl) HK.out (by omega)
      have hrd := dread_any ((plc u n j : Nat) : Int) wr.drew (dsk_keep hd2 fun _ _ _ => rfl) HK.out r4
      rw [r1, r2] at hrd
      have hk1 : octs ((k.b.drop (32 * bas u n)).take (32 * j)) ++ octs ((k.b.drop (32 * bas u n + 32 * j)).take 32) = octs ((k.b.drop (32 * bas u n)).take (32 * (j + 1))) := by
        rw [octs_append, show 32 * (j + 1) = 32 * j + 32 by omega, List.take_add, List.drop_drop]
      have HK1 := hide hk1
      generalize hx : (k.b.drop (32 * bas u n + 32 * j)).take 32 = x at *
      generalize plc u n j = pl at *
      have HPL := hide hpl
      have HRD := hide hrd
      have HR3 := hide r3
      have HJ := hide (show 32 * j + 32 = 32 * (j + 1) by omega)
      have hr0 := (Since.refl wr).drew
      clear r1 r2 r3 r4 hv2 hd2 hpl hrd hk1 hvv hx hS0
      go_wp2_with fail
      go_region_held (fun w' => Since wr w') (assumption) (first
        | (go_at_call 62; refine HPL.out.mono ?_; rintro e w5 ⟨rfl, rfl⟩)
        | (go_at_call 59; refine HRD.out.mono ?_; rintro e w5 ⟨A5, c5, rfl, hown, hb5⟩; have hS5 := Since.next hr0 hb5))
      rw [HR3.out] at hown ⊢
      have HROW := hide (Row.of_own hown)
      have HOW := hide (own_below how.out (show Below wr.heap.size wr w5 from hS5))
      have HB5 := hide (hbl.out.trans (Below.mono (show Below wr.heap.size wr w5 from hS5) hbl.out.size))
      clear hown hS5 hb5 z0 z1 how hbl HPL HRD hr0
      go_wp2_with (at_builtin; refine wpList_append_row _ rfl _ _ 32 rfl w.heap.size 5 i5 (.int .u8 0) 1 Try.underlying32 hi5 hz0 hz1 hz2 rfl _ (32 * j) _ rfl HOW.out _ A5 32 c5 (octs x) rfl HROW.out (octs_one _) ?h1 ?h2 ?h3 ?_)
      case h1 => unfold maxLen; omega
      case h2 => omega
      case h3 => exact HB5.out.size
      intro v' w6 hown' hgrow hat
      rw [HJ.out, HK1.out] at hown'
      have HO6 := hide hown'
      have HF6 := hide (own_form hown')
      have HB6 := hide (HB5.out.grown hgrow HB5.out.size (own_block HOW.out))
      clear hown' hgrow hat HOW HB5 HROW
      go_wp2
      go_roundw
      case rel => exact ⟨j + 1, by omega, by go_num, HF6, HO6, HB6⟩
      case measure => simp [intOf]; omega
    · obtain rfl : j = n := by omega
      go_wp2
      go_ret
      exact ⟨A', c', rfl, how.out, hbl.out⟩

theorem wlen_nil (w : World) : Calls Try.prog 65 #[.pointer none] w fun e w' => e = .returned (.int .i64 0) ∧ w = w' := by
  go_enter Try.func65, Try.ntmps65
  go_wp2_with fail
  refine (real_nil w).mono ?_
  rintro e w' ⟨rfl, rfl⟩
  go_wp2
  go_ret
  exact ⟨rfl, rfl⟩
/-- No disk, or one that may have no log. -/
theorem wfind_nil (w : World) : Calls Try.prog 45 #[.pointer none] w fun e w' => e = .returned (.tuple #[.agg #[.pointer none, .int .i64 0], .bool false]) ∧ Below w.heap.size w w' := by
  have HL := hide (fun (W : World) => wlen_nil W)
  have HB := hide ((Below.refl w.heap.size w).alloc (Nat.le_refl _) (.cells #[.pointer none, .int .i64 0] 55))
  go_enter Try.func45, Try.ntmps45
  go_wp2_with fail
  refine (HL.out _).mono ?_
  rintro e w1 ⟨rfl, rfl⟩
  go_wp2
  go_returns
  exact ⟨rfl, HB.out⟩
theorem wfind_no {m : Nat} (w : World) (hd : Dsk w Q d k) (hk : k.ok m) (hno : k.dead = true ∨ m < 3 ∨ m % 2 = 0) : Calls Try.prog 45 #[.pointer (some ⟨d, 0, none⟩)] w fun e w' => e = .returned (.tuple #[.agg #[.pointer none, .int .i64 0], .bool false]) ∧ Below w.heap.size w w' := by
  have hbl := (Below.refl w.heap.size w).alloc (Nat.le_refl _) (.cells #[.pointer none, .int .i64 0] 55)
  have hd1 : Dsk (w.alloc (.cells #[.pointer none, .int .i64 0] 55)) Q d k := dsk_keep hd fun b _ hb => hbl.block b hb
  have HL := hide (wlen_any _ hd1 hk)
  have HB := hide hbl
  have hm := hk.2.1
  by_cases h3 : m < 3
  · have h3' : (m : Int) < 3 := by omega
    clear hbl hd1 hno hd hk hm
    go_enter Try.func45, Try.ntmps45
    go_wp2_with fail
    refine HL.out.mono ?_
    rintro e w1 ⟨rfl, rfl⟩
    go_wp2
    go_returns
    exact ⟨rfl, HB.out⟩
  by_cases h2 : m % 2 = 0
  · have h3' : ¬ ((m : Int) < 3) := by omega
    obtain ⟨M, hM⟩ : ∃ M : Int, (m : Int) = M := ⟨_, rfl⟩
    have ht : M.tmod 2 = 0 := by rw [Int.tmod_eq_emod_of_nonneg (by omega)]; omega
    rw [hM] at HL h3'
    clear hbl hd1 hno hd hk hm hM h2
    go_enter Try.func45, Try.ntmps45
    go_wp2_with fail
    refine HL.out.mono ?_
    rintro e w1 ⟨rfl, rfl⟩
    go_wp2_with fail
    refine HL.out.mono ?_
    rintro e w1 ⟨rfl, rfl⟩
    go_wp2
    go_returns
    exact ⟨rfl, HB.out⟩
  · have h3' : ¬ ((m : Int) < 3) := by omega
    obtain ⟨M, hM⟩ : ∃ M : Int, (m : Int) = M := ⟨_, rfl⟩
    have ht : M.tmod 2 = 1 := by rw [Int.tmod_eq_emod_of_nonneg (by omega)]; omega
    rw [hM] at HL h3'
    have ha : k.dead = true := hno.resolve_right (by omega)
    have hh : ¬ k.has 0 := fun h => by have := h.2.2; rw [ha] at this; cases this
    have hRD := dread_any 0 _ hd1 hk (by unfold I64'; omega)
    rw [decide_eq_false hh, show k.read 0 = [] from if_neg hh] at hRD
    have HRD := hide hRD
    clear hbl hd1 hno hd hk hm hM h2 hh ha hRD
    go_enter Try.func45, Try.ntmps45
    go_wp2_with fail
    refine HL.out.mono ?_
    rintro e w1 ⟨rfl, rfl⟩
    go_wp2_with fail
    refine HL.out.mono ?_
    rintro e w1 ⟨rfl, rfl⟩
    go_wp2_with fail
    refine HRD.out.mono ?_
    rintro e w2 ⟨A2, c2, rfl, -, hb2⟩
    have hB2 : Blk w2 w.heap.size 55 #[.pointer none, .int .i64 0] := (Blk.new w 55 #[.pointer none, .int .i64 0]).below hb2 (Blk.new w 55 #[.pointer none, .int .i64 0]).lt
    have q0 : w2.cell? ⟨w.heap.size, 0, none⟩ = some (.pointer none) := (hB2.cell 0).trans rfl
    have q1 : w2.cell? ⟨w.heap.size, 1, none⟩ = some (.int .i64 0) := (hB2.cell 1).trans rfl
    have f0 := hB2.frozen 0
    have f1 := hB2.frozen 1
    have HB2 := hide (((HB.out.trans (hb2.mono HB.out.size)).setCell (p := ⟨w.heap.size, 0, none⟩) (Nat.le_refl _) (.pointer none)).setCell (p := ⟨w.heap.size, 1, none⟩) (Nat.le_refl _) (.int .i64 0))
    have hb3 := (hB2.store 0 (.pointer none)).store 1 (.int .i64 0)
    have r0 := (hb3.cell 0).trans rfl
    have r1 := (hb3.cell 1).trans rfl
    clear hb2 hB2 hb3 HRD HL
    go_wp2
    refine bodyPost_ret (v := .tuple #[.agg #[.pointer none, .int .i64 0], .bool false]) (by simp [results, Try.results45, go_sem, r0, r1]) rfl ?_
    exact ⟨rfl, HB2.out⟩
theorem wfind_yes (w : World) (hd : Dsk w Q d k) (hk : k.ok (2 * n + 1)) (ha : k.dead = false) (hn : 1 ≤ n) : Calls Try.prog 45 #[.pointer (some ⟨d, 0, none⟩)] w fun e w' => e = .returned (.tuple #[.agg #[.pointer (some ⟨d, 0, none⟩), .int .i64 (hi_ (bitOf k))], .bool true]) ∧ Below w.heap.size w w' := by
  have hbl := (Below.refl w.heap.size w).alloc (Nat.le_refl _) (.cells #[.pointer none, .int .i64 0] 55)
  have hd1 : Dsk (w.alloc (.cells #[.pointer none, .int .i64 0] 55)) Q d k := dsk_keep hd fun b _ hb => hbl.block b hb
  have HL := hide (wlen_any _ hd1 hk)
  have HB := hide hbl
  have hm := hk.2.1
  have hl := hk.1
  obtain ⟨M, hM⟩ : ∃ M : Int, ((2 * n + 1 : Nat) : Int) = M := ⟨_, rfl⟩
  have ht : M.tmod 2 = 1 := by rw [Int.tmod_eq_emod_of_nonneg (by omega)]; omega
  have h3 : ¬ (M < 3) := by omega
  rw [hM] at HL
  obtain ⟨r1, r2, r3⟩ := read0 hk ha
  have hRD := dread_any 0 _ hd1 hk (by unfold I64'; omega)
  rw [r1, r2] at hRD
  have HRD := hide hRD
  have HTO := hide (hk.2.2.1.take 32)
  have HU := hide (show decide ((k.b.take 32).getD 0 0 % 2 = 1) = bitOf k by
    rw [List.getD_eq_getElem?_getD, List.getElem?_take, if_pos (by omega), ← List.getD_eq_getElem?_getD]
    rfl)
  generalize hT : k.b.take 32 = T at *
  generalize bitOf k = u at *
  have HR3 := hide r3
  clear hbl hd1 hd hk hm hM ha hRD r1 r2 r3 hT hl
  go_enter Try.func45, Try.ntmps45
  go_wp2_with fail
  refine HL.out.mono ?_
  rintro e w1 ⟨rfl, rfl⟩
  go_wp2_with fail
  refine HL.out.mono ?_
  rintro e w1 ⟨rfl, rfl⟩
  go_wp2_with fail
  refine HRD.out.mono ?_
  rintro e w2 ⟨A2, c2, rfl, hown, hb2⟩
  rw [HR3.out] at hown ⊢
  have hto := wtold_any A2 32 c2 T w2 (Row.of_own hown) HTO.out (by omega)
  rw [HU.out] at hto
  have HTD := hide hto
  have hB2 : Blk w2 w.heap.size 55 #[.pointer none, .int .i64 0] := (Blk.new w 55 #[.pointer none, .int .i64 0]).below hb2 (Blk.new w 55 #[.pointer none, .int .i64 0]).lt
  have q0 : w2.cell? ⟨w.heap.size, 0, none⟩ = some (.pointer none) := (hB2.cell 0).trans rfl
  have q1 : w2.cell? ⟨w.heap.size, 1, none⟩ = some (.int .i64 0) := (hB2.cell 1).trans rfl
  have f0 := hB2.frozen 0
  have f1 := hB2.frozen 1
  have HB2 := hide (((HB.out.trans (hb2.mono HB.out.size)).setCell (p := ⟨w.heap.size, 0, none⟩) (Nat.le_refl _) (.pointer (some ⟨d, 0, none⟩))).setCell (p := ⟨w.heap.size, 1, none⟩) (Nat.le_refl _) (.int .i64 (hi_ u)))
  have hb3 := (hB2.store 0 (.pointer (some ⟨d, 0, none⟩))).store 1 (.int .i64 (hi_ u))
  have r0 := (hb3.cell 0).trans rfl
  have r1 := (hb3.cell 1).trans rfl
  clear hb2 hB2 hb3 HRD HL hown hto
  go_wp2_with fail
  refine HTD.out.mono ?_
  rintro e w' ⟨rfl, rfl⟩
  go_wp2
  refine bodyPost_ret (v := .tuple #[.agg #[.pointer (some ⟨d, 0, none⟩), .int .i64 (hi_ u)], .bool true]) (by simp [results, Try.results45, go_sem, r0, r1]) rfl ?_
  exact ⟨rfl, HB2.out⟩
end
end Go.Proofs.Ythoedknnchaiaaa

/-
  The program's halves: what is not 0 behind the frames is made 0.
-/
namespace Go.Proofs.Ythoedknnchaiaaa
open Go.RowKit
set_option linter.unusedVariables false

/-- Octets of which those of a half that begins at p, from at_ on up to the sector j, are 0. -/
def Cl (b : List Int) (p at_ j : Nat) : List Int := lay b (p + at_) (zs (32 * j - at_))
theorem Cl_len {b : List Int} {p at_ j n : Nat} (hl : p + 32 * n ≤ b.length) (hj : j ≤ n) (ha : at_ ≤ 32 * n) : (Cl b p at_ j).length = b.length := lay_len (by rw [zs_len]; omega)
theorem Cl_get {b : List Int} {p at_ j n : Nat} (hl : p + 32 * n ≤ b.length) (hj : j ≤ n) (ha : at_ ≤ 32 * n) (i : Nat) : (Cl b p at_ j)[i]? = if p + at_ ≤ i ∧ i < p + 32 * j then some 0 else b[i]? := by
  unfold Cl
  rw [lay_get (by rw [zs_len]; omega), zs_len]
  by_cases h : p + at_ ≤ i ∧ i < p + 32 * j
  · rw [if_pos h, if_pos (by omega)]
    unfold zs
    rw [List.getElem?_replicate, if_pos (by omega)]
  · rw [if_neg h, if_neg (by omega)]
theorem clean_step {b : List Int} {p at_ j n : Nat} (hl : p + 32 * n ≤ b.length) (hj : j < n) (hq : at_ / 32 ≤ j) :
    lay (Cl b p at_ j) (p + 32 * j) ((((Cl b p at_ j).drop (p + 32 * j)).take 32).take (at_ - 32 * j) ++ zs (32 - (at_ - 32 * j))) = Cl b p at_ (j + 1) := by
  have ha : at_ ≤ 32 * n := by omega
  have hcl := Cl_len hl (by omega : j ≤ n) ha
  have hsl : ((((Cl b p at_ j).drop (p + 32 * j)).take 32).take (at_ - 32 * j)).length = at_ - 32 * j := by rw [List.length_take, List.length_take, List.length_drop, hcl]; omega
  have hxl : ((((Cl b p at_ j).drop (p + 32 * j)).take 32).take (at_ - 32 * j) ++ zs (32 - (at_ - 32 * j))).length = 32 := by rw [List.length_append, hsl, zs_len]; omega
  apply List.ext_getElem?
  intro i
  have g1 := Cl_get (j := j) hl (by omega) ha i
  have g2 := Cl_get (j := j + 1) hl (by omega) ha i
  rw [lay_get (by rw [hxl, hcl]; omega), g2, g1, hxl]
  by_cases h : p + 32 * j ≤ i ∧ i < p + 32 * j + 32
  · rw [if_pos h]
    by_cases h2 : i - (p + 32 * j) < at_ - 32 * j
    · rw [List.getElem?_append_left (by rw [hsl]; exact h2), List.getElem?_take, if_pos h2, List.getElem?_take, if_pos (by omega), List.getElem?_drop, show p + 32 * j + (i - (p + 32 * j)) = i by omega, g1, if_neg (by omega), if_neg (by omega)]
    · rw [List.getElem?_append_right (by rw [hsl]; omega), hsl]
      unfold zs
      rw [List.getElem?_replicate, if_pos (by omega), if_pos (by omega)]
  · rw [if_neg h]
    by_cases h3 : p + at_ ≤ i ∧ i < p + 32 * j
    · rw [if_pos h3, if_pos (by omega)]
    · rw [if_neg h3, if_neg (by omega)]
theorem lay_self {b : List Int} {p m : Nat} (h : p + m ≤ b.length) : lay b p ((b.drop p).take m) = b := by
  have hl : ((b.drop p).take m).length = m := by rw [List.length_take, List.length_drop]; omega
  apply List.ext_getElem?
  intro i
  rw [lay_get (by rw [hl]; exact h), hl]
  by_cases hi : p ≤ i ∧ i < p + m
  · rw [if_pos hi, List.getElem?_take, if_pos (by omega), List.getElem?_drop, show p + (i - p) = i by omega]
  · rw [if_neg hi]
/-- A sector whose rest is 0 stays. -/
theorem clean_skip {b : List Int} {p at_ j n : Nat} (hl : p + 32 * n ≤ b.length) (hj : j < n) (hq : at_ / 32 ≤ j) (hz : ∀ x ∈ (((Cl b p at_ j).drop (p + 32 * j)).take 32).drop (at_ - 32 * j), x = 0) : Cl b p at_ (j + 1) = Cl b p at_ j := by
  have ha : at_ ≤ 32 * n := by omega
  have hcl := Cl_len hl (by omega : j ≤ n) ha
  have hsl : (((Cl b p at_ j).drop (p + 32 * j)).take 32).length = 32 := by rw [List.length_take, List.length_drop, hcl]; omega
  rw [← clean_step hl hj hq]
  have e : (((Cl b p at_ j).drop (p + 32 * j)).take 32).drop (at_ - 32 * j) = zs (32 - (at_ - 32 * j)) := by
    rw [List.eq_replicate_of_mem hz, List.length_drop, hsl]
    rfl
  rw [← e, List.take_append_drop, lay_self (by rw [hcl]; omega)]
theorem Cl_octs {b : List Int} (h : Octs b) (p at_ j : Nat) : Octs (Cl b p at_ j) := lay_octs _ h (zs_octs _)

/-- Where all of a half is 0 from at_ on, so is the rest of a sector. -/
theorem rest_zero {b : List Int} {p at_ j n : Nat} (hl : p + 32 * n ≤ b.length) (hj : j < n) (hall : ∀ x ∈ ((b.drop p).take (32 * n)).drop at_, x = 0) : ∀ x ∈ (((Cl b p at_ j).drop (p + 32 * j)).take 32).drop (at_ - 32 * j), x = 0 := by
  by_cases ha : at_ ≤ 32 * n
  · intro x hx
    obtain ⟨i, hi, rfl⟩ := List.getElem_of_mem hx
    have hcl := Cl_len hl (by omega : j ≤ n) ha
    rw [List.length_drop, List.length_take, List.length_drop, hcl] at hi
    have e1 : ((((Cl b p at_ j).drop (p + 32 * j)).take 32).drop (at_ - 32 * j))[i]? = b[p + 32 * j + (at_ - 32 * j + i)]? := by
      rw [List.getElem?_drop, List.getElem?_take, if_pos (by omega), List.getElem?_drop, Cl_get hl (by omega) ha, if_neg (by omega)]
    rw [List.getElem?_eq_getElem (by rw [List.length_drop, List.length_take, List.length_drop, hcl]; exact hi)] at e1
    have e2 : (((b.drop p).take (32 * n)).drop at_)[32 * j + (at_ - 32 * j + i) - at_]? = b[p + 32 * j + (at_ - 32 * j + i)]? := by
      rw [List.getElem?_drop, List.getElem?_take, if_pos (by omega), List.getElem?_drop]
      congr 1
      omega
    rw [← e2] at e1
    exact hall _ (List.mem_of_getElem? e1.symm)
  · intro x hx
    have : at_ - 32 * j ≥ 32 := by omega
    rw [List.drop_of_length_le (by rw [List.length_take]; omega)] at hx
    cases hx
theorem clean_write {kj : Dk} {m pl : Nat} {y : List Int} (h : kj.ok m) (ha : kj.dead = false) (hf : kj.fuel < 0) (hy : y.length = 32) (hp : pl < m) :
    (kj.write (pl : Int) y).like ⟨lay kj.b (32 * pl) y, kj.fuel, false, 0⟩ ∧ kj.wrote (pl : Int) y = true ∧ I64' (kj.write (pl : Int) y).written := by
  have hl := h.1
  have hmay : kj.may (pl : Int) y := ⟨⟨by omega, by omega, ha⟩, hy⟩
  have hdd : kj.dies = false := decide_eq_false (by omega)
  have hf32 : kj.front = 32 := by unfold Dk.front; rw [if_neg (by rw [hdd]; decide)]
  have hrest : kj.rest = kj.fuel := by unfold Dk.rest; rw [if_neg (by rw [hdd]; decide), if_neg (by omega)]
  have e : kj.write (pl : Int) y = ⟨lay kj.b (32 * pl) y, kj.fuel, false, IntKind.i64.wrap (kj.written + (32 : Nat))⟩ := by
    unfold Dk.write
    rw [if_pos hmay, hf32, hrest, hdd, Int.toNat_natCast, List.take_of_length_le (by omega)]
  refine ⟨by rw [e]; exact ⟨rfl, rfl, rfl⟩, ?_, by rw [e]; exact wrap_i64' _⟩
  unfold Dk.wrote
  rw [decide_eq_true hmay, hdd]
  rfl
/-- Octets of which those from r on were cleared. -/
theorem cleared {cur : Array Value} {c r : Nat} {x : List Int} (hs : cur.size = c) (hc : 32 ≤ c) (hx : x.length = 32) (ht : cur.toList.take 32 = octs x) (hr : r < 32) :
    (setRange cur r (List.replicate (32 - r) (.int .u8 0))).toList.take 32 = octs (x.take r ++ zs (32 - r)) := by
  have hxl : (x.take r).length = r := by rw [List.length_take]; omega
  apply List.ext_getElem?
  intro i
  rw [List.getElem?_take]
  by_cases h : i < 32
  · rw [if_pos h, Array.getElem?_toList, setRange_get _ _ _ (by rw [List.length_replicate]; omega), List.length_replicate, ← octs_append]
    by_cases h2 : r ≤ i
    · rw [if_pos (by omega), List.getElem?_append_right (by rw [octs_len, hxl]; exact h2), octs_len, hxl, List.getElem?_replicate, if_pos (by omega)]
      unfold octs zs
      rw [List.map_replicate, List.getElem?_replicate, if_pos (by omega)]
    · rw [if_neg (by omega), List.getElem?_append_left (by rw [octs_len, hxl]; omega), ← octs_take, List.getElem?_take, if_pos (by omega), ← ht, List.getElem?_take, if_pos h, Array.getElem?_toList]
  · rw [if_neg h, List.getElem?_eq_none]
    rw [octs_len, List.length_append, hxl, zs_len]
    omega
theorem zero5 (w : World) : (zeroValue 5).run Try.prog w = .ok (.int .u8 0) w := by kernel_rfl

section
variable {Q : Nat → Prop} {g d n : Nat} {u : Bool} {k : Dk}
set_option maxHeartbeats 4000000 in
set_option maxRecDepth 100000 in
theorem wclean_any (at_ : Nat) (w : World) (hv : HvAt w g d u) (hd : Dsk w Q d k) (hk : k.ok (2 * n + 1)) (ha : k.dead = false) (hg : ¬ Q g) (hat : at_ ≤ 32 * n)
    (hz : k.fuel < 0 ∨ ∀ x ∈ ((k.b.drop (32 * bas u n)).take (32 * n)).drop at_, x = 0) :
    Calls Try.prog 47 #[.pointer (some ⟨g, 0, none⟩), .int .i64 (at_ : Int)] w fun e w' => e = .returned (.bool true) ∧ ∃ k', k'.like ⟨Cl k.b (32 * bas u n) at_ n, k.fuel, false, 0⟩ ∧ I64' k'.written ∧ DskIn Q w d k' w' := by
  have hm := hk.2.1
  have hgl : g < w.heap.size := World.block_lt_of_cell? w _ hv.1
  have hhl := half_le u hk
  obtain ⟨q0, hq0⟩ : ∃ q0, at_ / 32 = q0 := ⟨_, rfl⟩
  have hq0n : q0 ≤ 200 := by omega
  have htd : (at_ : Int).tdiv 32 = (q0 : Int) := by rw [Int.tdiv_eq_ediv_of_nonneg (by omega)]; omega
  have hwq : IntKind.i64.wrap (q0 : Int) = (q0 : Int) := by rw [IntKind.wrap_i64]; omega
  have h00 : Cl k.b (32 * bas u n) at_ q0 = k.b := by
    unfold Cl
    rw [show 32 * q0 - at_ = 0 by omega]
    exact lay_nil _ _
  have HREL := hide (show ∃ kj, Dk.like kj ⟨Cl k.b (32 * bas u n) at_ q0, k.fuel, false, 0⟩ ∧ I64' kj.written ∧ DskIn Q w d kj w from ⟨k, ⟨h00.symm, rfl, ha⟩, hk.2.2.2.2, DskIn.start hd⟩)
  have HV := hide hv
  have HK := hide hk
  have HQ0 := hide hq0
  have HHL := hide hhl
  have HZ := hide hz
  have hatb : at_ ≤ 8200 := by omega
  have hnn : n ≤ 127 := by omega
  clear hv hd hk hq0 h00 hhl hz hm
  go_enter Try.func47, Try.ntmps47
  go_wp2_with fail
  go_loopw [5] (fun s5 wr => ∃ j : Nat, j ≤ n ∧ s5 = .int .i64 (j : Int) ∧ Hid (q0 ≤ j) ∧ Hid (∃ kj, Dk.like kj ⟨Cl k.b (32 * bas u n) at_ j, k.fuel, false, 0⟩ ∧ I64' kj.written ∧ DskIn Q w d kj wr)) (fun s5 _ => n - (intOf s5).toNat)
  case atStart => exact ⟨q0, by have := HQ0.out; omega, rfl, Nat.le_refl _, HREL⟩
  case round =>
    clear HREL
    obtain ⟨j, hj, rfl, hqj, hrel⟩ := hrel
    obtain ⟨kj, hlk, hwk, hin⟩ := hrel.out
    have hokj : kj.ok (2 * n + 1) := like_ok hlk hwk ⟨(Cl_len HHL.out.2 hj hat).trans HK.out.1, HK.out.2.1, Cl_octs HK.out.2.2.1 _ _ _, HK.out.2.2.2.1, (by show -9223372036854775808 ≤ (0 : Int) ∧ (0 : Int) ≤ 9223372036854775807; omega)⟩
    have hv2 : HvAt wr g d u := hin.hv HV.out hg
    have hin' := hin
    obtain ⟨⟨Q', hd2, hq2⟩, ht2⟩ := hin'
    have HS := hide (wsectors_any wr hv2 hd2 hokj)
    have hgr : g < wr.heap.size := Nat.lt_of_lt_of_le hgl ht2.size
    have hgq : ¬ Q' g := fun h => (hq2 g h).elim hg fun h => by omega
    by_cases hlt : j < n
    · have hakj : kj.dead = false := hlk.2.2
      obtain ⟨r1, r2, r3, r4⟩ := read_in u hokj hakj hlt
      have hbj : kj.b = Cl k.b (32 * bas u n) at_ j := hlk.1
      have z0 : ∀ w', Since wr w' → w'.cell? ⟨g, 0, none⟩ = some (.pointer (some ⟨d, 0, none⟩)) := fun w' hs => (hv2.keep ((show Below wr.heap.size wr w' from hs).block g hgr)).1
      have z1 : ∀ w', Since wr w' → w'.cell? ⟨g, 1, none⟩ = some (.int .i64 (hi_ u)) := fun w' hs => (hv2.keep ((show Below wr.heap.size wr w' from hs).block g hgr)).2
      have hpl := wplace_any (o := u) j wr.drew (HvAt.keep hv2 rfl) (dsk_keep hd2 fun _ _ _ => rfl) hokj (by omega)
      have hrd := dread_any ((plc u n j : Nat) : Int) wr.drew (dsk_keep hd2 fun _ _ _ => rfl) hokj r4
      rw [r1, r2] at hrd
      rw [hbj] at hrd r3
      have hsk := clean_skip (b := k.b) (p := 32 * bas u n) (at_ := at_) (j := j) HHL.out.2 hlt (by rw [HQ0.out]; exact hqj.out)
      have hcs := clean_step (b := k.b) (p := 32 * bas u n) (at_ := at_) (j := j) HHL.out.2 hlt (by rw [HQ0.out]; exact hqj.out)
      have hso : Octs (((Cl k.b (32 * bas u n) at_ j).drop (32 * bas u n + 32 * j)).take 32) := ((Cl_octs HK.out.2.2.1 _ _ _).drop _).take _
      generalize hx : ((Cl k.b (32 * bas u n) at_ j).drop (32 * bas u n + 32 * j)).take 32 = x at *
      obtain ⟨r, hr⟩ : ∃ r, at_ - 32 * j = r := ⟨_, rfl⟩
      have hr32 : r < 32 := by have := HQ0.out; have := hqj.out; omega
      rw [hr] at hsk hcs
      obtain ⟨pl, hpl2⟩ : ∃ pl, plc u n j = pl := ⟨_, rfl⟩
      rw [hpl2] at hpl hrd r4
      have HPN := hide (show pl = bas u n + j from hpl2.symm)
      have HPL := hide hpl
      have HRD := hide hrd
      have HR3 := hide r3
      have HR4 := hide r4
      have HSK := hide hsk
      have HCS := hide hcs
      have HSO := hide hso
      have HX := hide hx
      have HLK := hide hlk
      have HWK := hide hwk
      have HIN := hide hin
      have HV2 := hide hv2
      have HD2 := hide hd2
      have HQ2 := hide hq2
      have HGQ := hide hgq
      have HOKJ := hide hokj
      have HT2 := hide ht2
      have HBJ := hide hbj
      have HAKJ := hide hakj
      have hr0 := (Since.refl wr).drew
      have hwm : IntKind.i64.wrap ((j : Int) * 32) = (j : Int) * 32 := by rw [IntKind.wrap_i64]; omega
      have hcase : (0 ≤ (at_ : Int) - (j : Int) * 32 ∧ (r : Int) = (at_ : Int) - (j : Int) * 32) ∨ (¬ (0 ≤ (at_ : Int) - (j : Int) * 32) ∧ r = 0) := by omega
      have HRE := hide hr
      clear r1 r2 r3 r4 hv2 hd2 hpl hpl2 hrd hsk hcs hso hx hlk hwk hin hq2 hgq hokj ht2 hrel hr hbj hakj
      go_wp2_with fail
      refine HS.out.mono ?_
      rintro e w' ⟨rfl, rfl⟩
      clear HS
      go_wp2_with fail
      go_region_held (fun w' => Since wr w') (assumption) (first
        | (go_at_call 62; refine HPL.out.mono ?_; rintro e w5 ⟨rfl, rfl⟩)
        | (go_at_call 59; refine HRD.out.mono ?_; rintro e w5 ⟨A5, c5, rfl, hown, hb5⟩; have hS5 := Since.next hr0 hb5))
      rw [HR3.out] at hown ⊢
      obtain ⟨s, cur, rfl, hbs, hB, hnc, hcc, hcs, hct⟩ := own_blk hown (by omega)
      have hs1 : ∀ W : World, (Instr.slice 32 (.slice (some ⟨s, 0, none⟩) 32 c5) (some (.int .i64 (r : Int))) none none).run Try.prog W = .ok (.slice (some ⟨s, r, none⟩) (32 - r) (c5 - r)) W := fun W => by
        have := back_run W (some ⟨s, 0, none⟩) 32 c5 r (by omega) hnc (by omega)
        rw [Option.map_some, Addr.add_lit, Nat.zero_add] at this
        exact this
      have hrow := (row_blk hB HR3.out hnc hcc hct).tail (k := r) (by omega) (by omega)
      rw [Option.map_some, Addr.add_lit, Nat.zero_add] at hrow
      have HB5 := hide (show Below wr.heap.size wr w5 from hS5)
      have HCUR := hide (And.intro hB (And.intro hcs hct))
      have HBS := hide hbs
      have HC0 := hide (wcontains_any (some ⟨s, r, none⟩) (32 - r) (c5 - r) (x.drop r) w5 hrow (by omega))
      clear hown hB hrow hct hcs hbs hb5 hS5 z0 z1 HPL HRD hr0
      rcases hcase with ⟨hc1, hc2⟩ | ⟨hc1, hc2⟩
      · have htn : ((at_ : Int) - (j : Int) * 32).toNat = r := by omega
        clear hs1 hc2
        have hs1 : True := trivial
        go_wp2_with fail
        refine HC0.out.mono ?_
        rintro e w' ⟨hh, rfl⟩
        clear HC0
        rcases hh with ⟨rfl, hex⟩ | ⟨rfl, hal⟩
        · have hfu : k.fuel < 0 := HZ.out.resolve_right fun hall => by
            obtain ⟨y, hy, hy0⟩ := hex
            have := rest_zero (j := j) HHL.out.2 hlt hall
            rw [HX.out, HRE.out] at this
            exact hy0 (this y hy)
          have hyl : (x.take r ++ zs (32 - r)).length = 32 := by rw [List.length_append, List.length_take, HR3.out, zs_len]; omega
          have hyo : Octs (x.take r ++ zs (32 - r)) := (HSO.out.take _).append (zs_octs _)
          have hpm : pl < 2 * n + 1 := by have := HPN.out; have := HHL.out; have := HK.out.1; omega
          obtain ⟨w1, w2, w3⟩ := clean_write HOKJ.out HAKJ.out (by rw [HLK.out.2.1]; exact hfu) hyl hpm
          have hfin : (kj.write (pl : Int) (x.take r ++ zs (32 - r))).like ⟨Cl k.b (32 * bas u n) at_ (j + 1), k.fuel, false, 0⟩ := by
            refine ⟨w1.1.trans ?_, w1.2.1.trans HLK.out.2.1, w1.2.2⟩
            show lay kj.b (32 * pl) _ = Cl _ _ _ _
            rw [HBJ.out, show 32 * pl = 32 * bas u n + 32 * j by have := HPN.out; omega]
            exact HCS.out
          have hcl : ∀ ty, (Builtin.clear_ #[32] ty #[.slice (some ⟨s, r, none⟩) (32 - r) (c5 - r)]).run Try.prog w5 = .ok (.tuple #[]) (w5.setCells s r (List.replicate (32 - r) (.int .u8 0))) :=
            fun ty => Lib.run_clear_slice w5 32 5 ty (.int .u8 0) Try.underlying32 zero5 rfl rfl s r (32 - r) (c5 - r) (by omega) (fun i hi => by rw [HCUR.out.1.cell, Array.getElem?_eq_getElem (by rw [HCUR.out.2.1]; omega)]; rfl) (fun i hi => HCUR.out.1.frozen _)
          have hb6 := below_cells (List.replicate (32 - r) (.int .u8 0)) r HB5.out HBS.out
          have hrow6 : Row (w5.setCells s r (List.replicate (32 - r) (.int .u8 0))) (· = s) (some ⟨s, 0, none⟩) 32 c5 (octs (x.take r ++ zs (32 - r))) := row_blk (Blk.cells _ _ HCUR.out.1) hyl hnc hcc (cleared HCUR.out.2.1 hnc HR3.out HCUR.out.2.2 hr32)
          obtain ⟨W6, hW6⟩ : ∃ W6, W6 = w5.setCells s r (List.replicate (32 - r) (.int .u8 0)) := ⟨_, rfl⟩
          rw [← hW6] at hcl hb6 hrow6
          have hd6 : Dsk W6 Q' d kj := dsk_keep HD2.out fun b _ hb => hb6.block b hb
          have hv6 : HvAt W6 g d u := HV2.out.keep (hb6.block g hgr)
          have hg6 : g < W6.heap.size := Nat.lt_of_lt_of_le hgr hb6.size
          have z0 : ∀ w', Touch Q' W6 w' → w'.cell? ⟨g, 0, none⟩ = some (.pointer (some ⟨d, 0, none⟩)) := fun w' ht => (hv6.keep (ht.block g hg6 HGQ.out)).1
          have z1 : ∀ w', Touch Q' W6 w' → w'.cell? ⟨g, 1, none⟩ = some (.int .i64 (hi_ u)) := fun w' ht => (hv6.keep (ht.block g hg6 HGQ.out)).2
          have hpl := wplace_any (o := u) j W6.drew (HvAt.keep hv6 rfl) (dsk_keep hd6 fun _ _ _ => rfl) HOKJ.out (by omega)
          rw [show plc u n j = pl from HPN.out.symm] at hpl
          have hql := dsk_lt HD2.out
          have hwr := dwrite_any (pl : Int) (some ⟨s, 0, none⟩) 32 c5 (x.take r ++ zs (32 - r)) W6.drew (dsk_keep hd6 fun _ _ _ => rfl) HOKJ.out HR4.out hrow6.drew hyo (fun b hb _ h => by have := hql b h; have : wr.heap.size ≤ s := HBS.out; subst hb; omega)
          rw [w2] at hwr
          have HPL := hide hpl
          have HWR := hide hwr
          have HCL := hide hcl
          have HT6 := hide (HT2.out.trans ((Touch.of_below hb6).mono (Q := Q) fun _ _ h => h.elim) fun _ _ h => h)
          have HE := hide (fun (w7 : World) (hdd : DDid Dsk Q' d (kj.write (pl : Int) (x.take r ++ zs (32 - r))) (.bool true) W6.drew w7 (.returned (.bool true))) =>
            show ∃ kj, Dk.like kj ⟨Cl k.b (32 * bas u n) at_ (j + 1), k.fuel, false, 0⟩ ∧ I64' kj.written ∧ DskIn Q w d kj w7 from ⟨_, hfin, w3, DskIn.next HT6.out.drew HQ2.out hdd⟩)
          have hr0 := (Touch.refl Q' W6).drew
          clear hex hfu hyl hyo hpm w1 w2 w3 hfin hb6 hrow6 hd6 hv6 hg6 hpl hql hwr hW6 hs1
          go_wp2_with fail
          go_region_held (fun w' => Touch Q' W6 w') (assumption) (first
            | (go_at_call 62; refine HPL.out.mono ?_; rintro e w8 ⟨rfl, rfl⟩)
            | (go_at_call 29; refine HWR.out.mono ?_; rintro e w8 hdd; have hre := hdd.1; subst hre; have hq8 := hr0.trans hdd.2.choose_spec.2.2 (fun _ _ h => h); have HDD := hide hdd; clear hdd))
          all_goals have HREL := hide (HE.out _ HDD.out)
          all_goals have HQ3 := hide (show q0 ≤ j + 1 by have := hqj.out; omega)
          all_goals clear HDD HE z0 z1 hq8 hcl
          all_goals go_wp2
          all_goals go_roundw
          case rel => exact ⟨j + 1, by omega, by go_num, HQ3, HREL⟩
          case measure => simp [intOf]; omega
        · have HREL := hide (show ∃ kj, Dk.like kj ⟨Cl k.b (32 * bas u n) at_ (j + 1), k.fuel, false, 0⟩ ∧ I64' kj.written ∧ DskIn Q w d kj w5 from
            ⟨kj, by rw [HSK.out hal]; exact HLK.out, HWK.out, HIN.out.below HB5.out⟩)
          have HQ3 := hide (show q0 ≤ j + 1 by have := hqj.out; omega)
          clear hal hs1
          go_wp2
          go_roundw
          case rel => exact ⟨j + 1, by omega, by go_num, HQ3, HREL⟩
          case measure => simp [intOf]; omega
      · subst hc2
        go_wp2_with fail
        refine HC0.out.mono ?_
        rintro e w' ⟨hh, rfl⟩
        clear HC0
        rcases hh with ⟨rfl, hex⟩ | ⟨rfl, hal⟩
        · have hfu : k.fuel < 0 := HZ.out.resolve_right fun hall => by
            obtain ⟨y, hy, hy0⟩ := hex
            have := rest_zero (j := j) HHL.out.2 hlt hall
            rw [HX.out, HRE.out] at this
            exact hy0 (this y hy)
          have hyl : (x.take 0 ++ zs (32 - 0)).length = 32 := by rw [List.length_append, List.length_take, HR3.out, zs_len]; omega
          have hyo : Octs (x.take 0 ++ zs (32 - 0)) := (HSO.out.take _).append (zs_octs _)
          have hpm : pl < 2 * n + 1 := by have := HPN.out; have := HHL.out; have := HK.out.1; omega
          obtain ⟨w1, w2, w3⟩ := clean_write HOKJ.out HAKJ.out (by rw [HLK.out.2.1]; exact hfu) hyl hpm
          have hfin : (kj.write (pl : Int) (x.take 0 ++ zs (32 - 0))).like ⟨Cl k.b (32 * bas u n) at_ (j + 1), k.fuel, false, 0⟩ := by
            refine ⟨w1.1.trans ?_, w1.2.1.trans HLK.out.2.1, w1.2.2⟩
            show lay kj.b (32 * pl) _ = Cl _ _ _ _
            rw [HBJ.out, show 32 * pl = 32 * bas u n + 32 * j by have := HPN.out; omega]
            exact HCS.out
          have hcl : ∀ ty, (Builtin.clear_ #[32] ty #[.slice (some ⟨s, 0, none⟩) (32 - 0) (c5 - 0)]).run Try.prog w5 = .ok (.tuple #[]) (w5.setCells s 0 (List.replicate (32 - 0) (.int .u8 0))) :=
            fun ty => Lib.run_clear_slice w5 32 5 ty (.int .u8 0) Try.underlying32 zero5 rfl rfl s 0 (32 - 0) (c5 - 0) (by omega) (fun i hi => by rw [HCUR.out.1.cell, Array.getElem?_eq_getElem (by rw [HCUR.out.2.1]; omega)]; rfl) (fun i hi => HCUR.out.1.frozen _)
          have hb6 := below_cells (List.replicate (32 - 0) (.int .u8 0)) 0 HB5.out HBS.out
          have hrow6 : Row (w5.setCells s 0 (List.replicate (32 - 0) (.int .u8 0))) (· = s) (some ⟨s, 0, none⟩) 32 c5 (octs (x.take 0 ++ zs (32 - 0))) := row_blk (Blk.cells _ _ HCUR.out.1) hyl hnc hcc (cleared HCUR.out.2.1 hnc HR3.out HCUR.out.2.2 hr32)
          obtain ⟨W6, hW6⟩ : ∃ W6, W6 = w5.setCells s 0 (List.replicate (32 - 0) (.int .u8 0)) := ⟨_, rfl⟩
          rw [← hW6] at hcl hb6 hrow6
          have hd6 : Dsk W6 Q' d kj := dsk_keep HD2.out fun b _ hb => hb6.block b hb
          have hv6 : HvAt W6 g d u := HV2.out.keep (hb6.block g hgr)
          have hg6 : g < W6.heap.size := Nat.lt_of_lt_of_le hgr hb6.size
          have z0 : ∀ w', Touch Q' W6 w' → w'.cell? ⟨g, 0, none⟩ = some (.pointer (some ⟨d, 0, none⟩)) := fun w' ht => (hv6.keep (ht.block g hg6 HGQ.out)).1
          have z1 : ∀ w', Touch Q' W6 w' → w'.cell? ⟨g, 1, none⟩ = some (.int .i64 (hi_ u)) := fun w' ht => (hv6.keep (ht.block g hg6 HGQ.out)).2
          have hpl := wplace_any (o := u) j W6.drew (HvAt.keep hv6 rfl) (dsk_keep hd6 fun _ _ _ => rfl) HOKJ.out (by omega)
          rw [show plc u n j = pl from HPN.out.symm] at hpl
          have hql := dsk_lt HD2.out
          have hwr := dwrite_any (pl : Int) (some ⟨s, 0, none⟩) 32 c5 (x.take 0 ++ zs (32 - 0)) W6.drew (dsk_keep hd6 fun _ _ _ => rfl) HOKJ.out HR4.out hrow6.drew hyo (fun b hb _ h => by have := hql b h; have : wr.heap.size ≤ s := HBS.out; subst hb; omega)
          rw [w2] at hwr
          have HPL := hide hpl
          have HWR := hide hwr
          have HCL := hide hcl
          have HT6 := hide (HT2.out.trans ((Touch.of_below hb6).mono (Q := Q) fun _ _ h => h.elim) fun _ _ h => h)
          have HE := hide (fun (w7 : World) (hdd : DDid Dsk Q' d (kj.write (pl : Int) (x.take 0 ++ zs (32 - 0))) (.bool true) W6.drew w7 (.returned (.bool true))) =>
            show ∃ kj, Dk.like kj ⟨Cl k.b (32 * bas u n) at_ (j + 1), k.fuel, false, 0⟩ ∧ I64' kj.written ∧ DskIn Q w d kj w7 from ⟨_, hfin, w3, DskIn.next HT6.out.drew HQ2.out hdd⟩)
          have hr0 := (Touch.refl Q' W6).drew
          clear hex hfu hyl hyo hpm w1 w2 w3 hfin hb6 hrow6 hd6 hv6 hg6 hpl hql hwr hW6 hs1
          simp only [Nat.sub_zero] at hcl
          go_wp2_with fail
          go_region_held (fun w' => Touch Q' W6 w') (assumption) (first
            | (go_at_call 62; refine HPL.out.mono ?_; rintro e w8 ⟨rfl, rfl⟩)
            | (go_at_call 29; refine HWR.out.mono ?_; rintro e w8 hdd; have hre := hdd.1; subst hre; have hq8 := hr0.trans hdd.2.choose_spec.2.2 (fun _ _ h => h); have HDD := hide hdd; clear hdd))
          all_goals have HREL := hide (HE.out _ HDD.out)
          all_goals have HQ3 := hide (show q0 ≤ j + 1 by have := hqj.out; omega)
          all_goals clear HDD HE z0 z1 hq8 hcl
          all_goals go_wp2
          all_goals go_roundw
          case rel => exact ⟨j + 1, by omega, by go_num, HQ3, HREL⟩
          case measure => simp [intOf]; omega
        · have HREL := hide (show ∃ kj, Dk.like kj ⟨Cl k.b (32 * bas u n) at_ (j + 1), k.fuel, false, 0⟩ ∧ I64' kj.written ∧ DskIn Q w d kj w5 from
            ⟨kj, by rw [HSK.out hal]; exact HLK.out, HWK.out, HIN.out.below HB5.out⟩)
          have HQ3 := hide (show q0 ≤ j + 1 by have := hqj.out; omega)
          clear hal hs1
          go_wp2
          go_roundw
          case rel => exact ⟨j + 1, by omega, by go_num, HQ3, HREL⟩
          case measure => simp [intOf]; omega
    · obtain rfl : j = n := by omega
      have HE := hide (show ∃ k', Dk.like k' ⟨Cl k.b (32 * bas u j) at_ j, k.fuel, false, 0⟩ ∧ I64' k'.written ∧ DskIn Q w d k' wr from hrel.out)
      clear hv2 hd2 hokj hlk hwk hin hq2 ht2 hrel hgq
      go_wp2_with fail
      refine HS.out.mono ?_
      rintro e w' ⟨rfl, rfl⟩
      clear HS
      go_wp2
      go_ret
      exact ⟨rfl, HE.out⟩
end
end Go.Proofs.Ythoedknnchaiaaa

/-
  The program's contracts of layer 12: Open; all of them.
-/
namespace Go.Proofs.Ythoedknnchaiaaa
open Go.RowKit
set_option linter.unusedVariables false

theorem own_front {w : World} {base : Nat} {A : Option Addr} {n c m : Nat} {xs : List Int} (h : w.ownsRow base 5 1 (.slice A n c) n (octs xs)) (hn : 1 ≤ n) (hm : m ≤ n) : w.ownsRow base 5 1 (.slice A m c) m (octs (xs.take m)) := by
  obtain ⟨h1, h2⟩ := h
  rcases h2 with ⟨h2, h3⟩ | ⟨g, cap, cur, hv, hb, hg, hn', hc, hs, ht⟩
  · omega
  · injection hv with e1 e2 e3
    subst e1 e3
    rw [octs_len] at h1
    refine ⟨by rw [octs_len, List.length_take]; omega, .inr ⟨g, c, cur, rfl, hb, hg, by omega, hc, hs, ?_⟩⟩
    rw [Nat.mul_one] at ht ⊢
    rw [← octs_take, ← ht, List.take_take, Nat.min_eq_left hm]
theorem Cl_tail {b : List Int} {p a n : Nat} (hl : p + 32 * n ≤ b.length) (ha : a ≤ 32 * n) : Cl b p a n = lay b (p + a) (zs (tail0 (((b.drop p).take (32 * n)).drop a))) := by
  have hr := tail0_rest (((b.drop p).take (32 * n)).drop a)
  have ht := tail0_le (((b.drop p).take (32 * n)).drop a)
  have hlen : (((b.drop p).take (32 * n)).drop a).length = 32 * n - a := by rw [List.length_drop, List.length_take, List.length_drop]; omega
  rw [hlen] at hr ht
  generalize tail0 (((b.drop p).take (32 * n)).drop a) = t at *
  apply List.ext_getElem?
  intro i
  rw [Cl_get hl (Nat.le_refl _) ha, lay_get (by rw [zs_len]; omega), zs_len]
  by_cases h1 : p + a ≤ i ∧ i < p + a + t
  · rw [if_pos (by omega), if_pos h1]
    unfold zs
    rw [List.getElem?_replicate, if_pos (by omega)]
  · rw [if_neg h1]
    by_cases h2 : p + a ≤ i ∧ i < p + 32 * n
    · rw [if_pos h2]
      have e : (((b.drop p).take (32 * n)).drop a).drop t = zs (32 * n - a - t) := hr
      have e2 : ((((b.drop p).take (32 * n)).drop a).drop t)[i - (p + a + t)]? = b[i]? := by
        rw [List.getElem?_drop, List.getElem?_drop, List.getElem?_take, if_pos (by omega), List.getElem?_drop]
        congr 1
        omega
      rw [← e2, e]
      unfold zs
      rw [List.getElem?_replicate, if_pos (by omega)]
    · rw [if_neg h2]
/-- Opened: nothing stops it, or nothing is there to clear. -/
def Quiet (k : Dk) (n : Nat) : Prop := k.fuel < 0 ∨ tail0 ((hf k n false).drop (frames (hf k n false)).2) = 0
theorem open_like {k : Dk} {n : Nat} (hk : k.ok (2 * n + 1)) (hd : k.dead = false) (hq : Quiet k n) :
    (⟨Cl k.b (half k n false) (frames (hf k n false)).2 n, k.fuel, false, 0⟩ : Dk).like (openL k n).1 ∧ (openL k n).1.ok (2 * n + 1) ∧ bitOf (openL k n).1 = bitOf k ∧ (frames (hf k n false)).2 ≤ 32 * n ∧ (k.fuel < 0 ∨ ∀ x ∈ (hf k n false).drop (frames (hf k n false)).2, x = 0) := by
  unfold Quiet at hq
  have hl := half_lt hk false
  have hlen := hf_len hk false
  obtain ⟨s1, s2, s3⟩ := frames_sound _ (hf k n false) (Nat.le_refl _)
  rw [hlen] at s2
  have ht := tail0_le ((hf k n false).drop (frames (hf k n false)).2)
  have hr := tail0_rest ((hf k n false).drop (frames (hf k n false)).2)
  rw [List.length_drop, hlen] at ht
  have hx : (frames (hf k n false)).2 + (zs (tail0 ((hf k n false).drop (frames (hf k n false)).2))).length ≤ 32 * n := by rw [zs_len]; omega
  refine ⟨?_, laid_ok hk (zs_octs _) (by omega), (first_laid hk false hx).2, s2, ?_⟩
  · have hcl := Cl_tail (b := k.b) (p := half k n false) (a := (frames (hf k n false)).2) (n := n) hl.2 s2
    show Dk.like _ (k.laid (half k n false) (frames (hf k n false)).2 (zs (tail0 ((hf k n false).drop (frames (hf k n false)).2))))
    have hcl' : Cl k.b (half k n false) (frames (hf k n false)).2 n = lay k.b (half k n false + (frames (hf k n false)).2) (zs (tail0 ((hf k n false).drop (frames (hf k n false)).2))) := hcl
    rw [hcl']
    generalize tail0 ((hf k n false).drop (frames (hf k n false)).2) = t at *
    by_cases h0 : t = 0
    · subst h0
      have e : k.laid (half k n false) (frames (hf k n false)).2 (zs 0) = k := by unfold Dk.laid; rw [if_pos (.inl rfl)]
      rw [e]
      exact ⟨lay_nil _ _, rfl, hd.symm⟩
    · have hfu : k.fuel < 0 := by
        have hc : ¬ (zs t = [] ∨ k.dead = true) := fun h => by
          rcases h with h | h
          · have := congrArg List.length h; rw [zs_len] at this; exact h0 this
          · rw [hd] at h; cases h
        rcases hq with h | h
        · exact h
        · exact absurd h h0
      unfold Dk.laid
      rw [if_neg (fun h => by
          rcases h with h | h
          · have := congrArg List.length h; rw [zs_len] at this; exact h0 this
          · rw [hd] at h; cases h), if_neg (by rw [show k.down (32 * cnt (frames (hf k n false)).2 (zs t)) = false from decide_eq_false (by omega)]; decide)]
      exact ⟨rfl, by simp only; rw [if_neg (by omega)], rfl⟩
  · rcases hq with h | h
    · exact .inl h
    · right
      rw [h, List.drop_zero] at hr
      rw [hr]
      exact fun x hx => List.eq_of_mem_replicate hx

section
variable {Q : Nat → Prop} {d s : Nat} {k : Dk}
set_option maxHeartbeats 2000000 in
theorem wopen0_any (w : World) (h : Dsk w Q d k) (hk : k.ok (2 * s + 1)) (hs : 1 ≤ s) (hd : k.dead = false) (hu : Quiet k s) : Calls Try.prog 21 #[.pointer (some ⟨d, 0, none⟩)] w fun e w' => LOpen LogM DskL Q d k s w w' e := by
  obtain ⟨l1, l2, l3, l4, l5⟩ := open_like hk hd hu
  have hhf : 32 * bas (bitOf k) s = half k s false := by rw [half_bas]; cases bitOf k <;> rfl
  have hm := hk.2.1
  obtain ⟨s1, s2, s3⟩ := frames_sound _ (hf k s false) (Nat.le_refl _)
  have hfl := frames_len (hf k s false)
  have hlen := hf_len hk false
  have HFD := hide (wfind_yes w h hk hd hs)
  have hql := dsk_lt h
  -- the halves in a variable
  have hoc := fun (W : World) (g : Nat) (hb : Below w.heap.size w W) (hv : HvAt W g d (bitOf k)) => woctets_any W hv (dsk_keep h fun b _ hb' => hb.block b hb') hk hd hs
  rw [hhf] at hoc
  have hho : Octs (hf k s false) := (hk.2.2.1.drop _).take _
  have HAL := hide (fun (W : World) (A : Option Addr) (c : Nat) (hr : Row W (· < W.heap.size) A (32 * s) c (octs (hf k s false))) => fallc_any A (32 * s) c (hf k s false) W hr hho (by omega))
  have hcl := fun (W : World) (g : Nat) (hb : Below w.heap.size w W) (hg : w.heap.size ≤ g) (hv : HvAt W g d (bitOf k)) =>
    wclean_any (n := s) (frames (hf k s false)).2 W hv (dsk_keep h fun b _ hb' => hb.block b hb') hk hd (fun hq => by have := hql g hq; omega) l4 (by rw [hhf]; exact l5)
  rw [hhf] at hcl
  have HOC := hide (show ∀ (W : World) (g : Nat), Below w.heap.size w W → HvAt W g d (bitOf k) → Calls Try.prog 46 #[.pointer (some ⟨g, 0, none⟩)] W fun e w' => ∃ A c, e = .returned (.slice A (32 * s) c) ∧ w'.ownsRow W.heap.size 5 1 (.slice A (32 * s) c) (32 * s) (octs (hf k s false)) ∧ Below W.heap.size W w' from hoc)
  have HCL := hide hcl
  have HQL := hide hql
  have hnb : (frames (hf k s false)).2 ≤ 9000 := by omega
  have HH := hide h
  have HHF := hide hhf
  have HN := hide (And.intro l1 (And.intro l2 (And.intro l3 (And.intro l4 (And.intro s1 hfl)))))
  clear hoc hcl hho l1 l2 l3 l4 l5 hhf hm s1 s2 s3 hfl hlen hql h hk hd hu
  generalize hfr : (frames (hf k s false)).2 = nf at *
  go_enter Try.func21, Try.ntmps21
  go_wp2_with fail
  refine HFD.out.mono ?_
  rintro e w1 ⟨rfl, hb1⟩
  go_wp2_with fail
  have hb2 : Below w.heap.size w (w1.alloc (.cells #[.pointer (some ⟨d, 0, none⟩), .int .i64 (hi_ (bitOf k))] 55)) := hb1.alloc hb1.size _
  have hB2 := Blk.new w1 55 #[.pointer (some ⟨d, 0, none⟩), .int .i64 (hi_ (bitOf k))]
  have hgs : w.heap.size ≤ w1.heap.size := hb1.size
  have hg2 : w1.heap.size < (w1.alloc (.cells #[.pointer (some ⟨d, 0, none⟩), .int .i64 (hi_ (bitOf k))] 55)).heap.size := hB2.lt
  have HOC2 := hide (HOC.out _ _ hb2 ⟨(hB2.cell 0).trans rfl, (hB2.cell 1).trans rfl⟩)
  have HB2 := hide hb2
  have HBK := hide hB2
  clear hb2 hB2 hb1 HOC
  generalize w1.alloc (.cells #[.pointer (some ⟨d, 0, none⟩), .int .i64 (hi_ (bitOf k))] 55) = W2 at *
  generalize w1.heap.size = g at *
  refine HOC2.out.mono ?_
  rintro e w3 ⟨A3, c3, rfl, hown3, hb3⟩
  have HO3 := hide hown3
  have HB3 := hide (HB2.out.trans (hb3.mono HB2.out.size))
  have HK3 := hide (HBK.out.below hb3 hg2)
  have HAL3 := hide (HAL.out w3 A3 c3 ((Row.of_own hown3).inb.mono fun _ h => h.2))
  have hg3 : g < w3.heap.size := Nat.lt_of_lt_of_le hg2 hb3.size
  have HW2 := hide (show w.heap.size ≤ W2.heap.size from HB2.out.size)
  clear hown3 hb3 HOC2 HAL HB2 HBK
  go_wp2_with fail
  refine HAL3.out.mono ?_
  rintro e w4 ⟨A4, c4, rfl, -, -, -, hb4⟩
  rw [hfr]
  have HO4 := hide (own_below HO3.out hb4)
  have HB4 := hide (HB3.out.trans (hb4.mono HB3.out.size))
  have HK4 := hide (HK3.out.below hb4 hg3)
  have hg4 : g < w4.heap.size := Nat.lt_of_lt_of_le hg3 hb4.size
  have HLT4 := hide (show ∀ b, (Value.slice A3 (32 * s) c3).ownBlock = some b → W2.heap.size ≤ b ∧ b < w4.heap.size from fun b hb => ⟨own_block HO3.out b hb, own_lt8 (own_below HO3.out hb4) b hb⟩)
  have HCL4 := hide (HCL.out w4 g HB4.out hgs ⟨(HK4.out.cell 0).trans rfl, (HK4.out.cell 1).trans rfl⟩)
  clear hb4 HAL3 HO3 HB3 HK3 HCL
  go_wp2_with fail
  refine HCL4.out.mono ?_
  rintro e w5 ⟨rfl, k', hlk, hwk, hin⟩
  have hgQ : ¬ Q g := fun h => by have := HQL.out g h; omega
  have hB5 := HK4.out.touch hin.2 hgQ
  have q0 : w5.cell? ⟨g, 0, none⟩ = some (.pointer (some ⟨d, 0, none⟩)) := (hB5.cell 0).trans rfl
  have q1 : w5.cell? ⟨g, 1, none⟩ = some (.int .i64 (hi_ (bitOf k))) := (hB5.cell 1).trans rfl
  have hs1 : ∀ W : World, (Instr.slice 32 (.slice A3 (32 * s) c3) none (some (.int .i64 (nf : Int))) none).run Try.prog W = .ok (.slice A3 nf c3) W := fun W => front_run W A3 (32 * s) c3 nf (by have := (Row.of_own HO4.out).2.1; have := HN.out.2.2.2.1; omega)
  have HFIN := hide (show ∀ q : Nat, LOpen LogM DskL Q d k s w ((w5.drewN q).alloc (.cells #[.pointer (some ⟨d, 0, none⟩), .int .i64 (hi_ (bitOf k)), .slice A3 nf c3, .int .i64 (nf : Int)] 57)) (.returned (.tuple #[.pointer (some ⟨w5.heap.size, 0, none⟩), .bool true])) from fun q => by
    obtain ⟨⟨Q', h1, h2⟩, h3⟩ := hin
    obtain ⟨l1, l2, l3, l4, s1, hfl⟩ := HN.out
    have hz := h3.size
    have hz4 := HB4.out.size
    have hof := own_front HO4.out (by omega) l4
    rw [s1] at hof
    have hnQ : ∀ b, (Value.slice A3 nf c3).ownBlock = some b → ¬ Q' b ∧ w.heap.size ≤ b ∧ b < w4.heap.size := fun b hb => by
      have := HLT4.out b (by cases A3 <;> exact hb)
      have h4 := HW2.out
      refine ⟨fun hq => ?_, by omega, this.2⟩
      rcases h2 b hq with h | h
      · have := HQL.out b h; omega
      · omega
    have hlk2 : k'.like (openL k s).1 := hlk.trans l1
    have hql5 := dsk_lt h1
    have em : (openL k s).2.1 = ⟨s, (frames (hf k s false)).1, (frames (hf k s false)).1.length⟩ := rfl
    have eu : (⟨s, (frames (hf k s false)).1, (frames (hf k s false)).1.length⟩ : Lm).used = nf := hfl.symm
    have ea : (⟨s, (frames (hf k s false)).1, (frames (hf k s false)).1.length⟩ : Lm).at_ = nf := by
      show (allF ((frames (hf k s false)).1.take (frames (hf k s false)).1.length)).length = nf
      rw [List.take_length]
      exact hfl.symm
    refine ⟨w5.heap.size, fun b => b = w5.heap.size ∨ (Value.slice A3 nf c3).ownBlock = some b, Q', rfl, ?_, ⟨k', hlk2, hwk, dsk_keep h1 fun b _ hb => Below.heap_alloc (w5.drewN q) _ b hb⟩, ?_, ?_, fun b hb => (h2 b hb).imp id fun h => by omega, ?_⟩
    · rw [em]
      refine ⟨bitOf k, ⟨A3, c3, ?_, ?_, ?_, ?_⟩, fun _ => l3.symm⟩
      · rw [eu, ea]
        exact Blk.new (w5.drewN q) _ _
      · rw [eu]
        refine own_keep (own_mono hof (Nat.zero_le _)) fun b hb => ?_
        exact (Below.heap_alloc (w5.drewN q) _ b (Nat.lt_of_lt_of_le (hnQ b hb).2.2 hz)).trans (h3.block b (hnQ b hb).2.2 fun hq => by have := HQL.out b hq; have := (hnQ b hb).2.1; omega)
      · rw [eu]
        exact fun b => Iff.rfl
      · rw [eu]
        intro hb
        have := (hnQ _ hb).2.2
        omega
    · rintro b (rfl | hb) hq
      · exact Nat.lt_irrefl _ (hql5 _ hq)
      · exact (hnQ b hb).1 hq
    · rintro b (rfl | hb)
      · omega
      · exact (hnQ b hb).2.1
    · exact ((((Touch.of_below HB4.out).mono (Q := Q) fun _ _ h => h.elim).trans h3 fun _ _ h => h).drewN q).alloc _)
  clear hin hlk hwk hB5 HCL4 HO4 HLT4 HK4
  go_wp2_with fail
  go_region
  go_wp2
  go_ret2
  exact HFIN.out 1
theorem wopen_any (w : World) (h : DskL w Q d k) (hk : k.ok (2 * s + 1)) (hs : 1 ≤ s) (hd : k.dead = false) (hu : Quiet k s) : Calls Try.prog 21 #[.pointer (some ⟨d, 0, none⟩)] w fun e w' => LOpen LogM DskL Q d k s w w' e := by
  obtain ⟨k0, e1, e2, h3⟩ := h
  have e := e1.open_ s
  have hu0 : Quiet k0 s := by
    unfold Quiet at *
    rw [e1.2.1, e1.hf]
    exact hu
  refine (wopen0_any w h3 (like_ok e1 e2 hk) hs (e1.2.2.trans hd) hu0).mono ?_
  rintro e' w' ⟨l, P, Q', h1, h2, ⟨k1, f1, f2, h4⟩, h5⟩
  exact ⟨l, P, Q', h1, by rw [← e.2]; exact h2.like e.1, ⟨k1, f1.trans e.1, f2, h4⟩, h5⟩
theorem wopen_no {m : Nat} (w : World) (h : DskL w Q d k) (hk : k.ok m) (hno : k.dead = true ∨ m < 3 ∨ m % 2 = 0) : Calls Try.prog 21 #[.pointer (some ⟨d, 0, none⟩)] w fun e w' => e = .returned (.tuple #[.pointer none, .bool false]) ∧ Below w.heap.size w w' := by
  obtain ⟨k0, e1, e2, h3⟩ := h
  have HF := hide (wfind_no w h3 (like_ok e1 e2 hk) (by rw [e1.2.2]; exact hno))
  clear hno h3 e1 e2 hk
  go_enter Try.func21, Try.ntmps21
  go_wp2_with fail
  refine HF.out.mono ?_
  rintro e w1 ⟨rfl, hb⟩
  have HB := hide (hb.alloc hb.size (.cells #[.pointer none, .int .i64 0] 55))
  clear hb
  go_wp2
  go_ret2
  exact ⟨rfl, HB.out⟩
theorem wopen_nil (w : World) : Calls Try.prog 21 #[.pointer none] w fun e w' => e = .returned (.tuple #[.pointer none, .bool false]) ∧ Below w.heap.size w w' := by
  have HF := hide (wfind_nil w)
  go_enter Try.func21, Try.ntmps21
  go_wp2_with fail
  refine HF.out.mono ?_
  rintro e w1 ⟨rfl, hb⟩
  have HB := hide (hb.alloc hb.size (.cells #[.pointer none, .int .i64 0] 55))
  clear hb
  go_wp2
  go_ret2
  exact ⟨rfl, HB.out⟩
end
end Go.Proofs.Ythoedknnchaiaaa
