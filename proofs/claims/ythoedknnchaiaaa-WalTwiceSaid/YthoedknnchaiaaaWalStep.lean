/-
  A script of a log's calls; few.
-/
import Derived.Test.YthoedknnchaiaaaWide
import Derived.Test.YthoedknnchaiaaaDiskM
import Derived.BigQuiet
import Derived.Lib.SliceRun
import Derived.Test.YthoedknnchaiaaaOctC
import Derived.Test.YthoedknnchaiaaaWalAgain
import Derived.Test.YthoedknnchaiaaaNear
namespace Go.Proofs.Ythoedknnchaiaaa
open Go.RowKit
set_option linter.unusedVariables false

structure WOp where
  kind : Int
  n : Int
  A : Option Addr
  m : Nat
  c : Nat
  b : List Int
def WOp.cells (o : WOp) : List Value := [.int .i64 o.kind, .int .i64 o.n, .slice o.A o.m o.c]
def WOp.val (o : WOp) : Value := .agg #[.int .i64 o.kind, .int .i64 o.n, .slice o.A o.m o.c]
def WOp.arr (o : WOp) : Array Value := #[.int .i64 o.kind, .int .i64 o.n, .slice o.A o.m o.c]
/-- The call's octets lie in blocks of Q, and its numbers are numbers. -/
def WOp.at (w : World) (Q : Nat → Prop) (o : WOp) : Prop := Row w Q o.A o.m o.c (octs o.b) ∧ Octs o.b ∧ I64' o.kind ∧ I64' o.n ∧ o.c ≤ 140737488351232
def wops (l : List WOp) : List Value := l.flatMap WOp.cells
def WOps (w : World) (Q : Nat → Prop) (A : Option Addr) (n c : Nat) (l : List WOp) : Prop := RowK w Q 3 A n c (wops l) ∧ ∀ o ∈ l, o.at w Q
theorem WOps.len {w : World} {Q : Nat → Prop} {A : Option Addr} {n c : Nat} {l : List WOp} (h : WOps w Q A n c l) : l.length = n := by
  have := h.1.1
  rw [wops, flat_len _ 3 (fun _ => rfl)] at this
  omega
theorem WOps.keep {w w' : World} {Q : Nat → Prop} {A : Option Addr} {n c : Nat} {l : List WOp} (h : WOps w Q A n c l) (hk : ∀ b, Q b → b < w.heap.size → w'.heap[b]? = w.heap[b]?) : WOps w' Q A n c l :=
  ⟨h.1.keep (by decide) hk, fun o ho => ⟨(h.2 o ho).1.keep hk, (h.2 o ho).2⟩⟩

theorem front_run12 (w : World) (A : Option Addr) (n c k : Nat) (hk : k ≤ c) :
    (Instr.slice 22 (.slice A n c) none (some (.int .i64 (k : Int))) none).run Try.prog w = .ok (.slice A k c) w := by
  have h := run_slice_h (P := Try.prog) (w := w) 22 A n c (by kernel_rfl) .i64 (k : Int) (by omega) (by omega)
  rw [h]
  have hs : (sizeOf (Try.prog.elem 22)).run Try.prog w = .ok 3 w := by kernel_rfl
  rw [hs]
  cases A <;> simp [Result.andThen, sliced, Addr.add_zero']
theorem few12_any (A : Option Addr) (n c : Nat) (w : World) (hc : n ≤ c) (hcb : c ≤ 9223372036854775807) : Calls Try.prog 12 #[.slice A n c] w fun e w' => e = .returned (.slice A (min n 40) c) ∧ w = w' := by
  rcases Nat.lt_or_ge 40 n with h | h
  · have hs1 : ∀ W, (Instr.slice 22 (.slice A n c) none (some (.int .i64 40)) none).run Try.prog W = .ok (.slice A 40 c) W := fun W => front_run12 W A n c 40 (by omega)
    have e : min n 40 = 40 := by omega
    have h' : (40 : Int) < (n : Int) := by omega
    have E := hide e
    clear e
    go_enter Try.func12, Try.ntmps12
    go_wp2
    go_ret
    exact ⟨by rw [E.out]; rfl, rfl⟩
  · have e : min n 40 = n := by omega
    have h' : ¬ ((40 : Int) < (n : Int)) := by omega
    rw [e]
    clear e
    go_enter Try.func12, Try.ntmps12
    go_wp2
    go_ret
    exact ⟨rfl, rfl⟩

end Go.Proofs.Ythoedknnchaiaaa

/-
  A log and octets, side by side: a call of a script.
-/
namespace Go.Proofs.Ythoedknnchaiaaa
open Go.RowKit
set_option linter.unusedVariables false

/-- What a call of a script makes of the disk and the log. -/
def lstep (k : Dk) (m : Lm) (o : WOp) : Dk × Lm :=
  if o.kind = 1 then (k, (appendL m o.b).1) else if o.kind = 2 then ((syncL k m).1, (syncL k m).2.1) else if o.kind = 3 then ((swapL k m o.b).1, (swapL k m o.b).2.1)
  else if o.kind = 4 then ((openL k.revive m.n).1.arm (-1), (openL k.revive m.n).2.1) else if o.kind = 5 then ((openL k.revive m.n).1.arm (near o.n (-1) 9000), (openL k.revive m.n).2.1) else (k, m)

/-- Both as k, m say, in their memory of before or in new memory; nothing else is turned. -/
def Side (P Q R : Nat → Prop) (l d lr g a c : Nat) (k : Dk) (m : Lm) (w w' : World) : Prop :=
  ∃ (P' Q' R' : Nat → Prop) (h : Dk), Sit w' P' Q' R' l d lr g a c k h m ∧ (∀ b, P' b → P b ∨ w.heap.size ≤ b) ∧ (∀ b, Q' b → Q b ∨ w.heap.size ≤ b) ∧ (∀ b, R' b → R b ∨ w.heap.size ≤ b) ∧ Touch (fun b => P b ∨ Q b ∨ R b) w w'
def Stepped (P Q R : Nat → Prop) (k : Dk) (m : Lm) (w w' : World) (e : Ending) : Prop :=
  ∃ l d lr g a c, e = .returned (.tuple #[.pointer (some ⟨l, 0, none⟩), .pointer (some ⟨lr, 0, none⟩), .bool true]) ∧ Side P Q R l d lr g a c k m w w'
theorem Again.stepped {P Q R : Nat → Prop} {k : Dk} {m : Lm} {w w' : World} {e : Ending} (h : Again k m w w' e) : Stepped P Q R k m w w' e := by
  obtain ⟨P', Q', R', l, d, lr, g, a, c, hh, he, hs, h1, h2, h3, h4⟩ := h
  exact ⟨l, d, lr, g, a, c, he, P', Q', R', hh, hs, fun b hb => .inr (h1 b hb), fun b hb => .inr (h2 b hb), fun b hb => .inr (h3 b hb), (Touch.of_below (show Below w.heap.size w w' from h4)).mono fun _ _ h => h.elim⟩
theorem Sit.lt {w : World} {P Q R : Nat → Prop} {l d lr g a c : Nat} {k h : Dk} {m : Lm} (s : Sit w P Q R l d lr g a c k h m) : ∀ b, P b ∨ Q b ∨ R b → b < w.heap.size := by
  intro b hb
  rcases hb with hb | hb | hb
  · exact log_lt s.log b hb
  · exact dskl_lt s.dsk b hb
  · obtain ⟨_, _, _, _, _, _, _, _, h3, _⟩ := s.ref
    exact h3.2.2.2.2.2 b hb
theorem Side.same {w w' : World} {P Q R : Nat → Prop} {l d lr g a c : Nat} {k h : Dk} {m : Lm} (s : Sit w P Q R l d lr g a c k h m) (hs : Since w w') : Side P Q R l d lr g a c k m w w' :=
  ⟨P, Q, R, h, s.since hs, fun _ h => .inl h, fun _ h => .inl h, fun _ h => .inl h, (Touch.of_below (show Below w.heap.size w w' from hs)).mono fun _ _ h => h.elim⟩
/-- .. behind a world that made memory alone. -/
theorem Side.from {P Q R : Nat → Prop} {l d lr g a c : Nat} {k : Dk} {m : Lm} {w w1 w' : World} (hb : Since w w1) (h : Side P Q R l d lr g a c k m w1 w') : Side P Q R l d lr g a c k m w w' := by
  obtain ⟨P', Q', R', hh, hs, h1, h2, h3, h4⟩ := h
  have hz : w.heap.size ≤ w1.heap.size := Below.size (show Below w.heap.size w w1 from hb)
  refine ⟨P', Q', R', hh, hs, fun b hb => (h1 b hb).imp id fun h => by omega, fun b hb => (h2 b hb).imp id fun h => by omega, fun b hb => (h3 b hb).imp id fun h => by omega, ?_⟩
  exact ((Touch.of_below (show Below w.heap.size w w1 from hb)).mono fun _ _ h => h.elim).trans h4 fun _ _ h => h

/-- One and the same call of both, the program's first. -/
theorem two_calls {W : World} {P Q R : Nat → Prop} {l d lr g a c : Nat} {k h : Dk} {m : Lm} (s : Sit W P Q R l d lr g a c k h m) (k' h' : Dk) (m' : Lm) (f1 f2 : FuncId) (a1 a2 : Array Value) (v : Value)
    (H1 : ∀ wc, Touch (fun _ => False) W wc → LogM wc P l d k m → DskL wc Q d k → Calls Try.prog f1 a1 wc fun e w' => LDid LogM DskL P Q l d k' m' v wc w' e)
    (H2 : ∀ wc, Touch (fun b => P b ∨ Q b) W wc → RLog R wc lr g a c h m → Calls Try.prog f2 a2 wc fun e w' => RStep R lr g a c h' m' v wc w' e)
    (hl : k'.like h') (hi : Inv k' m') (hh : h'.ok (2 * m'.n + 1)) :
    ∃ (T P0 PP : World → Prop), (∀ w', T w' → Touch (fun b => P b ∨ Q b ∨ R b) W w') ∧ T W.drew ∧ P0 W.drew ∧ T W ∧ P0 W ∧
      (∀ wc, P0 wc → Calls Try.prog f1 a1 wc fun e w' => e = .returned v ∧ T w' ∧ PP w') ∧
      (∀ wc, PP wc → Calls Try.prog f2 a2 wc fun e w' => e = .returned v ∧ T w' ∧ Side P Q R l d lr g a c k' m' W w') := by
  have slt := s.lt
  refine ⟨Touch (fun b => P b ∨ Q b ∨ R b) W, Touch (fun _ => False) W, fun w' => Touch (fun b => P b ∨ Q b) W w' ∧ ∃ P' Q', LogM w' P' l d k' m' ∧ DskL w' Q' d k' ∧ (∀ b, P' b → ¬ Q' b) ∧ (∀ b, P' b → P b ∨ W.heap.size ≤ b) ∧ (∀ b, Q' b → Q b ∨ W.heap.size ≤ b),
    fun _ h => h, (Touch.refl _ W).drew, (Touch.refl _ W).drew, Touch.refl _ W, Touch.refl _ W, ?_, ?_⟩
  · intro wc h0
    refine (H1 wc h0 (log_keep s.log h0.size fun b _ hb => h0.block b hb (fun h => h)) (dskl_keep s.dsk fun b _ hb => h0.block b hb (fun h => h))).mono ?_
    rintro e w' ⟨he, P', Q', hl', hd', hpq, hp, hq, ht⟩
    have htt : Touch (fun b => P b ∨ Q b) W w' := (h0.mono (Q := fun b => P b ∨ Q b) fun _ _ h => h.elim).trans ht fun _ _ h => h
    have hz := h0.size
    exact ⟨he, htt.mono fun b _ h => h.elim .inl (fun h => .inr (.inl h)), htt, P', Q', hl', hd', hpq, fun b hb => (hp b hb).imp id fun h => by omega, fun b hb => (hq b hb).imp id fun h => by omega⟩
  · rintro wc ⟨h0, P', Q', hl', hd', hpq, hp, hq⟩
    have hz := h0.size
    have hr0 : RLog R wc lr g a c h m := s.ref.keep hz fun b hb => h0.block b (slt b (.inr (.inr hb))) fun h => h.elim (fun h => s.pr b h hb) fun h => s.qr b h hb
    refine (H2 wc h0 hr0).mono ?_
    rintro e w' ⟨he, ht, R', hr', hrr⟩
    have hz2 := ht.size
    have htt : Touch (fun b => P b ∨ Q b ∨ R b) W w' := (h0.mono (Q := fun b => P b ∨ Q b ∨ R b) fun _ _ h => h.elim .inl fun h => .inr (.inl h)).trans (ht.mono (Q := fun b => P b ∨ Q b ∨ R b) fun _ _ h => .inr (.inr h)) fun _ _ h => h
    have np : ∀ b, P' b → ¬ R b := fun b hb hr => (hp b hb).elim (fun h => s.pr b h hr) fun h => by have := slt b (.inr (.inr hr)); omega
    have nq : ∀ b, Q' b → ¬ R b := fun b hb hr => (hq b hb).elim (fun h => s.qr b h hr) fun h => by have := slt b (.inr (.inr hr)); omega
    have pl := log_lt hl'
    have ql := dskl_lt hd'
    refine ⟨he, htt, P', Q', R', h', ⟨log_keep hl' hz2 fun b hb hlt => ht.block b hlt (np b hb), dskl_keep hd' fun b hb hlt => ht.block b hlt (nq b hb), hr', hl, hi, hh, hpq, ?_, ?_⟩, hp, hq, fun b hb => (hrr b hb).imp id fun h => by omega, htt⟩
    · intro b hb hr
      rcases hrr b hr with h | h
      · exact np b hb h
      · have := pl b hb; omega
    · intro b hb hr
      rcases hrr b hr with h | h
      · exact nq b hb h
      · have := ql b hb; omega

/-- .. that leaves the disk. -/
theorem LApp.did {P Q : Nat → Prop} {l d : Nat} {k : Dk} {m : Lm} {v : Value} {w w' : World} {e : Ending} (h : LApp LogM P l d k m v w w' e) (hd : DskL w Q d k) (hpq : ∀ b, P b → ¬ Q b) : LDid LogM DskL P Q l d k m v w w' e := by
  obtain ⟨he, P', hl, hp, ht⟩ := h
  have ql := dskl_lt hd
  refine ⟨he, P', Q, hl, dskl_keep hd fun b hb hlt => ht.block b hlt fun h => hpq b h hb, ?_, hp, fun b hb => .inl hb, ht.mono fun b _ h => .inl h⟩
  intro b hb hq
  rcases hp b hb with h | h
  · exact hpq b h hq
  · have := ql b hq; omega

set_option maxHeartbeats 4000000 in
set_option maxRecDepth 100000 in
theorem step12_any {P Q R X : Nat → Prop} {l d lr g a c : Nat} {k h : Dk} {m : Lm} (x : WOp) (w : World) (s : Sit w P Q R l d lr g a c k h m) (hx : x.at w X) (hd : ∀ b, X b → b < w.heap.size → ¬ (P b ∨ Q b ∨ R b)) :
    Calls Try.prog 13 #[.pointer (some ⟨l, 0, none⟩), .pointer (some ⟨lr, 0, none⟩), x.val] w fun e w' => Stepped P Q R (lstep k m x).1 (lstep k m x).2 w w' e := by
  obtain ⟨kind, num, xA, xm, xc, xb⟩ := x
  obtain ⟨hrow, hoct, hik, hin, hxc⟩ := hx
  simp only at hrow hoct hik hin hxc
  have hxm := hrow.2.1
  obtain ⟨W, hW⟩ : ∃ W, W = w.alloc (.cells #[.int .i64 kind, .int .i64 num, .slice xA xm xc] 34) := ⟨_, rfl⟩
  have hs1 : Since w W := by rw [hW]; exact (Since.refl w).alloc _
  have hWs : W.heap.size = w.heap.size + 1 := by rw [hW]; simp
  have hB : Blk W w.heap.size 34 #[.int .i64 kind, .int .i64 num, .slice xA xm xc] := by rw [hW]; exact Blk.new w _ _
  have s1 := s.since hs1
  have slt := s.lt
  have hrow1 : Row W (fun b => X b ∧ b < w.heap.size) xA xm xc (octs xb) := by rw [hW]; exact hrow.within.alloc _
  have hok := s.inv.ok
  have hn := hok.2.1
  have HS1 := hide hs1
  have HW := hide hW
  have HB := hide hB
  have HDD := hide hd
  have x0 : (w.alloc (.cells #[.int .i64 kind, .int .i64 num, .slice xA xm xc] 34)).cell? ⟨w.heap.size, 0, none⟩ = some (.int .i64 kind) := by have := hB.cell 0; rw [hW] at this; exact this
  show Calls Try.prog 13 #[.pointer (some ⟨l, 0, none⟩), .pointer (some ⟨lr, 0, none⟩), .agg #[.int .i64 kind, .int .i64 num, .slice xA xm xc]] w fun e w' => Stepped P Q R (lstep k m ⟨kind, num, xA, xm, xc, xb⟩).1 (lstep k m ⟨kind, num, xA, xm, xc, xb⟩).2 w w' e
  by_cases k1 : kind = 1
  · subst k1
    have HL := hide (show lstep k m ⟨1, num, xA, xm, xc, xb⟩ = (k, (appendL m xb).1) from rfl)
    obtain ⟨z, hz⟩ : ∃ z, (appendL m xb).2 = z := ⟨_, rfl⟩
    obtain ⟨T, P0, PP, hT, hT0, hP0, -, -, C1, C2⟩ := two_calls s1 k h (appendL m xb).1 15 32 #[.pointer (some ⟨l, 0, none⟩), .slice xA xm xc] #[.pointer (some ⟨lr, 0, none⟩), .slice xA xm xc] (.int .i64 z)
      (fun wc ht hl hdk => by
        rw [← hz]
        exact (wappend_any xA xm xc xb wc hl hdk hok s.inv (hrow1.touch ht fun _ _ _ h => h) hoct (fun i hi _ hp => hd i hi.1 hi.2 (.inl hp)) (by omega)).mono fun e w' h => h.did hdk s.pq)
      (fun wc ht hr => by
        rw [← hz]
        exact refappend_any xA xm xc xb wc hr (hrow1.touch ht fun b hb _ h => hd b hb.1 hb.2 (h.elim .inl fun h => .inr (.inl h))) hoct (fun i hi _ hp => hd i hi.1 hi.2 (.inr (.inr hp))) (by omega) s.inv.room s.inv.dur (by omega))
      s.like (s.inv.append hoct) (by rw [appendL_n]; exact s.hok)
    have hXC : ∀ w', T w' → w'.cell? ⟨w.heap.size, 2, none⟩ = some (.slice xA xm xc) := fun w' h => ((hB.touch (hT w' h) fun h => Nat.lt_irrefl _ (slt _ h)).cell 2).trans rfl
    rw [hW] at hT0 hP0
    rw [HL.out]
    clear hT hW hB hd hrow hrow1 s s1 hs1 hz slt hok hn
    go_enter Try.func13, Try.ntmps13
    go_wp2_with fail
    go_region_held (fun w' => T w' ∧ w'.cell? ⟨w.heap.size, 2, none⟩ = some (.slice xA xm xc)) (exact ⟨by assumption, hXC _ (by assumption)⟩) (first
      | (go_at_call 15; refine (C1 _ (by assumption)).mono ?_; rintro e w5 ⟨rfl, hT5, hP5⟩; have hx5 := hXC _ hT5)
      | (go_at_call 32; refine (C2 _ (by assumption)).mono ?_; rintro e w6 ⟨rfl, hT6, hB6⟩))
    go_wp2
    go_ret3
    exact ⟨l, d, lr, g, a, c, by first | rfl | simp, Side.from HS1.out hB6⟩
  have k1' : (kind == 1) = false := beq_eq_false_iff_ne.mpr k1
  by_cases k2 : kind = 2
  · subst k2
    have HL := hide (show lstep k m ⟨2, num, xA, xm, xc, xb⟩ = ((syncL k m).1, (syncL k m).2.1) from rfl)
    obtain ⟨z, hz⟩ : ∃ z, (syncL k m).2.2 = z := ⟨_, rfl⟩
    obtain ⟨T, P0, PP, -, -, -, -, hP0, C1, C2⟩ := two_calls s1 (syncL k m).1 (syncL h m).1 (syncL k m).2.1 16 33 #[.pointer (some ⟨l, 0, none⟩)] #[.pointer (some ⟨lr, 0, none⟩)] (.int .i64 z)
      (fun wc ht hl hdk => by
        rw [← hz]
        exact wsync_any wc hl hdk s.pq s.inv)
      (fun wc ht hr => by
        have := refsync_any wc hr s.hok s.inv.room s.inv.octs
        rw [← (s.like.sync m).2, hz] at this
        exact this)
      (s.like.sync m).1 s.inv.sync (by have := (s.inv.like s.like s.hok).sync.ok; rwa [← (s.like.sync m).2] at this)
    rw [hW] at hP0
    rw [HL.out]
    clear hW hB hd hrow hrow1 s s1 hs1 hz slt hok hn
    go_enter Try.func13, Try.ntmps13
    go_wp2_with fail
    refine (C1 _ hP0).mono ?_
    rintro e w5 ⟨rfl, hT5, hP5⟩
    go_wp2_with fail
    refine (C2 _ hP5).mono ?_
    rintro e w6 ⟨rfl, hT6, hB6⟩
    go_wp2
    go_ret3
    exact ⟨l, d, lr, g, a, c, by first | rfl | simp, Side.from HS1.out hB6⟩
  have k2' : (kind == 2) = false := beq_eq_false_iff_ne.mpr k2
  by_cases k3 : kind = 3
  · subst k3
    have HL := hide (show lstep k m ⟨3, num, xA, xm, xc, xb⟩ = ((swapL k m xb).1, (swapL k m xb).2.1) from rfl)
    obtain ⟨z, hz⟩ : ∃ z, (swapL k m xb).2.2 = z := ⟨_, rfl⟩
    obtain ⟨T, P0, PP, hT, hT0, hP0, -, -, C1, C2⟩ := two_calls s1 (swapL k m xb).1 (swapL h m xb).1 (swapL k m xb).2.1 25 34 #[.pointer (some ⟨l, 0, none⟩), .slice xA xm xc] #[.pointer (some ⟨lr, 0, none⟩), .slice xA xm xc] (.int .i64 z)
      (fun wc ht hl hdk => by
        rw [← hz]
        exact wswap_any xA xm xc xb wc hl hdk s.pq s.inv (hrow1.touch ht fun _ _ _ h => h) hoct)
      (fun wc ht hr => by
        have := refswap_any xA xm xc xb wc hr s.hok (hrow1.touch ht fun b hb _ h => hd b hb.1 hb.2 (h.elim .inl fun h => .inr (.inl h))) hoct (fun i hi _ hp => hd i hi.1 hi.2 (.inr (.inr hp))) (by omega)
        rw [← (s.like.swap m xb).2, hz] at this
        exact this)
      (s.like.swap m xb).1 (s.inv.swap hoct) (by have := ((s.inv.like s.like s.hok).swap hoct).ok; rwa [← (s.like.swap m xb).2] at this)
    have hXC : ∀ w', T w' → w'.cell? ⟨w.heap.size, 2, none⟩ = some (.slice xA xm xc) := fun w' h => ((hB.touch (hT w' h) fun h => Nat.lt_irrefl _ (slt _ h)).cell 2).trans rfl
    rw [hW] at hT0 hP0
    rw [HL.out]
    clear hT hW hB hd hrow hrow1 s s1 hs1 hz slt hok hn
    go_enter Try.func13, Try.ntmps13
    go_wp2_with fail
    go_region_held (fun w' => T w' ∧ w'.cell? ⟨w.heap.size, 2, none⟩ = some (.slice xA xm xc)) (exact ⟨by assumption, hXC _ (by assumption)⟩) (first
      | (go_at_call 25; refine (C1 _ (by assumption)).mono ?_; rintro e w5 ⟨rfl, hT5, hP5⟩; have hx5 := hXC _ hT5)
      | (go_at_call 34; refine (C2 _ (by assumption)).mono ?_; rintro e w6 ⟨rfl, hT6, hB6⟩))
    go_wp2
    go_ret3
    exact ⟨l, d, lr, g, a, c, by first | rfl | simp, Side.from HS1.out hB6⟩
  have k3' : (kind == 3) = false := beq_eq_false_iff_ne.mpr k3
  by_cases k4 : kind = 4
  · subst k4
    have HL := hide (show lstep k m ⟨4, num, xA, xm, xc, xb⟩ = ((openL k.revive m.n).1.arm (-1), (openL k.revive m.n).2.1) from rfl)
    have HAG := hide (again_any (-1) W s1 (by unfold I64'; omega))
    rw [hW] at HAG
    rw [HL.out]
    clear hW hB hd hrow hrow1 s s1 slt hok hn
    go_enter Try.func13, Try.ntmps13
    go_wp2_with fail
    refine HAG.out.mono ?_
    intro e w5 hag
    have hst := Again.stepped (P := P) (Q := Q) (R := R) hag
    obtain ⟨l5, d5, lr5, g5, a5, c5, rfl, hsd⟩ := hst
    rw [← HW.out] at hsd
    have HSD := hide (Side.from HS1.out hsd)
    clear hsd hag
    go_wp2
    go_ret3
    exact ⟨l5, d5, lr5, g5, a5, c5, rfl, HSD.out⟩
  have k4' : (kind == 4) = false := beq_eq_false_iff_ne.mpr k4
  by_cases k5 : kind = 5
  · subst k5
    have HL := hide (show lstep k m ⟨5, num, xA, xm, xc, xb⟩ = ((openL k.revive m.n).1.arm (near num (-1) 9000), (openL k.revive m.n).2.1) from rfl)
    have hnn := near_in (n := num) (lo := -1) (hi := 9000) (by omega)
    have HAG := hide (again_any (near num (-1) 9000) W s1 (by unfold I64'; omega))
    have x1 : (w.alloc (.cells #[.int .i64 5, .int .i64 num, .slice xA xm xc] 34)).cell? ⟨w.heap.size, 1, none⟩ = some (.int .i64 num) := by have := hB.cell 1; rw [hW] at this; exact this
    rw [hW] at HAG
    rw [HL.out]
    clear hW hB hd hrow hrow1 s s1 slt hok hn hnn
    go_enter Try.func13, Try.ntmps13
    go_wp2_with fail
    refine (near_any num (-1) 9000 _).mono ?_
    rintro e w4 ⟨rfl, rfl⟩
    go_wp2_with fail
    refine HAG.out.mono ?_
    intro e w5 hag
    have hst := Again.stepped (P := P) (Q := Q) (R := R) hag
    obtain ⟨l5, d5, lr5, g5, a5, c5, rfl, hsd⟩ := hst
    rw [← HW.out] at hsd
    have HSD := hide (Side.from HS1.out hsd)
    clear hsd hag
    go_wp2
    go_ret3
    exact ⟨l5, d5, lr5, g5, a5, c5, rfl, HSD.out⟩
  have k5' : (kind == 5) = false := beq_eq_false_iff_ne.mpr k5
  have HL := hide (show lstep k m ⟨kind, num, xA, xm, xc, xb⟩ = (k, m) by unfold lstep; simp only; rw [if_neg k1, if_neg k2, if_neg k3, if_neg k4, if_neg k5])
  have HE := hide (Side.from hs1 (Side.same s1 (Since.refl W)))
  rw [hW] at HE
  rw [HL.out]
  clear hW hB hd hrow hrow1 s s1 slt hok hn
  go_enter Try.func13, Try.ntmps13
  go_wp2
  go_ret3
  exact ⟨l, d, lr, g, a, c, rfl, HE.out⟩
end Go.Proofs.Ythoedknnchaiaaa
