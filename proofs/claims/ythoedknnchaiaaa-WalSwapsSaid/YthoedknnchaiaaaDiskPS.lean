/-
  The program's contracts of layer 11: Len, Dead, Written, Arm, Revive; and all but New and Clone of none, or of one that nobody made.
-/
import Derived.Test.YthoedknnchaiaaaDiskPM
namespace Go.Proofs.Ythoedknnchaiaaa
open Go.RowKit
set_option linter.unusedVariables false

theorem dlen_any {P : Nat → Prop} {d m : Nat} {k : Dk} (w : World) (h : Dsk w P d k) (hk : k.ok m) : Calls Try.prog 65 #[.pointer (some ⟨d, 0, none⟩)] w fun e w' => e = .returned (.int .i64 (m : Int)) ∧ Below w.heap.size w w' := by
  obtain ⟨s, n, c, hd, -⟩ := h
  obtain rfl := hd.secs hk
  have hn := hk.2.1
  have h0 : w.cell? ⟨d, 0, none⟩ = some (.bool true) := (hd.1.cell 0).trans rfl
  have h1 : w.cell? ⟨d, 1, none⟩ = some (.slice (some ⟨s, 0, none⟩) m c) := (hd.1.cell 1).trans rfl
  have h3 : w.cell? ⟨d, 3, none⟩ = some (.bool k.dead) := (hd.1.cell 3).trans rfl
  have h4 : w.cell? ⟨d, 4, none⟩ = some (.int .i64 k.written) := (hd.1.cell 4).trans rfl
  clear hd hk
  go_enter Try.func65, Try.ntmps65
  go_wp2_with fail
  refine (real_at w d true h0).mono ?_
  rintro e w' ⟨rfl, rfl⟩
  go_wp2
  go_ret
  exact ⟨rfl, Below.refl _ _⟩
theorem dnil_len (w : World) : Calls Try.prog 65 #[.pointer none] w fun e w' => e = .returned (.int .i64 0) ∧ Below w.heap.size w w' := by
  go_enter Try.func65, Try.ntmps65
  go_wp2_with fail
  refine (real_nil w).mono ?_
  rintro e w' ⟨rfl, rfl⟩
  go_wp2
  go_ret
  exact ⟨rfl, Below.refl _ _⟩
theorem dnil_all (w : World) : Calls Try.prog 27 #[.pointer none] w fun e w' => Fresh w [] w' e := by
  go_enter Try.func27, Try.ntmps27
  go_wp2_with fail
  refine (real_nil w).mono ?_
  rintro e w' ⟨rfl, rfl⟩
  go_wp2
  go_ret
  exact ⟨none, 0, rfl, ⟨rfl, .inl ⟨rfl, rfl⟩⟩, Below.refl _ _⟩
theorem dnil_clone (w : World) : Calls Try.prog 43 #[.pointer none] w fun e w' => e = .returned (.pointer none) ∧ Below w.heap.size w w' := by
  go_enter Try.func43, Try.ntmps43
  go_wp2_with fail
  refine (real_nil w).mono ?_
  rintro e w' ⟨rfl, rfl⟩
  go_wp2
  go_ret
  exact ⟨rfl, Below.refl _ _⟩
theorem dnil_revive (w : World) : Calls Try.prog 22 #[.pointer none] w fun e w' => e = .returned (.tuple #[]) ∧ Below w.heap.size w w' := by
  go_enter Try.func22, Try.ntmps22
  go_wp2_with fail
  refine (real_nil w).mono ?_
  rintro e w' ⟨rfl, rfl⟩
  go_wp2
  go_end0
  exact ⟨rfl, Below.refl _ _⟩
theorem dnil_arm (n : Int) (w : World) (hn : I64' n) : Calls Try.prog 20 #[.pointer none, .int .i64 n] w fun e w' => e = .returned (.tuple #[]) ∧ Below w.heap.size w w' := by
  go_enter Try.func20, Try.ntmps20
  go_wp2_with fail
  refine (works_nil w).mono ?_
  rintro e w' ⟨rfl, rfl⟩
  go_wp2
  go_end0
  exact ⟨rfl, Below.refl _ _⟩
theorem dnil_read (i : Int) (w : World) (hi : I64' i) : Calls Try.prog 59 #[.pointer none, .int .i64 i] w fun e w' => FreshB w [] false w' e := by
  go_enter Try.func59, Try.ntmps59
  go_wp2_with fail
  refine (reaches_nil i w).mono ?_
  rintro e w' ⟨rfl, rfl⟩
  go_wp2
  go_ret2
  exact ⟨none, 0, rfl, ⟨rfl, .inl ⟨rfl, rfl⟩⟩, Below.refl _ _⟩
theorem dnil_write (i : Int) (A : Option Addr) (n c : Nat) (w : World) (hi : I64' i) : Calls Try.prog 29 #[.pointer none, .int .i64 i, .slice A n c] w fun e w' => e = .returned (.bool false) ∧ Below w.heap.size w w' := by
  go_enter Try.func29, Try.ntmps29
  go_wp2_with fail
  refine (reaches_nil i w).mono ?_
  rintro e w' ⟨rfl, rfl⟩
  go_wp2
  go_ret
  exact ⟨rfl, Below.refl _ _⟩
theorem dodd_revive {g : Nat} (w : World) (h : OddD w g) : Calls Try.prog 22 #[.pointer (some ⟨g, 0, none⟩)] w fun e w' => e = .returned (.tuple #[]) ∧ OddD w' g ∧ Touch (· = g) w w' := by
  have h0 : w.cell? ⟨g, 0, none⟩ = some (.bool false) := (Blk.cell h 0).trans rfl
  go_enter Try.func22, Try.ntmps22
  go_wp2_with fail
  refine (real_at w g false h0).mono ?_
  rintro e w' ⟨rfl, rfl⟩
  go_wp2
  go_end0
  exact ⟨rfl, h, Touch.refl _ _⟩
theorem dodd_write {g : Nat} (i : Int) (A : Option Addr) (n c : Nat) (w : World) (h : OddD w g) (hi : I64' i) : Calls Try.prog 29 #[.pointer (some ⟨g, 0, none⟩), .int .i64 i, .slice A n c] w fun e w' => e = .returned (.bool false) ∧ Below w.heap.size w w' := by
  have H := hide h
  clear h
  go_enter Try.func29, Try.ntmps29
  go_wp2_with fail
  refine (reaches_odd i w g H.out).mono ?_
  rintro e w' ⟨rfl, rfl⟩
  go_wp2
  go_ret
  exact ⟨rfl, Below.refl _ _⟩
theorem dodd_len {g : Nat} (w : World) (h : OddD w g) : Calls Try.prog 65 #[.pointer (some ⟨g, 0, none⟩)] w fun e w' => e = .returned (.int .i64 0) ∧ Below w.heap.size w w' := by
  have h0 : w.cell? ⟨g, 0, none⟩ = some (.bool false) := (Blk.cell h 0).trans rfl
  go_enter Try.func65, Try.ntmps65
  go_wp2_with fail
  refine (real_at w g false h0).mono ?_
  rintro e w' ⟨rfl, rfl⟩
  go_wp2
  go_ret
  exact ⟨rfl, Below.refl _ _⟩
theorem dodd_clone {g : Nat} (w : World) (h : OddD w g) : Calls Try.prog 43 #[.pointer (some ⟨g, 0, none⟩)] w fun e w' => e = .returned (.pointer none) ∧ Below w.heap.size w w' := by
  have h0 : w.cell? ⟨g, 0, none⟩ = some (.bool false) := (Blk.cell h 0).trans rfl
  go_enter Try.func43, Try.ntmps43
  go_wp2_with fail
  refine (real_at w g false h0).mono ?_
  rintro e w' ⟨rfl, rfl⟩
  go_wp2
  go_ret
  exact ⟨rfl, Below.refl _ _⟩
theorem DskAt.told {w w' : World} {g s m c : Nat} {k k' : Dk} (h : DskAt w g s m c k) (hb : k'.b = k.b) (h1 : Blk w' g 74 #[.bool true, .slice (some ⟨s, 0, none⟩) m c, .int .i64 k'.fuel, .bool k'.dead, .int .i64 k'.written]) (ht : Touch (· = g) w w') : DskAt w' g s m c k' :=
  ⟨h1, by rw [hb]; exact h.2.1.keep (ht.block s h.lt.2 fun e => h.2.2 e.symm), h.2.2⟩
theorem did_of {w w' : World} {P : Nat → Prop} {g s m c : Nat} {k' : Dk} {v : Value} (hP : ∀ b, P b ↔ b = g ∨ b = s) (h : DskAt w' g s m c k') (ht : Touch (fun b => b = g ∨ b = s) w w') : DDid Dsk P g k' v w w' (.returned v) :=
  ⟨rfl, fun b => b = g ∨ b = s, ⟨s, m, c, h, fun _ => Iff.rfl⟩, fun n hn => .inl ((hP n).2 hn), ht.mono fun n _ hn => (hP n).2 hn⟩
theorem drevive_any {P : Nat → Prop} {d m : Nat} {k : Dk} (w : World) (h : Dsk w P d k) (hk : k.ok m) : Calls Try.prog 22 #[.pointer (some ⟨d, 0, none⟩)] w fun e w' => DDid Dsk P d k.revive (.tuple #[]) w w' e := by
  obtain ⟨s, n, c, hd, hP⟩ := h
  have hb := hd.1
  have h0 : w.cell? ⟨d, 0, none⟩ = some (.bool true) := (hb.cell 0).trans rfl
  have h2 : w.cell? ⟨d, 2, none⟩ = some (.int .i64 k.fuel) := (hb.cell 2).trans rfl
  have h3 : w.cell? ⟨d, 3, none⟩ = some (.bool k.dead) := (hb.cell 3).trans rfl
  have f2 := hb.frozen 2
  have f3 := hb.frozen 3
  have HD := hide hd
  have HP := hide hP
  clear hd hb hP hk
  go_enter Try.func22, Try.ntmps22
  go_wp2_with fail
  refine (real_at w d true h0).mono ?_
  rintro e w' ⟨rfl, rfl⟩
  go_wp2
  go_end0
  exact did_of HP.out (HD.out.told (k' := k.revive) rfl ((HD.out.1.store 3 _).store 2 _) (((Touch.refl (· = d) w).setCell (fun _ => rfl) _).setCell (fun _ => rfl) _)) ((((Touch.refl (· = d) w).setCell (fun _ => rfl) _).setCell (fun _ => rfl) _).mono fun _ _ h => .inl h)
theorem darm_any {P : Nat → Prop} {d m : Nat} {k : Dk} (n : Int) (w : World) (h : Dsk w P d k) (hk : k.ok m) (hn : I64' n) : Calls Try.prog 20 #[.pointer (some ⟨d, 0, none⟩), .int .i64 n] w fun e w' => DDid Dsk P d (k.arm n) (.tuple #[]) w w' e := by
  obtain ⟨s, n', c, hd, hP⟩ := h
  have hb := hd.1
  have h0 : w.cell? ⟨d, 0, none⟩ = some (.bool true) := (hb.cell 0).trans rfl
  have h2 : w.cell? ⟨d, 2, none⟩ = some (.int .i64 k.fuel) := (hb.cell 2).trans rfl
  have h3 : w.cell? ⟨d, 3, none⟩ = some (.bool k.dead) := (hb.cell 3).trans rfl
  have f2 := hb.frozen 2
  have HD := hide hd
  have HP := hide hP
  clear hd hb hP hk
  obtain ⟨kb, fuel, dead, written⟩ := k
  simp only at h2 h3
  cases dead with
  | true =>
    go_enter Try.func20, Try.ntmps20
    go_wp2_with fail
    refine (works_at w d _ _ h0 h3).mono ?_
    rintro e w' ⟨rfl, rfl⟩
    go_wp2
    go_end0
    exact did_of HP.out HD.out (Touch.refl _ _)
  | false =>
    go_enter Try.func20, Try.ntmps20
    go_wp2_with fail
    refine (works_at w d _ _ h0 h3).mono ?_
    rintro e w' ⟨rfl, rfl⟩
    have FIN := hide (fun (v : Int) (hv : v = max n (-1)) => show DDid Dsk P d (Dk.arm ⟨kb, fuel, false, written⟩ n) (.tuple #[]) w (w.setCell ⟨d, 2, none⟩ (.int .i64 v)) (.returned (.tuple #[])) from by
      subst hv
      exact did_of HP.out (HD.out.told (k' := Dk.arm ⟨kb, fuel, false, written⟩ n) rfl (HD.out.1.store 2 _) ((Touch.refl (· = d) w).setCell (fun _ => rfl) _)) (((Touch.refl (· = d) w).setCell (fun _ => rfl) _).mono fun _ _ h => .inl h))
    go_wp2
    all_goals go_end0
    all_goals exact FIN.out _ (by omega)
end Go.Proofs.Ythoedknnchaiaaa
