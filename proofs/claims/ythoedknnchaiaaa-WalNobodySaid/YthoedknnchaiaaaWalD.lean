/-
  A disk, but for how much was written to it: the contracts of layer 11 once more. (A log that is opened writes fewer sectors than the reference does, where some of them are 0 already: all octets are the same.)
-/
import Derived.Test.YthoedknnchaiaaaWalK
import Derived.Test.YthoedknnchaiaaaDiskPW
import Derived.Test.YthoedknnchaiaaaDiskPA
import Derived.Test.YthoedknnchaiaaaDiskPN
namespace Go.Proofs.Ythoedknnchaiaaa
open Go.RowKit
set_option linter.unusedVariables false

/-- Block g, with those of P, is a disk that is as k says, however much was written. -/
def DskL (w : World) (P : Nat → Prop) (g : Nat) (k : Dk) : Prop := ∃ k0 : Dk, k0.like k ∧ I64' k0.written ∧ Dsk w P g k0
theorem like_ok {k h : Dk} {m : Nat} (e : k.like h) (hw : I64' k.written) (ho : h.ok m) : k.ok m := ⟨by rw [e.1]; exact ho.1, ho.2.1, by rw [e.1]; exact ho.2.2.1, by rw [e.2.1]; exact ho.2.2.2.1, hw⟩
theorem Dk.like.symm {k h : Dk} (e : k.like h) : h.like k := ⟨e.1.symm, e.2.1.symm, e.2.2.symm⟩
theorem Dk.like.trans {k h j : Dk} (e : k.like h) (f : h.like j) : k.like j := ⟨e.1.trans f.1, e.2.1.trans f.2.1, e.2.2.trans f.2.2⟩
theorem Dk.like.revive {k h : Dk} (e : k.like h) : k.revive.like h.revive := ⟨e.1, rfl, rfl⟩
theorem Dsk.l {w : World} {P : Nat → Prop} {g m : Nat} {k : Dk} (h : Dsk w P g k) (hk : k.ok m) : DskL w P g k := ⟨k, .refl k, hk.2.2.2.2, h⟩
theorem dskl_keep {w w' : World} {P : Nat → Prop} {g : Nat} {k : Dk} (h : DskL w P g k) (hk : ∀ b, P b → b < w.heap.size → w'.heap[b]? = w.heap[b]?) : DskL w' P g k := by
  obtain ⟨k0, h1, h2, h3⟩ := h
  exact ⟨k0, h1, h2, dsk_keep h3 hk⟩
theorem dskl_lt {w : World} {P : Nat → Prop} {g : Nat} {k : Dk} (h : DskL w P g k) : ∀ b, P b → b < w.heap.size := by
  obtain ⟨k0, h1, h2, h3⟩ := h
  exact dsk_lt h3
theorem DMade.l {k k0 : Dk} {m : Nat} {w w' : World} {e : Ending} (h : DMade Dsk k0 w w' e) (hl : k0.like k) (hk : k0.ok m) : DMade DskL k w w' e := by
  obtain ⟨g, P, h1, h2, h3⟩ := h
  exact ⟨g, P, h1, ⟨k0, hl, hk.2.2.2.2, h2⟩, h3⟩
theorem DDid.l {P : Nat → Prop} {d m : Nat} {k k0 : Dk} {v : Value} {w w' : World} {e : Ending} (h : DDid Dsk P d k0 v w w' e) (hl : k0.like k) (hk : k0.ok m) : DDid DskL P d k v w w' e := by
  obtain ⟨h1, P', h2, h3⟩ := h
  exact ⟨h1, P', ⟨k0, hl, hk.2.2.2.2, h2⟩, h3⟩
theorem dlnew_any (n : Int) (w : World) (hn : I64' n) : Calls Try.prog 28 #[.int .i64 n] w fun e w' => DNew DskL (near n 0 256).toNat w w' e := by
  have h := near_in (n := n) (lo := 0) (hi := 256) (by omega)
  exact (dnew_any n w hn).mono fun e w' h => DMade.l h (.refl _) (Dk.ok_fresh (by omega))
theorem dlclone_any {P : Nat → Prop} {d m : Nat} {k : Dk} (w : World) (h : DskL w P d k) (hk : k.ok m) : Calls Try.prog 43 #[.pointer (some ⟨d, 0, none⟩)] w fun e w' => DMade DskL k w w' e := by
  obtain ⟨k0, h1, h2, h3⟩ := h
  have ho := like_ok h1 h2 hk
  exact (dclone_any w h3 ho).mono fun e w' h => DMade.l h h1 ho
theorem dlarm_any {P : Nat → Prop} {d m : Nat} {k : Dk} (n : Int) (w : World) (h : DskL w P d k) (hk : k.ok m) (hn : I64' n) : Calls Try.prog 20 #[.pointer (some ⟨d, 0, none⟩), .int .i64 n] w fun e w' => DDid DskL P d (k.arm n) (.tuple #[]) w w' e := by
  obtain ⟨k0, h1, h2, h3⟩ := h
  have ho := like_ok h1 h2 hk
  exact (darm_any n w h3 ho hn).mono fun e w' h => DDid.l h (h1.arm n) (Dk.ok_arm ho hn.2)
theorem dlrevive_any {P : Nat → Prop} {d m : Nat} {k : Dk} (w : World) (h : DskL w P d k) (hk : k.ok m) : Calls Try.prog 22 #[.pointer (some ⟨d, 0, none⟩)] w fun e w' => DDid DskL P d k.revive (.tuple #[]) w w' e := by
  obtain ⟨k0, h1, h2, h3⟩ := h
  have ho := like_ok h1 h2 hk
  exact (drevive_any w h3 ho).mono fun e w' h => DDid.l h h1.revive (Dk.ok_revive ho)
theorem dlall_any {P : Nat → Prop} {d m : Nat} {k : Dk} (w : World) (h : DskL w P d k) (hk : k.ok m) : Calls Try.prog 27 #[.pointer (some ⟨d, 0, none⟩)] w fun e w' => Fresh w k.b w' e := by
  obtain ⟨k0, h1, h2, h3⟩ := h
  have := dall_any w h3 (like_ok h1 h2 hk)
  rwa [h1.1] at this
theorem dlwrite_any {P Q : Nat → Prop} {d m : Nat} {k : Dk} (i : Int) (A : Option Addr) (n c : Nat) (x : List Int) (w : World) (h : DskL w P d k) (hk : k.ok m) (hi : I64' i) (hx : Row w Q A n c (octs x)) (ho : Octs x) (hq : ∀ b, Q b → b < w.heap.size → ¬ P b) :
    Calls Try.prog 29 #[.pointer (some ⟨d, 0, none⟩), .int .i64 i, .slice A n c] w fun e w' => DDid DskL P d (k.write i x) (.bool (k.wrote i x)) w w' e := by
  obtain ⟨k0, h1, h2, h3⟩ := h
  have hok := like_ok h1 h2 hk
  rw [← h1.wrote]
  exact (dwrite_any i A n c x w h3 hok hi hx ho hq).mono fun e w' h => DDid.l h (h1.write i x) (Dk.ok_write hok i ho)
end Go.Proofs.Ythoedknnchaiaaa
