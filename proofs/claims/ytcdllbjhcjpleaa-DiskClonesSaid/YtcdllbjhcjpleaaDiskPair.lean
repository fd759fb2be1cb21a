/-
  A disk with its octets, and the blocks that they own.
-/
import Derived.Test.YtcdllbjhcjpleaaDiskRuns
namespace Go.Proofs.Ytcdllbjhcjpleaa
open Go.RowKit
set_option linter.unusedVariables false

/-- The disk d and the octets at g and a are as k says; all that they own lies in blocks of S. -/
def PairS (S : Nat → Prop) (d g a c : Nat) (k : Dk) (w : World) : Prop :=
  ∃ P cur, Told P d g a c cur k w ∧ (∀ n, P n → S n) ∧ ¬ P g ∧ ¬ P a ∧ S g ∧ S a ∧ ∀ n, S n → n < w.heap.size
theorem PairS.keep {S : Nat → Prop} {d g a c : Nat} {k : Dk} {w w' : World} (h : PairS S d g a c k w) (hk : ∀ n, S n → w'.heap[n]? = w.heap[n]?) (hs : w.heap.size ≤ w'.heap.size) : PairS S d g a c k w' := by
  obtain ⟨P, cur, h1, h2, h3, h4, h5, h6, h7⟩ := h
  exact ⟨P, cur, ⟨dsk_keep h1.1 fun b hb _ => hk b (h2 b hb), h1.2.keep (hk g h5) (hk a h6)⟩, h2, h3, h4, h5, h6, fun n hn => Nat.lt_of_lt_of_le (h7 n hn) hs⟩
theorem PairS.touch {S T : Nat → Prop} {d g a c : Nat} {k : Dk} {w w' : World} (h : PairS S d g a c k w) (ht : Touch T w w') (hd : ∀ n, S n → ¬ T n) : PairS S d g a c k w' := by
  have hlt : ∀ n, S n → n < w.heap.size := by obtain ⟨_, _, _, _, _, _, _, _, h7⟩ := h; exact h7
  exact h.keep (fun n hn => ht.block n (hlt n hn) (hd n hn)) ht.size
theorem PairS.later {S : Nat → Prop} {d g a c : Nat} {k : Dk} {w w' : World} (h : PairS S d g a c k w) (hb : Below w.heap.size w w') : PairS S d g a c k w' :=
  h.touch (Touch.of_below hb) fun _ _ h => h
theorem PairS.lt {S : Nat → Prop} {d g a c : Nat} {k : Dk} {w : World} (h : PairS S d g a c k w) : ∀ n, S n → n < w.heap.size := by
  obtain ⟨_, _, _, _, _, _, _, _, h7⟩ := h
  exact h7
/-- What a script's run comes to. -/
def RanS (S : Nat → Prop) (d g a c : Nat) (k : Dk) (w w' : World) : Prop := ∃ S', PairS S' d g a c k w' ∧ (∀ n, S' n → S n ∨ w.heap.size ≤ n) ∧ Touch S w w'
theorem PairS.run {S Q : Nat → Prop} {d g a c m : Nat} {k : Dk} {w : World} (h : PairS S d g a c k w) (hk : k.ok m) (A : Option Addr) (n cl : Nat) (l : List DOp) (hl : DOps w Q A n cl l) (hq : ∀ b, Q b → b < w.heap.size → ¬ S b) :
    Calls Try.prog 9 #[.pointer (some ⟨g, 0, none⟩), .pointer (some ⟨d, 0, none⟩), .slice A n cl] w fun e w' => e = .returned (.bool true) ∧ RanS S d g a c (k.run l) w w' := by
  obtain ⟨P, cur, h1, h2, h3, h4, h5, h6, h7⟩ := h
  refine (brun_any A n cl l w h1.2 h1.1 hk hl h3 h4 fun b hb hlt => ⟨fun hp => hq b hb hlt (h2 b hp), fun e => hq b hb hlt (e ▸ h5), fun e => hq b hb hlt (e ▸ h6)⟩).mono ?_
  rintro e w' ⟨he, P', cur', g1, g2, g3, g4⟩
  have hlt' := dsk_lt g1
  have hPg : ∀ x, x < w.heap.size → ¬ P x → ¬ P' x := fun x hx hp h => (g2 x h).elim hp fun h => by omega
  have hT : Touch S w w' := g4.mono fun n _ h => by
    rcases h with h | h | h
    · exact h2 n h
    · exact h ▸ h5
    · exact h ▸ h6
  refine ⟨he, fun n => (S n ∨ w.heap.size ≤ n) ∧ n < w'.heap.size, ⟨P', cur', ⟨g1, g3⟩, fun n hn => ⟨(g2 n hn).imp (h2 n) id, hlt' n hn⟩, hPg g (h7 g h5) h3, hPg a (h7 a h6) h4, ⟨.inl h5, Nat.lt_of_lt_of_le (h7 g h5) hT.size⟩, ⟨.inl h6, Nat.lt_of_lt_of_le (h7 a h6) hT.size⟩, fun n hn => hn.2⟩, fun n hn => hn.1, hT⟩

/-- Two disks with their octets, apart, and one that New did not make. -/
def Trio (S T : Nat → Prop) (d g a c d2 g2 a2 c2 go : Nat) (k k2 : Dk) (w0 wv : World) : Prop :=
  PairS S d g a c k wv ∧ PairS T d2 g2 a2 c2 k2 wv ∧ OddD wv go ∧ ¬ S go ∧ ¬ T go ∧ (∀ n, S n → ¬ T n) ∧ (∀ n, S n → w0.heap.size ≤ n) ∧ (∀ n, T n → w0.heap.size ≤ n) ∧ w0.heap.size ≤ go ∧ Below w0.heap.size w0 wv
section trio
variable {S T : Nat → Prop} {d g a c d2 g2 a2 c2 go : Nat} {k k2 : Dk} {w0 w w' : World}
theorem Trio.later (h : Trio S T d g a c d2 g2 a2 c2 go k k2 w0 w) (hb : Below w.heap.size w w') : Trio S T d g a c d2 g2 a2 c2 go k k2 w0 w' := by
  obtain ⟨h1, h2, h3, h4, h5, h6, h7, h8, h9, h10⟩ := h
  exact ⟨h1.later hb, h2.later hb, odd_keep h3 (hb.block go (odd_lt h3)), h4, h5, h6, h7, h8, h9, h10.trans (hb.mono h10.size)⟩
theorem Trio.odd (h : Trio S T d g a c d2 g2 a2 c2 go k k2 w0 w) (ho : OddD w' go) (ht : Touch (· = go) w w') : Trio S T d g a c d2 g2 a2 c2 go k k2 w0 w' := by
  obtain ⟨h1, h2, h3, h4, h5, h6, h7, h8, h9, h10⟩ := h
  exact ⟨h1.touch ht fun n hn e => h4 (e ▸ hn), h2.touch ht fun n hn e => h5 (e ▸ hn), ho, h4, h5, h6, h7, h8, h9, h10.trans (ht.below h10.size fun n hn e => by subst e; omega)⟩
theorem Trio.ran1 {k' : Dk} (h : Trio S T d g a c d2 g2 a2 c2 go k k2 w0 w) (hr : RanS S d g a c k' w w') : ∃ S', Trio S' T d g a c d2 g2 a2 c2 go k' k2 w0 w' := by
  obtain ⟨h1, h2, h3, h4, h5, h6, h7, h8, h9, h10⟩ := h
  obtain ⟨S', g1, g2', g3⟩ := hr
  have l3 := odd_lt h3
  have lT := h2.lt
  refine ⟨S', g1, h2.touch g3 fun n hn hs => h6 n hs hn, odd_keep h3 (g3.block go l3 h4), fun hs => (g2' go hs).elim h4 fun h => by omega, h5, fun n hn ht => (g2' n hn).elim (fun h => h6 n h ht) fun h => by have := lT n ht; omega, fun n hn => (g2' n hn).elim (h7 n) fun h => Nat.le_trans h10.size h, h8, h9, ?_⟩
  exact h10.trans (g3.below h10.size fun n hn hs => by have := h7 n hs; omega)
theorem Trio.ran2 {k' : Dk} (h : Trio S T d g a c d2 g2 a2 c2 go k k2 w0 w) (hr : RanS T d2 g2 a2 c2 k' w w') : ∃ T', Trio S T' d g a c d2 g2 a2 c2 go k k' w0 w' := by
  obtain ⟨h1, h2, h3, h4, h5, h6, h7, h8, h9, h10⟩ := h
  obtain ⟨T', g1, g2', g3⟩ := hr
  have l3 := odd_lt h3
  have lS := h1.lt
  refine ⟨T', h1.touch g3 fun n hn hs => h6 n hn hs, g1, odd_keep h3 (g3.block go l3 h5), h4, fun hs => (g2' go hs).elim h5 fun h => by omega, fun n hn ht => (g2' n ht).elim (fun h => h6 n hn h) fun h => by have := lS n hn; omega, h7, fun n hn => (g2' n hn).elim (h8 n) fun h => Nat.le_trans h10.size h, h9, ?_⟩
  exact h10.trans (g3.below h10.size fun n hn hs => by have := h8 n hs; omega)
end trio
end Go.Proofs.Ytcdllbjhcjpleaa
