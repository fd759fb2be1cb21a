/-
  Words: calls of a script, and the octets that a disk is held against.
-/
import Derived.Test.YtcdllbjhcjpleaaDiskM
import Derived.Test.YtcdllbjhcjpleaaWide
import Derived.Test.YtcdllbjhcjpleaaSince
namespace Go.Proofs.Ytcdllbjhcjpleaa
open Go.RowKit
set_option linter.unusedVariables false

structure DOp where
  kind : Int
  i : Int
  n : Int
  A : Option Addr
  m : Nat
  c : Nat
  b : List Int
def DOp.cells (o : DOp) : List Value := [.int .i64 o.kind, .int .i64 o.i, .int .i64 o.n, .slice o.A o.m o.c]
def DOp.val (o : DOp) : Value := .agg #[.int .i64 o.kind, .int .i64 o.i, .int .i64 o.n, .slice o.A o.m o.c]
def DOp.arr (o : DOp) : Array Value := #[.int .i64 o.kind, .int .i64 o.i, .int .i64 o.n, .slice o.A o.m o.c]
/-- The call's octets lie in blocks of Q, and its numbers are numbers. -/
def DOp.at (w : World) (Q : Nat → Prop) (o : DOp) : Prop := Row w Q o.A o.m o.c (octs o.b) ∧ Octs o.b ∧ I64' o.kind ∧ I64' o.i ∧ I64' o.n
def dops (l : List DOp) : List Value := l.flatMap DOp.cells
def DOps (w : World) (Q : Nat → Prop) (A : Option Addr) (n c : Nat) (l : List DOp) : Prop := RowK w Q 4 A n c (dops l) ∧ ∀ o ∈ l, o.at w Q
theorem DOps.len {w : World} {Q : Nat → Prop} {A : Option Addr} {n c : Nat} {l : List DOp} (h : DOps w Q A n c l) : l.length = n := by
  have := h.1.1
  rw [dops, flat_len _ 4 (fun _ => rfl)] at this
  omega
theorem DOps.keep {w w' : World} {Q : Nat → Prop} {A : Option Addr} {n c : Nat} {l : List DOp} (h : DOps w Q A n c l) (hk : ∀ b, Q b → b < w.heap.size → w'.heap[b]? = w.heap[b]?) : DOps w' Q A n c l :=
  ⟨h.1.keep (by decide) hk, fun o ho => ⟨(h.2 o ho).1.keep hk, (h.2 o ho).2⟩⟩

/-- The octets of k, at block g, with their row at block a. -/
def Bk (w : World) (g a c : Nat) (cur : Array Value) (k : Dk) : Prop :=
  Blk w g 35 #[.slice (some ⟨a, 0, none⟩) k.b.length c, .int .i64 k.fuel, .bool k.dead, .int .i64 k.written] ∧ Blk w a 5 cur ∧ a ≠ g ∧ k.b.length ≤ c ∧ c ≤ 9223372036854775807 ∧ cur.size = c ∧ cur.toList.take k.b.length = octs k.b
theorem Bk.keep {w w' : World} {g a c : Nat} {cur : Array Value} {k : Dk} (h : Bk w g a c cur k) (hg : w'.heap[g]? = w.heap[g]?) (ha : w'.heap[a]? = w.heap[a]?) : Bk w' g a c cur k :=
  ⟨hg.trans h.1, ha.trans h.2.1, h.2.2⟩
theorem Bk.row {w : World} {g a c : Nat} {cur : Array Value} {k : Dk} (h : Bk w g a c cur k) : Row w (· = a) (some ⟨a, 0, none⟩) k.b.length c (octs k.b) := by
  obtain ⟨h1, h2, h3, h4, h5, h6, h7⟩ := h
  refine ⟨octs_len _, h4, h5, .inr ⟨a, 0, rfl, rfl, fun j hj => ?_⟩⟩
  rw [Nat.zero_add, h2.cell j, ← h7, List.getElem?_take, if_pos hj]
  simp
end Go.Proofs.Ytcdllbjhcjpleaa
