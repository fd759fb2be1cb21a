/-
  append, an operation of a region that draws its order; such a region by hand.
-/
import Derived.Test.YthoedknnchaiaaaLater
import Derived.Test.YthoedknnchaiaaaApp
import Derived.Test.YthoedknnchaiaaaOctB
import Derived.Deep.RegionHeld
namespace Go.Proofs.Ythoedknnchaiaaa
open Go.RowKit
set_option linter.unusedVariables false

/-- An operation that yields its value in every world that meets S is taken first; its slot is told. -/
theorem wpAnyH_taken {P : Program} {md : Region.Mode} {ops : Array Oper} {Q : Exit → Act → World → Prop} {S : World → Prop} {i d : Nat} {oi : Oper} {v : Value} {fuel : Nat} {listed : Array Bool} {a : Act} {w : World} (hi : ops[i]? = some oi) (hd : oi.dst = some d)
    (hs : Region.noSelect ops = true) (hf : Region.free md ops listed i = true) (hr : (Region.ready md ops listed).contains i = true)
    (hQ : ∀ c a w, Q (.panic c) (a.put oi.dst v) w → Q (.panic c) a w) (hy : YieldsIf P ops S oi v a) (hS : S w)
    (h : wpAnyH P md ops Q S fuel (listed.setIfInBounds i true) ⟨a.tmps.setIfInBounds d v, a.defers⟩ w) : wpAnyH P md ops Q S (fuel + 1) listed a w :=
  wpAnyH_take hi hs hf hr hQ hy hS (by rw [hd]; exact h)
/-- A region's walk under another condition, which says more. -/
theorem wpAnyH_less {P : Program} {md : Region.Mode} {ops : Array Oper} {Q : Exit → Act → World → Prop} {S S2 : World → Prop} (h : ∀ w, S2 w → S w) : ∀ (fuel : Nat) (listed : Array Bool) (a : Act) (w : World), wpAnyH P md ops Q S2 fuel listed a w → wpAnyH P md ops Q S fuel listed a w
  | 0, _, _, _, hh => hh
  | fuel + 1, _, _, _, hh => ⟨hh.1, fun i hi => wpOp_mono (fun a' w' h' => ⟨h w' h'.1, wpAnyH_less h fuel _ a' w' h'.2⟩) (hh.2 i hi)⟩
theorem since_grown {w0 w w' : World} {ge : Nat} (h : Since w0 w) (hg : w.grownBy w' (some ge)) (hge : w0.heap.size ≤ ge) : Since w0 w' := by
  have ht := Touch.of_grown hg
  exact Below.trans h ((ht.below (B := w0.heap.size) (Below.size h) fun k hk e => by injection e with e; omega))
/-- append to the call's own empty row. -/
theorem append_empty {w : World} {base ge L c : Nat} {P : Nat → Prop} {A : Option Addr} {l : List Int} (hE : w.ownsRow base 5 1 (.slice (some ⟨ge, 0, none⟩) 0 0) 0 []) (hr : Row w P A L c (octs l)) (hL : L ≤ 8192) (hb : base ≤ w.heap.size) (ty : TypeId) :
    ∃ g' cap cur w', (Builtin.append_ #[32, 32] ty #[.slice (some ⟨ge, 0, none⟩) 0 0, .slice A L c]).run Try.prog w = .ok (.slice (some ⟨g', 0, none⟩) L cap) w' ∧ base ≤ g' ∧ Blk w' g' 5 cur ∧ L ≤ cap ∧ cap ≤ 9223372036854775807 ∧ cur.size = cap ∧ cur.toList.take L = octs l ∧ w.grownBy w' (some ge) ∧ (g' = ge ∨ w.heap.size ≤ g') := by
  obtain ⟨i5, hi, hz0, hz1, hz2⟩ := info_parts info5
  have fin : ∀ v' w', w'.ownsRow base 5 1 v' L (octs l) → v' ≠ .slice none 0 0 → ∃ g' cap cur, v' = .slice (some ⟨g', 0, none⟩) L cap ∧ base ≤ g' ∧ Blk w' g' 5 cur ∧ L ≤ cap ∧ cap ≤ 9223372036854775807 ∧ cur.size = cap ∧ cur.toList.take L = octs l := by
    intro v' w' h hn
    rcases h.2 with ⟨h2, _⟩ | ⟨g', cap, cur, h1, h2, h3, h4, h5, h6, h7⟩
    · exact absurd h2 hn
    · unfold maxLen at h5
      exact ⟨g', cap, cur, h1, h2, h3, h4, h5, by omega, by rw [Nat.mul_one] at h7; exact h7⟩
  have hl : (octs l).length = L := hr.1
  cases A with
  | none =>
    obtain ⟨rfl, h0⟩ := hr.none_len
    refine ⟨ge, 0, ?_⟩
    have hrun := run_append_none (P := Try.prog) w base 32 ty 5 i5 1 Try.underlying32 hi (.slice (some ⟨ge, 0, none⟩) 0 0) 0 [] hE c
    rw [h0]
    obtain ⟨g', cap, cur, h1, h2, h3, h4, h5, h6, h7⟩ : ∃ g' cap cur, (Value.slice (some ⟨ge, 0, none⟩) 0 0) = .slice (some ⟨g', 0, none⟩) 0 cap ∧ base ≤ g' ∧ Blk w g' 5 cur ∧ 0 ≤ cap ∧ cap ≤ 9223372036854775807 ∧ cur.size = cap ∧ cur.toList.take 0 = [] := by
      have := fin _ w (by rw [h0]; exact hE) (by simp)
      rwa [h0] at this
    injection h1 with h8 h9 h10
    injection h8 with h8
    injection h8 with h8
    subst h8 h10
    exact ⟨cur, w, hrun, h2, h3, h4, h5, h6, h7, World.grownBy.refl w _, .inl rfl⟩
  | some ad =>
    obtain ⟨v', w', h1, h2, h3, h4, h5⟩ := run_append_own_at (P := Try.prog) w base 32 ty 5 i5 (.int .u8 0) 1 1 Try.underlying32 hi hz0 hz1 hz2 rfl (by decide) _ 0 [] hE ad L c (octs l) (by rw [hl, Nat.mul_one]) (fun j u hu => hr.add_cell hu) (octs_one l) (by unfold maxLen; omega) (by omega) hb
    rw [Nat.zero_add, List.nil_append] at h2
    obtain ⟨g', cap, cur, rfl, g2, g3, g4, g5, g6, g7⟩ := fin _ _ h2 (fun h => by have := (h4.1 h).1; cases this)
    refine ⟨g', cap, cur, w', h1, g2, g3, g4, g5, g6, g7, h3, ?_⟩
    rcases h5 with h | h
    · injection h with h; exact .inl h
    · injection h with h; exact .inr (Nat.le_of_eq h.symm)
/-- append, an operation of a region. -/
theorem append_op {P : Program} {o : Oper} {a : Act} {K : Act → World → Prop} {Q : Exit → Act → World → Prop} {w w' : World} {d : Nat} (s x : Operand) (t : TypeId) (ho : o.op = .call { callee := .builtin .append, args := #[s, x], argTypes := #[t, t] }) (hd : o.dst = some d) {v u r : Value} (hs : a.eval s = v) (hx : a.eval x = u)
    (hr : (Builtin.append_ #[t, t] o.type #[v, u]).run P w = .ok r w') (h : K ⟨a.tmps.setIfInBounds d r, a.defers⟩ w') : o.wp P a w K Q := by
  have h' : K (a.put o.dst r) w' := by rw [hd]; exact h
  unfold Oper.wp execOp
  simp only [ho, resolve, invoke, builtin, Sem.run_bind, Sem.run_pure, Result.andThen_ok, List.map_toArray, List.map_cons, List.map_nil, hs, hx, hr]
  exact h'
end Go.Proofs.Ythoedknnchaiaaa
