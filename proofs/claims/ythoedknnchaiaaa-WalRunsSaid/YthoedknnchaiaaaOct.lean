/-
  Contracts of package octet's small functions: a Reader that is good, one that is bad, and none.
-/
import Derived.Test.YthoedknnchaiaaaMem
import Derived.Lib.SliceRun
import Derived.Handy
namespace Go.Proofs.Ythoedknnchaiaaa
open Go.RowKit
set_option linter.unusedVariables false

theorem in_yes (n lo hi : Int) (w : World) (h1 : lo ≤ n) (h2 : n ≤ hi) :
    Calls Try.prog 69 #[.int .i64 n, .int .i64 lo, .int .i64 hi] w fun e w' => e = .returned (.bool true) ∧ w = w' := by
  go_enter Try.func69, Try.ntmps69
  go_wp2
  go_ret
  exact ⟨rfl, rfl⟩
theorem in_no (n lo hi : Int) (w : World) (h : n < lo ∨ hi < n) :
    Calls Try.prog 69 #[.int .i64 n, .int .i64 lo, .int .i64 hi] w fun e w' => e = .returned (.bool false) ∧ w = w' := by
  rcases h with h | h
  · have h' : ¬ (lo ≤ n) := by omega
    go_enter Try.func69, Try.ntmps69
    go_wp2
    go_ret
    exact ⟨rfl, rfl⟩
  · have h' : ¬ (n ≤ hi) := by omega
    by_cases h1 : lo ≤ n
    · go_enter Try.func69, Try.ntmps69
      go_wp2
      go_ret
      exact ⟨rfl, rfl⟩
    · go_enter Try.func69, Try.ntmps69
      go_wp2
      go_ret
      exact ⟨rfl, rfl⟩
theorem wide_yes (n : Int) (w : World) (h1 : 1 ≤ n) (h2 : n ≤ 8) :
    Calls Try.prog 81 #[.int .i64 n] w fun e w' => e = .returned (.bool true) ∧ w = w' := by
  go_enter Try.func81, Try.ntmps81
  go_wp2_with fail
  refine (in_yes _ _ _ _ h1 h2).mono ?_
  rintro e w' ⟨rfl, rfl⟩
  go_wp2
  go_ret
  exact ⟨rfl, rfl⟩
theorem wide_no (n : Int) (w : World) (h : n < 1 ∨ 8 < n) :
    Calls Try.prog 81 #[.int .i64 n] w fun e w' => e = .returned (.bool false) ∧ w = w' := by
  go_enter Try.func81, Try.ntmps81
  go_wp2_with fail
  refine (in_no _ _ _ _ h).mono ?_
  rintro e w' ⟨rfl, rfl⟩
  go_wp2
  go_ret
  exact ⟨rfl, rfl⟩

/-- At g lies a good reader of the octets l; all that is its own lies in blocks of P. -/
def Rdr (w : World) (P : Nat → Prop) (g : Nat) (l : List Int) : Prop :=
  ∃ A n c, Blk w g 115 #[.slice A n c, .bool true] ∧ Row w (fun b => P b ∧ b ≠ g) A n c (octs l) ∧ P g ∧ Octs l
/-- At g lies a bad one. -/
def Bad (w : World) (g : Nat) : Prop := Blk w g 115 #[.slice none 0 0, .bool false]

theorem Rdr.keep {w w' : World} {P : Nat → Prop} {g : Nat} {l : List Int} (h : Rdr w P g l) (hk : ∀ b, P b → b < w.heap.size → w'.heap[b]? = w.heap[b]?) : Rdr w' P g l := by
  obtain ⟨A, n, c, hb, hr, hp, ho⟩ := h
  exact ⟨A, n, c, (hk g hp hb.lt).trans hb, hr.keep fun b hb' hlt => hk b hb'.1 hlt, hp, ho⟩
theorem Rdr.mono {w : World} {P Q : Nat → Prop} {g : Nat} {l : List Int} (h : Rdr w P g l) (hq : ∀ b, P b → Q b) : Rdr w Q g l := by
  obtain ⟨A, n, c, hb, hr, hp, ho⟩ := h
  exact ⟨A, n, c, hb, hr.mono fun b hb' => ⟨hq b hb'.1, hb'.2⟩, hq g hp, ho⟩
theorem Bad.keep {w w' : World} {g : Nat} (h : Bad w g) (hk : w'.heap[g]? = w.heap[g]?) : Bad w' g := hk.trans h

theorem bad_nil (w : World) : Calls Try.prog 92 #[.pointer none] w fun e w' => e = .returned (.bool true) ∧ w = w' := by
  go_enter Try.func92, Try.ntmps92
  go_wp2
  go_ret
  exact ⟨rfl, rfl⟩
theorem bad_any (w : World) (g : Nat) (v : Value) (b : Bool) (h : Blk w g 115 #[v, .bool b]) :
    Calls Try.prog 92 #[.pointer (some ⟨g, 0, none⟩)] w fun e w' => e = .returned (.bool (!b)) ∧ w = w' := by
  have h1 : w.cell? ⟨g, 1, none⟩ = some (.bool b) := h.cell 1
  go_enter Try.func92, Try.ntmps92
  go_wp2
  go_ret
  exact ⟨rfl, rfl⟩

theorem left_nil (w : World) : Calls Try.prog 91 #[.pointer none] w fun e w' => e = .returned (.int .i64 0) ∧ w = w' := by
  go_enter Try.func91, Try.ntmps91
  go_wp2_with fail
  refine (bad_nil _).mono ?_
  rintro e w' ⟨rfl, rfl⟩
  go_wp2
  go_ret
  exact ⟨rfl, rfl⟩
theorem left_bad (w : World) (g : Nat) (h : Bad w g) :
    Calls Try.prog 91 #[.pointer (some ⟨g, 0, none⟩)] w fun e w' => e = .returned (.int .i64 0) ∧ w = w' := by
  go_enter Try.func91, Try.ntmps91
  go_wp2_with fail
  refine (bad_any _ _ _ _ h).mono ?_
  rintro e w' ⟨rfl, rfl⟩
  go_wp2
  go_ret
  exact ⟨rfl, rfl⟩
theorem left_good (w : World) (g : Nat) (A : Option Addr) (n c : Nat) (h : Blk w g 115 #[.slice A n c, .bool true]) :
    Calls Try.prog 91 #[.pointer (some ⟨g, 0, none⟩)] w fun e w' => e = .returned (.int .i64 n) ∧ w = w' := by
  have h0 : w.cell? ⟨g, 0, none⟩ = some (.slice A n c) := h.cell 0
  go_enter Try.func91, Try.ntmps91
  go_wp2_with fail
  refine (bad_any _ _ _ _ h).mono ?_
  rintro e w' ⟨rfl, rfl⟩
  go_wp2
  go_ret
  exact ⟨rfl, rfl⟩

theorem spoil_nil (w : World) : Calls Try.prog 88 #[.pointer none] w fun e w' => e = .returned (.tuple #[]) ∧ w = w' := by
  go_enter Try.func88, Try.ntmps88
  go_wp2
  go_end0
  exact ⟨rfl, rfl⟩
theorem spoil_any (w : World) (g : Nat) (v u : Value) (h : Blk w g 115 #[v, u]) :
    Calls Try.prog 88 #[.pointer (some ⟨g, 0, none⟩)] w fun e w' => e = .returned (.tuple #[]) ∧ Bad w' g ∧ Touch (· = g) w w' := by
  have h0 : w.cell? ⟨g, 0, none⟩ = some v := h.cell 0
  have h1 : w.cell? ⟨g, 1, none⟩ = some u := h.cell 1
  have f0 := h.frozen 0
  have f1 := h.frozen 1
  go_enter Try.func88, Try.ntmps88
  go_wp2
  go_end0
  exact ⟨rfl, (h.store 0 _).store 1 _, ((Touch.refl (· = g) w).setCell (fun _ => rfl) _).setCell (fun _ => rfl) _⟩

theorem info5 : (Try.prog.info? 5).map (fun i => (i.zero, i.size, i.bytes)) = some (some (.int .u8 0), 1, 1) := by kernel_rfl

theorem Row.of_own {w : World} {base : Nat} {e : TypeId} {A : Option Addr} {n c : Nat} {xs : List Value} (h : w.ownsRow base e 1 (.slice A n c) n xs) : Row w (fun b => base ≤ b) A n c xs := by
  obtain ⟨h1, h2⟩ := h
  rcases h2 with ⟨h2, rfl⟩ | ⟨g, cap, cur, hv, hb, hg, hn, hc, hs, ht⟩
  · injection h2 with h3 h4 h5
    subst h3 h5
    exact ⟨by omega, by omega, by omega, .inl rfl⟩
  · injection hv with h3 h4 h5
    subst h3 h5
    unfold maxLen at hc
    refine ⟨by omega, hn, hc, .inr ⟨g, 0, rfl, hb, fun j hj => ?_⟩⟩
    rw [cell_of_row w g _ cur e (0, 0) hg, ← ht, List.getElem?_take, if_pos (by omega)]
    simp

theorem clone_nil (c : Nat) (w : World) :
    Calls Try.prog 76 #[.slice none 0 c] w fun e w' => e = .returned (.slice none 0 0) ∧ w = w' := by
  have hq := fun W => Lib.run_eql_slice_nil (P := Try.prog) W 32 5 none 0 c 0 0 Try.underlying32
  go_enter Try.func76, Try.ntmps76
  go_wp2
  go_ret
  exact ⟨rfl, rfl⟩

theorem clone_some (P : Nat → Prop) (a : Addr) (n c : Nat) (l : List Int) (w : World) (h : Row w P (some a) n c (octs l)) (hn : n ≤ 140737488355328) :
    Calls Try.prog 76 #[.slice (some a) n c] w fun e w' => ∃ A' c', e = .returned (.slice A' n c') ∧ w'.ownsRow w.heap.size 5 1 (.slice A' n c') n (octs l) ∧ Below w.heap.size w w' := by
  obtain ⟨i5, hi, hz0, hz1, hz2⟩ := info_parts info5
  have hq := fun W => Lib.run_eql_slice_nil (P := Try.prog) W 32 5 (some a) n c 0 0 Try.underlying32
  go_enter Try.func76, Try.ntmps76
  have hown : (w.alloc (.cells #[] 5)).ownsRow w.heap.size 5 1 (.slice (some ⟨w.heap.size, 0, none⟩) 0 0) 0 [] := World.ownsRow_lit w #[] 0 (Nat.le_refl _) (by unfold maxLen; omega) rfl
  have hcell : ∀ j u, (octs l)[j]? = some u → (w.alloc (.cells #[] 5)).cell? (a.add j) = some u := fun j u hu => (h.alloc _).add_cell hu
  have HO := hide hown
  have HC := hide hcell
  have hlen : (octs l).length = n * 1 := by rw [h.1]; omega
  have HL := hide hlen
  clear hown hcell hlen
  go_wp2_with (at_builtin; refine wpList_append_own_at _ rfl _ _ 32 rfl w.heap.size 5 i5 (.int .u8 0) 1 1 Try.underlying32 hi hz0 hz1 hz2 rfl (by decide) _ 0 [] rfl HO.out a n c (octs l) rfl HL.out HC.out (octs_one l) ?c1 ?c2 ?c3 ?_)
  case c1 => unfold maxLen; omega
  case c2 => omega
  case c3 => simp
  intro v' w1 hown' hgrow _ hat
  obtain ⟨A', c', rfl⟩ : ∃ A' c', v' = .slice A' n c' := by
    rcases hown'.2 with ⟨rfl, rfl⟩ | ⟨g, cap, cur, rfl, _⟩
    · exact ⟨_, _, rfl⟩
    · exact ⟨_, _, rfl⟩
  have hb : Below w.heap.size w w1 := ((Below.refl _ w).alloc (Nat.le_refl _) _).grown hgrow (by simp) (by simp [Value.ownBlock])
  have HB := hide hb
  have HW := hide hown'
  clear hb hown' hgrow hat
  go_wp2
  go_ret
  exact ⟨A', c', rfl, HW.out, HB.out⟩
end Go.Proofs.Ythoedknnchaiaaa
