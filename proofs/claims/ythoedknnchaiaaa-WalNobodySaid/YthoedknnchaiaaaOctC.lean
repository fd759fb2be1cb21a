/-
  More words on readers and octets: octets as a text, a slice cut, what a reader tells.
-/
import Derived.Test.YthoedknnchaiaaaOctPut
import Derived.Laws.BytesArg
namespace Go.Proofs.Ythoedknnchaiaaa
open Go.RowKit
set_option linter.unusedVariables false

theorem conv_row {w : World} {P : Nat → Prop} {A : Option Addr} {n c : Nat} {l : List Int} (h : Row w P A n c (octs l)) :
    (convert 32 9 (.slice A n c)).run Try.prog w = .ok (.string (strOfNums l)) w := by
  rcases Nat.eq_zero_or_pos n with h0 | h0
  · subst h0
    have hl : l = [] := octs_nil (List.eq_nil_of_length_eq_zero h.1)
    subst hl
    cases A with
    | none => exact run_convert_bytes_nil w _ _ Try.underlying32 Try.underlying5 0 c _ Try.underlying9
    | some a =>
      rw [run_convert_bytes_string w _ _ _ _ 0 c Try.underlying32 Try.underlying5 Try.underlying9, run_bytesToString w a 0 c [] (by simpa using run_loadCells_list (P := Try.prog) w a [] (by simp))]
      rfl
  · obtain ⟨b, o, rfl, _, _, hc⟩ := h.some_ h0
    have hl : l.length = n := by rw [← h.1, octs_len]
    exact run_convert_bytes_arg w _ _ Try.underlying32 Try.underlying5 b o n c l hl (fun i hi => (hc i hi).trans (octs_at l i (by omega))) _ Try.underlying9

/-- b[at:at+n] -/
theorem cut_run (w : World) (A : Option Addr) (n c i k : Nat) (hik : i + k ≤ c) :
    (Instr.slice 32 (.slice A n c) (some (.int .i64 (i : Int))) (some (.int .i64 ((i : Int) + k))) none).run Try.prog w = .ok (.slice (if c = i then A else A.map (·.add i)) k (c - i)) w := by
  have h := run_slice_lh (P := Try.prog) (w := w) 32 A n c (by kernel_rfl) .i64 .i64 (i : Int) ((i : Int) + k) (by omega) (by omega) (by omega)
  rw [h]
  have hs : (sizeOf (Try.prog.elem 32)).run Try.prog w = .ok 1 w := by kernel_rfl
  rw [hs]
  have e : ((i : Int) + k).toNat = i + k := by omega
  simp [Result.andThen, sliced, e]
theorem Row.mid {w : World} {P : Nat → Prop} {A : Option Addr} {n c : Nat} {l : List Int} (h : Row w P A n c (octs l)) {i k : Nat} (hik : i + k ≤ n) :
    Row w P (if c = i then A else A.map (·.add i)) k (c - i) (octs ((l.drop i).take k)) := by
  have h1 := (h.back (k := i) (by omega)).front (k := k) (by omega)
  rwa [octs_drop, octs_take] at h1

theorem bad_rdr (w : World) (P : Nat → Prop) (g : Nat) (l : List Int) (h : Rdr w P g l) :
    Calls Try.prog 92 #[.pointer (some ⟨g, 0, none⟩)] w fun e w' => e = .returned (.bool false) ∧ w = w' := by
  obtain ⟨A, n, c, hb, _⟩ := h
  exact bad_any w g _ true hb
theorem left_rdr (w : World) (P : Nat → Prop) (g : Nat) (l : List Int) (q : Int) (h : Rdr w P g l) (hq : q = l.length) :
    Calls Try.prog 91 #[.pointer (some ⟨g, 0, none⟩)] w fun e w' => e = .returned (.int .i64 q) ∧ w = w' := by
  obtain ⟨A, n, c, hb, hr, _⟩ := h
  obtain rfl : n = l.length := by rw [← hr.1, octs_len]
  subst hq
  exact left_good w g A _ c hb
theorem Row.within {w : World} {P : Nat → Prop} {A : Option Addr} {n c : Nat} {xs : List Value} (h : Row w P A n c xs) : Row w (fun b => P b ∧ b < w.heap.size) A n c xs := by
  refine ⟨h.1, h.2.1, h.2.2.1, ?_⟩
  rcases Nat.eq_zero_or_pos n with h0 | h0
  · exact .inl h0
  · obtain ⟨b, o, e, hp, hlt, hc⟩ := h.some_ h0
    exact .inr ⟨b, o, e, ⟨hp, hlt⟩, hc⟩
theorem Rdr.within {w : World} {P : Nat → Prop} {g : Nat} {l : List Int} (h : Rdr w P g l) : Rdr w (fun b => P b ∧ b < w.heap.size) g l := by
  obtain ⟨A, n, c, hb, hr, hp, ho⟩ := h
  exact ⟨A, n, c, hb, hr.within.mono fun b h => ⟨⟨h.1.1, h.2⟩, h.1.2⟩, ⟨hp, hb.lt⟩, ho⟩
theorem own_below {w w' : World} {base : Nat} {e : TypeId} {size : Nat} {v : Value} {n : Nat} {xs : List Value} (h : w.ownsRow base e size v n xs) (hb : Below w.heap.size w w') : w'.ownsRow base e size v n xs :=
  ⟨h.1, h.2.imp id fun ⟨g, cap, cur, hv, hg, hh, r⟩ => ⟨g, cap, cur, hv, hg, (hb.block g (Array.getElem?_eq_some_iff.1 hh).1).trans hh, r⟩⟩

theorem Rdr.own_lt {w : World} {P : Nat → Prop} {g : Nat} {l : List Int} (h : Rdr w P g l) : P g := by
  obtain ⟨A, n, c, _, _, hp, _⟩ := h
  exact hp
theorem Rdr.touch {w w' : World} {P S : Nat → Prop} {g : Nat} {l : List Int} (h : Rdr w P g l) (ht : Touch S w w') (hd : ∀ b, P b → ¬ S b) : Rdr w' P g l :=
  h.keep fun b hb hlt => ht.block b hlt (hd b hb)
theorem quiet_same {P : Program} {f : FuncId} {args : Array Value} {w : World} {n : Nat} {v : Value}
    (h : Calls P f args (w.drewN n) fun e w' => e = .returned v ∧ w.drewN n = w') : Calls P f args (w.drewN n) fun e w'' => e = .returned v ∧ ∃ m, w'' = w.drewN m :=
  h.mono fun _ _ ⟨he, hm⟩ => ⟨he, n, hm.symm⟩
theorem front_run (w : World) (A : Option Addr) (n c k : Nat) (hk : k ≤ c) :
    (Instr.slice 32 (.slice A n c) none (some (.int .i64 (k : Int))) none).run Try.prog w = .ok (.slice A k c) w := by
  have h := run_slice_h (P := Try.prog) (w := w) 32 A n c (by kernel_rfl) .i64 (k : Int) (by omega) (by omega)
  rw [h]
  have hs : (sizeOf (Try.prog.elem 32)).run Try.prog w = .ok 1 w := by kernel_rfl
  rw [hs]
  cases A <;> simp [Result.andThen, sliced, Addr.add_zero']

end Go.Proofs.Ythoedknnchaiaaa
