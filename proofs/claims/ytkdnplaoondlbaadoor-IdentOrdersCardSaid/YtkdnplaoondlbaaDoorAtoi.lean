/-
  strconv.Atoi: an int, whatever the text; of a numeral that is not long, its number (the library's contract, laid at this seat: the text Shelf).
-/
import Derived.Test.YtkdnplaoondlbaaDoorItoa
import Derived.Test.YtkdnplaoondlbaaDoorDigits
import Derived.Lib.AtoiTie
import Derived.Lib.AtoiErrMem
import Derived.Lib.AtoiAllCases
namespace Go.Proofs.YtkdnplaoondlbaaDoor
open Go.RowKit
set_option linter.unusedVariables false

theorem decFrom_digs : ∀ (D : List UInt8) (acc : Nat), Digs D → Lib.decFrom acc D = some (D.foldl (fun n b => n * 10 + (b.toNat - 48)) acc)
  | [], acc, _ => rfl
  | b :: D, acc, h => by
    have hb := h b List.mem_cons_self
    simp only [Lib.decFrom, Lib.digitVal, if_pos hb]
    rw [decFrom_digs D _ fun x hx => h x (List.mem_cons_of_mem _ hx)]
    rfl
theorem atoi_dec (u : Nat) (h : u < 10 ^ 18) : Lib.atoiAll (Lib.decDigits u) = .ok (u : Int) := by
  have hd : Digs (Lib.decDigits u) := dec_chars u
  have hne := dec_ne_nil u
  have hl : (Lib.decDigits u).length ≤ 18 := dec_len h (by decide)
  have hv := dval_dec u
  rw [Lib.atoiAll_short _ hl]
  generalize Lib.decDigits u = D at *
  cases D with
  | nil => exact absurd rfl hne
  | cons b D =>
    have hb := hd b List.mem_cons_self
    have h45 : b ≠ 45 := fun e => by subst e; exact absurd hb.1 (by decide)
    have h43 : b ≠ 43 := fun e => by subst e; exact absurd hb.1 (by decide)
    have e := decFrom_digs (b :: D) 0 hd
    have e2 : (b :: D).foldl (fun n b => n * 10 + (b.toNat - 48)) 0 = u := hv
    rw [e2] at e
    simp only [Lib.atoi, Lib.decNat]
    simp only [beq_iff_eq, h45, h43, if_false, List.isEmpty_cons, Bool.false_eq_true, e, Option.map, Lib.NumEnd.ofOption]

/-- What Atoi answers. -/
def Atoied (l : List UInt8) (e : Ending) : Prop :=
  ∃ v x, e = .returned (.tuple #[.int .i64 v, x]) ∧ In64 v ∧ ∀ u : Nat, u < 10 ^ 18 → Lib.itoa (u : Int) = l → v = (u : Int)
theorem itoa_nat (u : Nat) : Lib.itoa (u : Int) = Lib.decDigits u := by
  unfold Lib.itoa
  rw [if_neg (by omega)]
  rfl
theorem atoi_any (l : List UInt8) (w : World) (hg : Good w) (hl : l.length ≤ 281474976710656) :
    Calls Tryd.prog 25 #[.string (txt l)] w fun e w' => Atoied l e ∧ Below w.heap.size w w' := by
  obtain ⟨-, ⟨t2, p2, h2⟩, t3, p3, h3⟩ := hg
  have hd : (txt l).data.toList = l := by simp [txt]
  have hs : (txt l).size = l.length := txt_size l
  have known : ∀ u : Nat, u < 10 ^ 18 → Lib.itoa (u : Int) = l → Lib.atoiAll l = .ok (u : Int) := fun u hu he => by
    rw [← he, itoa_nat]
    exact atoi_dec u hu
  cases h : Lib.atoiAll l with
  | ok v =>
    refine (Tryd.strconv_Atoi_ok (txt l) (by rw [hs]; omega) v (by rw [hd]; exact h) w).mono ?_
    rintro e w' ⟨rfl, hw⟩
    refine ⟨⟨v, _, rfl, Lib.atoiAll_bounds h, fun u hu he => ?_⟩, ?_⟩
    · have := known u hu he
      rw [h] at this
      injection this
    · rcases hw with rfl | ⟨t, rfl⟩
      · exact Below.refl _ _
      · exact Lib.bytesWorld_below _ _ _
  | «syntax» =>
    refine (Tryd.strconv_Atoi_syntax_var (txt l) (by rw [hs]; exact hl) (by rw [hd]; exact h) t3 p3 w h3).mono ?_
    rintro e w' ⟨N, rfl, _, _, hb⟩
    refine ⟨⟨0, _, rfl, ⟨by omega, by omega⟩, fun u hu he => ?_⟩, hb⟩
    have := known u hu he
    rw [h] at this
    cases this
  | range =>
    refine (Tryd.strconv_Atoi_range_var (txt l) (by rw [hs]; exact hl) (by rw [hd]; exact h) t2 p2 w h2).mono ?_
    rintro e w' ⟨N, rfl, _, _, hb⟩
    rw [hd]
    refine ⟨⟨_, _, rfl, Lib.atoiSat_bounds l, fun u hu he => ?_⟩, hb⟩
    have := known u hu he
    rw [h] at this
    cases this
end Go.Proofs.YtkdnplaoondlbaaDoor
