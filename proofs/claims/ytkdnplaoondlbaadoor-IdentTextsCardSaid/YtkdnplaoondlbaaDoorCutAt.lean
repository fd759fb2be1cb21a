/-
  strings.Cut at one octet, at every text (no bound on its length: the library's own contract asks one).
-/
import Derived.Test.YtkdnplaoondlbaaDoorShelf
import Derived.Test.YtkdnplaoondlbaaDoorDecimal
import Derived.Test.YtkdnplaoondlbaaDoorPlainNum
namespace Go.Proofs.YtkdnplaoondlbaaDoor
open Go.RowKit
set_option linter.unusedVariables false

/-- The first place of an octet. -/
theorem byte_at (c : UInt8) : ∀ l : List UInt8, (c ∉ l ∧ Lib.indexByte l c = -1) ∨ ∃ p q, l = p ++ c :: q ∧ c ∉ p ∧ Lib.indexByte l c = (p.length : Int)
  | [] => .inl ⟨by simp, rfl⟩
  | b :: l => by
    by_cases hb : b = c
    · subst hb
      exact .inr ⟨[], l, rfl, by simp, by simp [Lib.indexByte]⟩
    · rcases byte_at c l with ⟨h1, h2⟩ | ⟨p, q, rfl, h1, h2⟩
      · refine .inl ⟨?_, ?_⟩
        · intro h
          rcases List.mem_cons.1 h with h | h
          · exact hb h.symm
          · exact h1 h
        · simp [Lib.indexByte, hb, h2]
      · refine .inr ⟨b :: p, q, rfl, ?_, ?_⟩
        · intro h
          rcases List.mem_cons.1 h with h | h
          · exact hb h.symm
          · exact h1 h
        · have hn : ¬ ((p.length : Int) = -1) := by omega
          simp [Lib.indexByte, hb, h2, hn]

theorem index_one (l : List UInt8) (w : World) :
    Calls Tryd.prog 34 #[.string (txt l), .string ⟨#[46]⟩] w fun e w' => e = .returned (.int .i64 (Lib.indexByte l 46)) ∧ w = w' := by
  have hx := fun W => Tryd.stringslite_IndexByte (txt l) 46 W
  by_cases he : l = [46]
  · have hne : (([46] : List UInt8) == (txt l).toList) = true := by rw [txt_toList, he]; exact beq_self_eq_true _
    have E := hide (show Lib.indexByte l 46 = 0 by rw [he]; rfl)
    clear he hx
    generalize txt l = T at *
    go_enter Tryd.func34, Tryd.ntmps34
    go_wp2
    go_ret
    exact ⟨by rw [E.out]; rfl, rfl⟩
  · have hne : (([46] : List UInt8) == (txt l).toList) = false := by rw [txt_toList]; exact beq_eq_false_iff_ne.mpr fun h => he h.symm
    have hd : (txt l).data.toList = l := by simp [txt]
    rw [hd] at hx
    have HX := hide hx
    clear hx hd he
    generalize txt l = T at *
    go_enter Tryd.func34, Tryd.ntmps34
    go_wp2_with fail
    refine (HX.out _).mono ?_
    rintro e w' ⟨rfl, rfl⟩
    go_wp2
    go_ret
    exact ⟨rfl, rfl⟩

/-- What strings.Cut answers at the octet c. -/
def CutAt (c : UInt8) (l : List UInt8) (e : Ending) : Prop :=
  ∃ p q b, e = .returned (.tuple #[.string (txt p), .string (txt q), .bool b]) ∧ c ∉ p ∧ ((b = true ∧ l = p ++ c :: q) ∨ (b = false ∧ p = l ∧ q = []))
theorem cut_lite (l : List UInt8) (w : World) (hl : l.length ≤ 9223372036854775806) :
    Calls Tryd.prog 30 #[.string (txt l), .string ⟨#[46]⟩] w fun e w' => CutAt 46 l e ∧ Below w.heap.size w w' := by
  rcases byte_at 46 l with ⟨h1, h2⟩ | ⟨p, q, hlq, h1, h2⟩
  · have fin : CutAt 46 l (.returned (.tuple #[.string (txt l), .string (txt []), .bool false])) := ⟨l, [], false, rfl, h1, .inr ⟨rfl, rfl, rfl⟩⟩
    have FIN := hide fin
    have HX := hide (fun W => h2 ▸ index_one l W)
    clear fin h1 h2
    go_enter Tryd.func30, Tryd.ntmps30
    go_wp2_with fail
    refine (HX.out _).mono ?_
    rintro e w' ⟨rfl, rfl⟩
    go_wp2
    go_ret3
    exact ⟨FIN.out, Below.refl _ _⟩
  · have fin : CutAt 46 l (.returned (.tuple #[.string (txt p), .string (txt q), .bool true])) := ⟨p, q, true, rfl, h1, .inl ⟨rfl, hlq⟩⟩
    have FIN := hide fin
    have HX := hide (fun W => h2 ▸ index_one l W)
    have hsz : (txt l).size = l.length := txt_size l
    have hpl : p.length + 1 ≤ l.length := by rw [hlq, List.length_append, List.length_cons]; omega
    have E0 := hide (show (txt l).extract 0 p.length = txt p by rw [txt_extract, hlq]; simp)
    have E1 := hide (show (txt l).extract (p.length + 1) l.length = txt q by
      rw [txt_extract, List.take_of_length_le (Nat.le_refl _)]
      conv => lhs; rw [hlq]
      rw [show p.length + 1 = p.length + 1 from rfl, ← List.drop_drop, List.drop_left]; rfl)
    clear fin h1 h2 hlq
    generalize txt l = T at *
    generalize p.length = n at *
    generalize l.length = m at *
    have hw : IntKind.i64.wrap ((n : Int) + 1) = (n : Int) + 1 := by rw [IntKind.wrap_i64]; omega
    have c5 : (n : Int) + 1 ≤ (m : Int) := by omega
    have d1 : n ≤ m := by omega
    have d2 : n + 1 ≤ m := by omega
    have c1 : (0 : Int) ≤ (n : Int) := by omega
    have c2 : (n : Int) ≤ (T.size : Int) := by omega
    have c3 : (0 : Int) ≤ (n : Int) + 1 := by omega
    have c4 : (n : Int) + 1 ≤ (T.size : Int) := by omega
    go_enter Tryd.func30, Tryd.ntmps30
    go_wp2_with fail
    refine (HX.out _).mono ?_
    rintro e w' ⟨rfl, rfl⟩
    go_wp2
    go_region
    go_wp2
    go_ret3
    rw [E0.out, E1.out]
    exact ⟨FIN.out, ⟨rfl, rfl, rfl, Nat.le_refl _, fun _ _ => rfl⟩⟩
theorem cut_any (l : List UInt8) (w : World) (hl : l.length ≤ 9223372036854775806) :
    Calls Tryd.prog 24 #[.string (txt l), .string ⟨#[46]⟩] w fun e w' => CutAt 46 l e ∧ Below w.heap.size w w' := by
  go_enter Tryd.func24, Tryd.ntmps24
  go_wp2_with fail
  refine (cut_lite l _ hl).mono ?_
  rintro e w' ⟨⟨p, q, b, rfl, h⟩, hb⟩
  have H := hide h
  have HB := hide hb
  clear h hb
  go_wp2
  go_ret3
  exact ⟨⟨p, q, b, rfl, H.out⟩, HB.out⟩
end Go.Proofs.YtkdnplaoondlbaaDoor
