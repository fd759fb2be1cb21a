/-
  The contract of Decimal: the decimal numeral, as strconv.Itoa writes it.
-/
import Derived.Test.YtdlmpdhbehpmpaaDoorOctC
import Derived.Lib.ItoaNum
import Derived.Lib.ItoaLen
import Derived.Handy
import Derived.Laws.Concat
namespace Go.Proofs.YtdlmpdhbehpmpaaDoor
open Go.RowKit
set_option linter.unusedVariables false

/-- Some octets, as a text. -/
def txt (l : List UInt8) : ByteArray := ⟨l.toArray⟩
theorem txt_app (a b : List UInt8) : txt a ++ txt b = txt (a ++ b) := by
  apply ByteArray.ext
  simp [txt]
theorem txt_size (a : List UInt8) : (txt a).size = a.length := by simp [txt, ByteArray.size]
theorem txt_add (a b : List UInt8) (W : World) (h : a.length + b.length ≤ 9223372036854775807) : (Op.stringOp .add (txt a) (txt b)).run Tryd.prog W = .ok (.string (txt (a ++ b))) W := by
  rw [run_string_add_sum (P := Tryd.prog) (w := W) (txt a) (txt b) (by rw [txt_size, txt_size]; exact h), txt_app]
theorem txt_inj {a b : List UInt8} (h : txt a = txt b) : a = b := by
  have := congrArg (fun s : ByteArray => s.data.toList) h
  simpa [txt] using this
theorem txt_one (d : Nat) (h : d < 10) : strOfNums [((48 + d : Nat) : Int)] = txt [UInt8.ofNat (48 + d)] := by
  simp only [strOfNums, txt, List.map_cons, List.map_nil, Int.toNat_natCast]

theorem conv_one (W : World) (x : Int) (hx : 0 ≤ x ∧ x < 256) : (convert 26 9 (.slice (some ⟨W.heap.size, 0, none⟩) 1 1)).run Tryd.prog (W.alloc (.cells #[.int .u8 x] 5)) = .ok (.string (strOfNums [x])) (W.alloc (.cells #[.int .u8 x] 5)) :=
  conv_row (P := fun _ => True) (l := [x]) ⟨rfl, by omega, by omega, .inr ⟨W.heap.size, 0, rfl, trivial, fun j hj => by
    obtain rfl : j = 0 := by omega
    simp [octs]⟩⟩

/-- The digits that are still to be laid, and those that are. -/
def Left10 (u : Nat) (S D : List UInt8) : Prop := (u = 0 → S = D) ∧ (u ≠ 0 → Lib.decDigits u ++ S = D)
theorem left_step {u : Nat} {S D : List UInt8} (h : Left10 u S D) (hu : u ≠ 0) : Left10 (u / 10) (UInt8.ofNat (48 + u % 10) :: S) D := by
  have hd := h.2 hu
  rw [Lib.decDigits] at hd
  by_cases h10 : u < 10
  · rw [dif_pos h10] at hd
    refine ⟨fun _ => ?_, fun h0 => absurd (Nat.div_eq_of_lt h10) h0⟩
    rw [Nat.mod_eq_of_lt h10]
    simpa using hd
  · rw [dif_neg h10] at hd
    refine ⟨fun h0 => by omega, fun _ => ?_⟩
    rw [← hd]
    simp

theorem left_len {u : Nat} {S D : List UInt8} (h : Left10 u S D) : S.length ≤ D.length := by
  by_cases hu : u = 0
  · rw [h.1 hu]
    exact Nat.le_refl _
  · rw [← h.2 hu, List.length_append]
    omega

theorem refdec_any (n : Int) (w : World) (h0 : -9223372036854775808 ≤ n) (h1 : n ≤ 9223372036854775807) :
    Calls Tryd.prog 18 #[.int .i64 n] w fun e w' => e = .returned (.string (txt (Lib.itoa n))) ∧ Below w.heap.size w w' := by
  by_cases hz : n = 0
  · subst hz
    have E := hide (show txt (Lib.itoa 0) = txt [48] by rw [Lib.itoa, if_neg (by omega), show (0 : Int).toNat = 0 from rfl, Lib.decDigits_one (by omega)]; rfl)
    go_enter Tryd.func18, Tryd.ntmps18
    go_wp2
    go_ret
    exact ⟨by rw [E.out]; rfl, Below.refl _ _⟩
  · have hn0 : (n == 0) = false := beq_eq_false_iff_ne.mpr hz
    have hD := hide (show Left10 n.natAbs [] (Lib.decDigits n.natAbs) from ⟨fun h => absurd h (by omega), fun _ => by simp⟩)
    have hDl : (Lib.decDigits n.natAbs).length ≤ 20 := by rw [Lib.decDigits_length]; exact Lib.nDigits_le20 _ (by omega)
    generalize hDD : Lib.decDigits n.natAbs = D at *
    have HDD := hide hDD
    clear hDD
    go_enter Tryd.func18, Tryd.ntmps18
    go_wp2
    go_loopw [3, 4] (fun s m wr => ∃ (S : List UInt8) (q : Int), -9223372036854775808 ≤ q ∧ q ≤ 9223372036854775807 ∧ s = .string (txt S) ∧ m = .int .i64 q ∧ Hid (Left10 q.natAbs S D) ∧ Hid (Below w.heap.size w wr)) (fun _ m _ => (intOf m).natAbs)
    case atStart => exact ⟨[], n, h0, h1, rfl, rfl, hD, hide (Below.refl _ _)⟩
    case round =>
      obtain ⟨S, q, hq0, hq1, rfl, rfl, hl, hbl⟩ := hrel
      have hsl := left_len hl.out
      have hcs : ¬ 9223372036854775807 < 1 + (txt S).size := by rw [txt_size]; omega
      by_cases hqz : q = 0
      · subst hqz
        have HS := hide (hl.out.1 (by decide))
        by_cases hneg : n < 0
        · have E := hide (show txt (Lib.itoa n) = txt [45] ++ txt S by rw [Lib.itoa, if_pos hneg, HDD.out, HS.out, txt_app]; rfl)
          go_wp2
          go_ret
          exact ⟨by rw [E.out]; rfl, hbl.out⟩
        · have E := hide (show txt (Lib.itoa n) = txt S by rw [Lib.itoa, if_neg hneg, show n.toNat = n.natAbs by omega, HDD.out, HS.out])
          have hng : decide (n < 0) = false := decide_eq_false hneg
          go_wp2
          go_ret
          exact ⟨by rw [E.out]; rfl, hbl.out⟩
      · have hqn : (q == 0) = false := beq_eq_false_iff_ne.mpr hqz
        have hst := hide (left_step hl.out (by omega))
        obtain ⟨d, hd, hd10⟩ : ∃ d : Nat, d = q.natAbs % 10 ∧ d < 10 := ⟨_, rfl, by omega⟩
        have hkc : ∀ W : World, (convert 26 9 (.slice (some ⟨W.heap.size, 0, none⟩) 1 1)).run Tryd.prog (W.alloc (.cells #[.int .u8 (48 + (d : Int))] 5)) = .ok (.string (txt [UInt8.ofNat (48 + d)])) (W.alloc (.cells #[.int .u8 (48 + (d : Int))] 5)) := fun W => by
          have h := conv_one W ((48 + d : Nat) : Int) (by omega)
          rw [txt_one d hd10] at h
          exact h
        rw [← hd] at hst
        obtain ⟨x8, hx8⟩ : ∃ x8 : UInt8, UInt8.ofNat (48 + d) = x8 := ⟨_, rfl⟩
        rw [hx8] at hkc hst
        clear hx8
        have hm : (q.natAbs : Int).tmod 10 = (d : Int) := by
          rw [Int.tmod_eq_emod_of_nonneg (Int.natCast_nonneg _), hd]
          omega
        have hdv : (q.natAbs : Int).tdiv 10 = ((q.natAbs / 10 : Nat) : Int) := by
          rw [Int.tdiv_eq_ediv_of_nonneg (Int.natCast_nonneg _)]
          omega
        have hcs2 : ¬ 9223372036854775807 < (txt [x8]).size + (txt S).size := by rw [txt_size, txt_size]; simp; omega
        have HTX := hide (txt_app [x8] S)
        have HBL2 := hide (hbl.out.alloc hbl.out.size (.cells #[.int .u8 (48 + (d : Int))] 5))
        obtain ⟨U, hU, hUq⟩ : ∃ U : Nat, U = q.natAbs / 10 ∧ U < q.natAbs := ⟨_, rfl, by omega⟩
        rw [← hU] at hst hdv
        have HU := hide hUq
        rcases Int.lt_or_le q 0 with hq | hq
        · have hmod : q.tmod 10 = -(d : Int) := by
            rw [show q = -(q.natAbs : Int) by omega, Int.neg_tmod, hm]
          have hdiv : q.tdiv 10 = -(U : Int) := by
            rw [show q = -(q.natAbs : Int) by omega, Int.neg_tdiv, hdv]
          have hU0 : U ≤ 922337203685477580 := by omega
          have ha : (-(U : Int)).natAbs = U := by omega
          have HA := hide ha
          clear hd hm hdv hU hUq ha
          rcases Nat.eq_zero_or_pos d with h0d | h0d
          · subst h0d
            have hkc0 : ∀ W : World, (convert 26 9 (.slice (some ⟨W.heap.size, 0, none⟩) 1 1)).run Tryd.prog (W.alloc (.cells #[.int .u8 48] 5)) = .ok (.string (txt [x8])) (W.alloc (.cells #[.int .u8 48] 5)) := hkc
            clear hkc
            go_wp2
            go_roundw
            case rel => exact ⟨x8 :: S, -(U : Int), by omega, by omega, by rw [HTX.out]; rfl, rfl, by rw [HA.out]; exact hst, HBL2⟩
            case measure => simp only [intOf]; have := HU.out; have := HA.out; omega
          · have hdneg : -(d : Int) < 0 := by omega
            go_wp2
            go_roundw
            case rel => exact ⟨x8 :: S, -(U : Int), by omega, by omega, by rw [HTX.out]; rfl, rfl, by rw [HA.out]; exact hst, HBL2⟩
            case measure => simp only [intOf]; have := HU.out; have := HA.out; omega
        · have hmod : q.tmod 10 = (d : Int) := by
            rw [show q = (q.natAbs : Int) by omega, hm]
          have hdiv : q.tdiv 10 = (U : Int) := by
            rw [show q = (q.natAbs : Int) by omega, hdv]
          have hU0 : U ≤ 922337203685477580 := by omega
          have hdn : decide ((d : Int) < 0) = false := decide_eq_false (by omega)
          clear hd hm hdv hU hUq
          go_wp2
          go_roundw
          case rel => exact ⟨x8 :: S, (U : Int), by omega, by omega, by rw [HTX.out]; rfl, rfl, by rw [Int.natAbs_natCast]; exact hst, HBL2⟩
          case measure => simp only [intOf, Int.natAbs_natCast]; exact HU.out
end Go.Proofs.YtdlmpdhbehpmpaaDoor
