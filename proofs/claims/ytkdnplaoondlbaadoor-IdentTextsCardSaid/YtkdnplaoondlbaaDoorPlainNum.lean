/-
  The contract of the statement's own Parse of a number.
-/
import Derived.Test.YtkdnplaoondlbaaDoorDigits
import Derived.Test.YtkdnplaoondlbaaDoorDecimal
import Derived.PlainAid
import Derived.Lib.Strings
import Derived.Deep.DeepCutAuto
import Derived.Deep.Cut
import Derived.Deep.CutRange
namespace Go.Proofs.YtkdnplaoondlbaaDoor
open Go.RowKit Go.PlainAid
set_option linter.unusedVariables false

/-- What Parse answers: the number whose numeral it is. -/
def PNum (l : List UInt8) (w w' : World) (e : Ending) : Prop :=
  (∀ n, numText l = some n → e = .returned (.tuple #[.int .i64 n, .bool true])) ∧ (numText l = none → e = .returned (.tuple #[.int .i64 0, .bool false])) ∧ w = w'
theorem pnum_no {l : List UInt8} {w w' : World} {e : Ending} (h : numText l = none) (he : e = .returned (.tuple #[.int .i64 0, .bool false])) (hw : w = w') : PNum l w w' e :=
  ⟨(fun n hn => by rw [h] at hn; cases hn), fun _ => he, hw⟩
theorem pnum_yes {l : List UInt8} {w w' : World} {e : Ending} {n : Int} (h : numText l = some n) (he : e = .returned (.tuple #[.int .i64 n, .bool true])) (hw : w = w') : PNum l w w' e :=
  ⟨(fun m hm => by rw [h] at hm; injection hm with hm; rw [← hm]; exact he), (fun hn => by rw [h] at hn; cases hn), hw⟩

theorem txt_bt (l : List UInt8) (k : Nat) : bt (txt l) k = ((l.getD k 0).toNat : Int) := by
  unfold bt
  split
  · rename_i h
    rw [txt_size] at h
    rw [List.getD_eq_getElem?_getD, List.getElem?_eq_getElem h]
    rfl
  · rename_i h
    rw [txt_size] at h
    rw [List.getD_eq_getElem?_getD, List.getElem?_eq_none (by omega)]
    rfl

theorem txt_toList (l : List UInt8) : (txt l).toList = l := by
  rw [ByteArray.toList_eq]
  simp [txt]
theorem txt_extract (l : List UInt8) (i j : Nat) : (txt l).extract i j = txt ((l.take j).drop i) := by
  apply ByteArray.ext
  rw [ByteArray.data_extract]
  simp [txt, List.extract_eq_take_drop, List.drop_take]
/-- The digits of the greatest number of a sign. -/
def topD (neg : Bool) : List UInt8 := if neg then [57, 50, 50, 51, 51, 55, 50, 48, 51, 54, 56, 53, 52, 55, 55, 53, 56, 48, 56] else [57, 50, 50, 51, 51, 55, 50, 48, 51, 54, 56, 53, 52, 55, 55, 53, 56, 48, 55]
theorem topD_val (neg : Bool) : (topD neg).length = 19 ∧ Digs (topD neg) ∧ dval (topD neg) = top neg := by
  cases neg
  · refine ⟨rfl, ?_, rfl⟩
    unfold Digs topD
    decide
  · refine ⟨rfl, ?_, rfl⟩
    unfold Digs topD
    decide
/-- What is refused ahead of the digits being looked at. -/
def early (neg : Bool) (D : List UInt8) : Bool :=
  decide (D = []) || decide (19 < D.length) || (decide (1 < D.length) && decide ((D.getD 0 0).toNat = 48)) || (decide (D.length = 19) && Op.bytesLess (topD neg) D) || (neg && decide (D = [48]))
theorem early_yes {neg : Bool} {D : List UInt8} (h : early neg D = true) : Refused neg D := by
  unfold early at h
  simp only [Bool.or_eq_true, Bool.and_eq_true, decide_eq_true_iff] at h
  rcases h with (((h | h) | ⟨h, h'⟩) | ⟨h, h'⟩) | ⟨h, h'⟩
  · exact .inl h
  · exact .inr (.inl h)
  · refine .inr (.inr (.inl ⟨h, ?_⟩))
    cases D with
    | nil => simp at h
    | cons b D =>
      rw [List.head?_cons]
      congr 1
      exact UInt8.toNat_inj.1 h'
  · by_cases hd : Digs D
    · obtain ⟨t1, t2, t3⟩ := topD_val neg
      rw [less_val _ _ (by rw [t1, h]) t2 hd, decide_eq_true_iff, t3] at h'
      exact .inr (.inr (.inr (.inr (.inl ⟨h, h'⟩))))
    · exact .inr (.inr (.inr (.inl hd)))
  · exact .inr (.inr (.inr (.inr (.inr ⟨h, h'⟩))))
theorem early_no {neg : Bool} {D : List UInt8} (h : early neg D = false) (hd : Digs D) : ¬ Refused neg D := by
  unfold early at h
  simp only [Bool.or_eq_false_iff, Bool.and_eq_false_iff, decide_eq_false_iff_not] at h
  obtain ⟨⟨⟨⟨h1, h2⟩, h3⟩, h4⟩, h5⟩ := h
  rintro (h | h | ⟨h, h'⟩ | h | ⟨h, h'⟩ | ⟨h, h'⟩)
  · exact h1 h
  · exact h2 h
  · rcases h3 with h3 | h3
    · exact h3 h
    · cases D with
      | nil => simp at h
      | cons b D =>
        rw [List.head?_cons] at h'
        injection h' with h'
        exact h3 (by rw [h']; rfl)
  · exact h hd
  · rcases h4 with h4 | h4
    · exact h4 h
    · obtain ⟨t1, t2, t3⟩ := topD_val neg
      rw [less_val _ _ (by rw [t1, h]) t2 hd, decide_eq_false_iff_not, t3] at h4
      exact h4 h'
  · rcases h5 with h5 | h5
    · rw [h] at h5; cases h5
    · exact h5 h'
theorem early_len {neg : Bool} {D : List UInt8} (h : early neg D = false) : 1 ≤ D.length ∧ D.length ≤ 19 := by
  unfold early at h
  simp only [Bool.or_eq_false_iff, Bool.and_eq_false_iff, decide_eq_false_iff_not] at h
  obtain ⟨⟨⟨⟨h1, h2⟩, h3⟩, h4⟩, h5⟩ := h
  refine ⟨?_, by omega⟩
  rcases Nat.eq_zero_or_pos D.length with h0 | h0
  · exact absurd (List.eq_nil_of_length_eq_zero h0) h1
  · exact h0

theorem less_flip : ∀ (x y : List UInt8), (!(Op.bytesLess x y || x == y)) = Op.bytesLess y x
  | [], [] => by simp [Op.bytesLess]
  | [], _ :: _ => by simp [Op.bytesLess]
  | _ :: _, [] => by simp [Op.bytesLess]
  | a :: x, b :: y => by
    have ih := less_flip x y
    rw [Op.bytesLess, Op.bytesLess, ← ih]
    have e1 : (a :: x == b :: y) = (a == b && x == y) := rfl
    rw [e1]
    rcases Nat.lt_trichotomy a.toNat b.toNat with h | h | h
    · have h1 : decide (a < b) = true := decide_eq_true (UInt8.lt_iff_toNat_lt.2 h)
      have h2 : decide (b < a) = false := decide_eq_false fun h' => by have := UInt8.lt_iff_toNat_lt.1 h'; omega
      have h3 : (b == a) = false := beq_eq_false_iff_ne.mpr fun e => by rw [e] at h; omega
      simp [h1, h2, h3]
    · have e : a = b := UInt8.toNat_inj.1 h
      subst e
      simp
    · have h1 : decide (b < a) = true := decide_eq_true (UInt8.lt_iff_toNat_lt.2 h)
      have h2 : decide (a < b) = false := decide_eq_false fun h' => by have := UInt8.lt_iff_toNat_lt.1 h'; omega
      have h3 : (a == b) = false := beq_eq_false_iff_ne.mpr fun e => by rw [e] at h; omega
      simp [h1, h2, h3]
theorem gtr_run (T U : ByteArray) (y : Bool) (h : Op.bytesLess U.toList T.toList = y) (W : World) : (binOp .gtr 9 (.string T) (.string U)).run Tryd.prog W = .ok (.bool y) W := by
  rw [← h, ← less_flip]
  simp [binOp, Op.stringOp]

set_option maxHeartbeats 2000000 in
theorem refnum_go (neg : Bool) (D : List UInt8) (w : World) (hs : neg = false → D.head? ≠ some 45) (hl0 : (signed neg D).length ≤ 9223372036854775807) :
    Calls Tryd.prog 26 #[.string (txt (signed neg D))] w fun e w' => PNum (signed neg D) w w' e := by
  have hl : D.length + (if neg then 1 else 0) ≤ 9223372036854775807 := by cases neg <;> simpa [signed] using hl0
  have hsz : (txt (signed neg D)).size = if neg then D.length + 1 else D.length := by rw [txt_size]; cases neg <;> rfl
  have hb0 : bt (txt (signed neg D)) 0 = if neg then 45 else ((D.getD 0 0).toNat : Int) := by
    rw [txt_bt]
    cases neg <;> rfl
  have hb := get_bt (txt (signed neg D))
  have hh : neg = false → ((D.getD 0 0).toNat : Int) ≠ 45 := fun e h => by
    refine hs e ?_
    cases D with
    | nil => simp at h
    | cons b D =>
      rw [List.head?_cons]
      congr 1
      refine UInt8.toNat_inj.1 ?_
      have h45 : (45 : UInt8).toNat = 45 := rfl
      rw [h45]
      simp only [List.getD_cons_zero] at h
      omega
  have HX := hide (show (txt (signed true D)).extract 1 (D.length + 1) = txt D by
    rw [txt_extract]
    show txt (((45 :: D).take (D.length + 1)).drop 1) = txt D
    rw [List.take_of_length_le (by simp)]
    rfl)
  have HTL := hide (txt_toList (signed neg D))
  obtain ⟨s, hs'⟩ : ∃ s, s = txt (signed neg D) := ⟨_, rfl⟩
  rw [← hs'] at hsz hb0 hb HTL ⊢
  have HS := hide hs'
  have HH := hide hs
  clear hs hs'
  go_enter Tryd.func26, Tryd.ntmps26
  go_upto_region 2 with fail
  go_cut [16] (fun s16 wx => s16 = .bool neg ∧ w = wx)
  case first =>
    cases neg with
    | true =>
      simp only [if_true] at hsz hb0 hl
      go_wp2
      go_meet
      exact ⟨rfl, rfl⟩
    | false =>
      simp only [Bool.false_eq_true, if_false] at hsz hb0
      have hh := hh rfl
      generalize (D.getD 0 0).toNat = d0 at *
      have hd0 : ((d0 : Int) == 45) = false := beq_eq_false_iff_ne.mpr hh
      rcases Nat.eq_zero_or_pos D.length with h0 | h0
      · rw [h0] at hsz
        go_wp2
        go_meet
        exact ⟨rfl, rfl⟩
      · go_wp2
        go_meet
        exact ⟨rfl, rfl⟩
  case rest =>
    obtain ⟨rfl, rfl⟩ := hcut
    go_upto_if 16 with fail
    go_cut [4, 5] (fun s4 s5 wx => s4 = .string (txt D) ∧ s5 = .string (txt (topD neg)) ∧ w = wx)
    case first =>
      cases neg with
      | true =>
        simp only [if_true] at hsz hb0 hl
        go_wp2
        go_meet
        refine ⟨?_, rfl, rfl⟩
        rw [HS.out, HX.out]
      | false =>
        go_wp2
        go_meet
        exact ⟨by rw [HS.out]; rfl, rfl, rfl⟩
    case rest =>
      obtain ⟨rfl, rfl, rfl⟩ := hcut
      have hTs : (txt D).size = D.length := txt_size D
      have hT0 := txt_bt D 0
      have hTb := get_bt (txt D)
      have HTT := hide (txt_toList D)
      have HUU := hide (txt_toList (topD neg))
      have hd0 : (D.getD 0 0).toNat < 256 := UInt8.toNat_lt _
      have HTB := hide (fun k => txt_bt D k)
      generalize txt D = T at *
      generalize txt (topD neg) = U at *
      have HSZ := hide hsz
      have HB0 := hide hb0
      have HGB := hide hb
      have HH2 := hide hh
      clear hh hb hb0 hsz
      go_upto_region 4 with fail
      go_cut [49] (fun s49 wx => s49 = .bool (early neg D) ∧ w = wx)
      case first =>
        rcases Nat.eq_zero_or_pos D.length with h0 | h0
        · have hD : D = [] := List.eq_nil_of_length_eq_zero h0
          have E := hide (show early neg D = true by unfold early; simp [hD])
          have hq : T.toList.isEmpty = true := by rw [HTT.out, hD]; rfl
          clear hd0 hT0 hTs hTb
          go_wp2
          go_meet
          exact ⟨by rw [E.out], rfl⟩
        · have hD : D ≠ [] := fun h => by rw [h] at h0; simp at h0
          have hq : T.toList.isEmpty = false := by
            rw [HTT.out]
            cases D with
            | nil => exact absurd rfl hD
            | cons b D => rfl
          have hTp : (0 : Int) < (T.size : Int) := by omega
          have HTS := hide hTs
          rcases Nat.lt_or_ge 19 D.length with h1 | h1
          · have E := hide (show early neg D = true by unfold early; simp [h1])
            have h1' : (19 : Int) < (T.size : Int) := by omega
            clear hd0 hT0 hTb hD hTs
            go_wp2
            go_meet
            exact ⟨by rw [E.out], rfl⟩
          · have h1' : decide ((19 : Int) < (T.size : Int)) = false := decide_eq_false (by omega)
            have N1 := hide (show decide (D = []) = false from decide_eq_false hD)
            have N2 := hide (show decide (19 < D.length) = false from decide_eq_false (by omega))
            clear hD
            by_cases hc : 1 < D.length ∧ (D.getD 0 0).toNat = 48
            · have E := hide (show early neg D = true by unfold early; rw [decide_eq_true hc.1, decide_eq_true hc.2]; simp)
              obtain ⟨hc1, hc2⟩ := hc
              have hc1' : (1 : Int) < (T.size : Int) := by omega
              rw [hc2] at hT0
              clear hd0 hTs h1
              go_wp2
              go_meet
              exact ⟨by rw [E.out], rfl⟩
            · have n3 : (decide (1 < D.length) && decide ((D.getD 0 0).toNat = 48)) = false := by
                rw [Bool.and_eq_false_iff, decide_eq_false_iff_not, decide_eq_false_iff_not]
                by_cases h : 1 < D.length
                · exact .inr fun h' => hc ⟨h, h'⟩
                · exact .inl h
              have N3 := hide n3
              have hse : (s.toList == [45, 48]) = (neg && decide (D = [48])) := by
                rw [HTL.out, Bool.eq_iff_iff, beq_iff_eq, Bool.and_eq_true, decide_eq_true_iff]
                cases neg with
                | true => simp [signed]
                | false =>
                  simp only [signed, Bool.false_eq_true, if_false, false_and, iff_false]
                  intro h
                  exact HH.out rfl (by rw [h]; rfl)
              have hearly : ∀ b4, (decide (D.length = 19) && Op.bytesLess (topD neg) D) = b4 → early neg D = (b4 || (neg && decide (D = [48]))) := fun b4 h => by
                unfold early
                rw [N1.out, N2.out, N3.out, h]
                simp
              have HE := hide hearly
              clear hearly n3
              have hT2 : (({ data := #[45, 48] } : ByteArray)).toList = [45, 48] := txt_toList [45, 48]
              generalize (neg && decide (D = [48])) = z at *
              rcases Nat.lt_or_ge 1 D.length with hc1 | hc1
              · have hd48 : (((D.getD 0 0).toNat : Int) == 48) = false := beq_eq_false_iff_ne.mpr fun h => hc ⟨hc1, by omega⟩
                have hc1' : (1 : Int) < (T.size : Int) := by omega
                clear hc hd0
                generalize ((D.getD 0 0).toNat : Int) = d0 at *
                by_cases h19 : D.length = 19
                · have h19' : ((T.size : Int) == 19) = true := by rw [hTs, h19]; rfl
                  have E0 := hide (HE.out _ rfl)
                  have hless : Op.bytesLess (topD neg) D = Op.bytesLess U.toList T.toList := by rw [HTT.out, HUU.out]
                  rw [hless, decide_eq_true h19, Bool.true_and] at E0
                  clear HE hless
                  have hgt := gtr_run T U _ rfl
                  generalize Op.bytesLess U.toList T.toList = y at *
                  clear hTs h19 hc1 h1 h0
                  cases y with
                  | true =>
                    go_wp2
                    go_meet
                    exact ⟨by rw [E0.out]; rfl, rfl⟩
                  | false =>
                    go_wp2
                    go_meet
                    exact ⟨by rw [E0.out]; rfl, rfl⟩
                · have h19' : ((T.size : Int) == 19) = false := beq_eq_false_iff_ne.mpr (by omega)
                  have E0 := hide (HE.out false (by rw [decide_eq_false h19]; rfl))
                  clear HE hTs h19 hc1 h1 h0
                  go_wp2
                  go_meet
                  exact ⟨by rw [E0.out]; rfl, rfl⟩
              · have h19' : ((T.size : Int) == 19) = false := beq_eq_false_iff_ne.mpr (by omega)
                have hc1' : decide ((1 : Int) < (T.size : Int)) = false := decide_eq_false (by omega)
                have E0 := hide (HE.out false (by rw [decide_eq_false (by omega)]; rfl))
                clear HE hTs hc1 h1 h0 hd0
                go_wp2
                go_meet
                exact ⟨by rw [E0.out]; rfl, rfl⟩
      case rest =>
        obtain ⟨rfl, rfl⟩ := hcut
        cases he : early neg D with
        | true =>
          have NN := hide (numeral_no (early_yes he) HH.out)
          clear he hT0 hTs hTb hd0
          go_wp2
          go_ret2
          exact pnum_no NN.out rfl rfl
        | false =>
          have hlen := early_len he
          have HE := hide he
          clear he hT0 hd0
          have HTS := hide hTs
          go_wp2
          go_loop [6, 7] (fun v i => ∃ (m j : Nat), j ≤ D.length ∧ m ≤ 9223372036854775808 ∧ v = .int .i64 (-(m : Int)) ∧ i = .int .i64 j ∧ Hid (m = dval (D.take j)) ∧ Hid (Digs (D.take j))) (fun _ i => D.length - (intOf i).toNat)
          case atStart => exact ⟨0, 0, Nat.zero_le _, by omega, rfl, rfl, hide rfl, hide (fun b hb => by simp at hb)⟩
          case round =>
            obtain ⟨m, j, hj, hm, rfl, rfl, hmv, hdg⟩ := hrel
            by_cases hlt : j < D.length
            · have htk : D.take (j + 1) = D.take j ++ [D.getD j 0] := by
                rw [List.take_add_one, List.getElem?_eq_getElem hlt, List.getD_eq_getElem?_getD, List.getElem?_eq_getElem hlt]
                rfl
              have hbj : bt T j = ((D.getD j 0).toNat : Int) := HTB.out j
              have hc8 : (D.getD j 0).toNat < 256 := UInt8.toNat_lt _
              have hjT : (j : Int) < (T.size : Int) := by omega
              have hmem : D.getD j 0 ∈ D := by
                rw [List.getD_eq_getElem?_getD, List.getElem?_eq_getElem hlt]
                exact List.getElem_mem hlt
              have HMEM := hide hmem
              have HTK := hide htk
              clear htk hmem hTs
              generalize D.getD j 0 = ch at *
              generalize hcn : ch.toNat = c at *
              have HCN := hide hcn
              clear hcn
              rcases Nat.lt_or_ge c 48 with h1 | h1
              · have NN := hide (numeral_no (neg := neg) (D := D) (.inr (.inr (.inr (.inl fun hd => by have := hd _ HMEM.out; have := HCN.out; omega)))) HH.out)
                have h1' : (c : Int) < 48 := by omega
                go_wp2
                go_ret2
                exact pnum_no NN.out rfl rfl
              rcases Nat.lt_or_ge 57 c with h2 | h2
              · have NN := hide (numeral_no (neg := neg) (D := D) (.inr (.inr (.inr (.inl fun hd => by have := hd _ HMEM.out; have := HCN.out; omega)))) HH.out)
                have h1' : decide ((c : Int) < 48) = false := decide_eq_false (by omega)
                have h2' : (57 : Int) < (c : Int) := by omega
                go_wp2
                go_ret2
                exact pnum_no NN.out rfl rfl
              · have h1' : decide ((c : Int) < 48) = false := decide_eq_false (by omega)
                have h2' : decide ((57 : Int) < (c : Int)) = false := decide_eq_false (by omega)
                have hv : dval (D.take (j + 1)) = m * 10 + (c - 48) := by rw [HTK.out, dval_snoc, ← hmv.out, HCN.out]
                have hdg2 : Digs (D.take (j + 1)) := by
                  rw [HTK.out]
                  intro b hb
                  rcases List.mem_append.1 hb with hb | hb
                  · exact hdg.out b hb
                  · rw [List.mem_singleton.1 hb, HCN.out]
                    exact ⟨h1, h2⟩
                have hm2 : m * 10 + (c - 48) ≤ 9223372036854775808 := by
                  rw [← hv]
                  rcases Nat.lt_or_ge j 18 with h18 | h18
                  · have a1 := dval_lt hdg2
                    have a2 : 10 ^ (D.take (j + 1)).length ≤ 10 ^ 18 := Nat.pow_le_pow_right (by omega) (by rw [List.length_take]; omega)
                    omega
                  · have hl19 : D.length = 19 := by omega
                    rw [List.take_of_length_le (by omega)] at hdg2 ⊢
                    have := early_no HE.out hdg2
                    have hle : ¬ top neg < dval D := fun h => this (.inr (.inr (.inr (.inr (.inl ⟨hl19, h⟩)))))
                    unfold top at hle
                    split at hle <;> omega
                have hw1 : IntKind.i64.wrap (-(m : Int) * 10) = -(m : Int) * 10 := by rw [IntKind.wrap_i64]; omega
                have hw0 : IntKind.u8.wrap ((c : Int) - 48) = (c : Int) - 48 := by rw [IntKind.wrap_u8]; omega
                have hw2 : IntKind.i64.wrap (-(m : Int) * 10 - ((c : Int) - 48)) = -((m * 10 + (c - 48) : Nat) : Int) := by rw [IntKind.wrap_i64]; omega
                have HV := hide hv
                have HD2 := hide hdg2
                have HM2 := hide hm2
                clear hv hdg2 hmv hdg
                go_wp2
                go_round
                case rel => exact ⟨m * 10 + (c - 48), j + 1, by omega, HM2.out, by go_num, by go_num, hide HV.out.symm, HD2⟩
                case measure => simp [intOf]; omega
            · obtain rfl : j = D.length := by omega
              have hmv := hmv.out
              have hdg := hdg.out
              rw [List.take_length] at hmv hdg
              have hnr := early_no HE.out hdg
              have YY := hide (numeral_yes hnr)
              have hsz := HSZ.out
              have hb0 := HB0.out
              have hgb := HGB.out
              have hle : m ≤ top neg := by
                rcases Nat.lt_or_ge D.length 19 with hl | hl
                · have a1 := dval_lt hdg
                  have a2 : 10 ^ D.length ≤ 10 ^ 18 := Nat.pow_le_pow_right (by omega) (by omega)
                  unfold top
                  split <;> omega
                · have : ¬ top neg < dval D := fun h => hnr (.inr (.inr (.inr (.inr (.inl ⟨by omega, h⟩)))))
                  omega
              rw [← hmv] at YY
              clear hmv hdg hnr hTb
              cases neg with
              | true =>
                simp only [if_true] at hsz hb0
                have hsp : (0 : Int) < (s.size : Int) := by omega
                go_wp2
                go_ret2
                exact pnum_yes (n := -(m : Int)) YY.out rfl rfl
              | false =>
                simp only [Bool.false_eq_true, if_false] at hsz hb0
                have hsp : (0 : Int) < (s.size : Int) := by omega
                have hne := HH2.out rfl
                simp only [top, Bool.false_eq_true, if_false] at hle
                generalize (D.getD 0 0).toNat = d0 at *
                have hd0 : ((d0 : Int) != 45) = true := by simpa using hne
                have hw : IntKind.i64.wrap (m : Int) = (m : Int) := by rw [IntKind.wrap_i64]; omega
                go_wp2
                go_ret2
                exact pnum_yes (n := (m : Int)) YY.out rfl rfl
end Go.Proofs.YtkdnplaoondlbaaDoor
