/-
  The reference's contracts of layer 10: what is wanted of an outcome.
-/
import Derived.Test.YtdlmpdhbehpmpaaDoorEffM
import Derived.Test.YtdlmpdhbehpmpaaDoorEffAlike
import Derived.Deep.DeepCutAuto
import Derived.Deep.Cut
import Derived.Deep.CutRange
import Derived.Handy
namespace Go.Proofs.YtdlmpdhbehpmpaaDoor
open Go.RowKit
set_option linter.unusedVariables false

def selE (good : Bool) (p : Nat) (x : Eff) : Bool := if p = 0 then nowE x else laterE x && good
def doneE (good : Bool) (l : List Eff) : Nat → List Eff
  | 0 => []
  | p + 1 => doneE good l p ++ l.filter (selE good p)
theorem doneE_two (good : Bool) (l : List Eff) : doneE good l 2 = wantE 0 l good := by
  unfold wantE
  rw [if_pos rfl]
  have e1 : l.filter (selE good 0) = l.filter nowE := by
    congr 1
  have e2 : l.filter (selE good 1) = if good = true then l.filter laterE else [] := by
    cases good with
    | true => rw [if_pos rfl]; congr 1; funext x; simp [selE]
    | false => rw [if_neg (by simp)]; rw [List.filter_eq_nil_iff]; intro x _; simp [selE]
  show ([] ++ l.filter (selE good 0)) ++ l.filter (selE good 1) = _
  rw [List.nil_append, e1, e2]
theorem doneE_len (good : Bool) (l : List Eff) (p : Nat) : (doneE good l p).length ≤ p * l.length := by
  induction p with
  | zero => simp [doneE]
  | succ p ih =>
    unfold doneE
    have := List.length_filter_le (selE good p) l
    rw [List.length_append, Nat.add_mul]
    omega
def partE (good : Bool) (l : List Eff) (p j : Nat) : List Eff := doneE good l p ++ (l.take j).filter (selE good p)
theorem partE_zero (good : Bool) (l : List Eff) (p : Nat) : partE good l p 0 = doneE good l p := by simp [partE]
theorem partE_step {good : Bool} {l : List Eff} {p j : Nat} {x : Eff} (h : l[j]? = some x) : partE good l p (j + 1) = partE good l p j ++ (if selE good p x = true then [x] else []) := by
  unfold partE
  rw [List.take_add_one, h, Option.toList_some, List.filter_append, List.append_assoc]
  congr 2
  by_cases hs : selE good p x = true
  · simp [hs]
  · simp [hs]
theorem partE_all {good : Bool} {l : List Eff} {p n : Nat} (h : l.length = n) : partE good l p n = doneE good l (p + 1) := by
  unfold partE
  rw [List.take_of_length_le (by omega)]
  rfl
theorem two_filters (p : Eff → Bool) (l : List Eff) : l.length = (l.filter p).length + (l.filter fun x => !p x).length := by
  induction l with
  | nil => rfl
  | cons x l ih =>
    rw [List.filter_cons, List.filter_cons, List.length_cons]
    cases hp : p x with
    | true => simp only [if_true, Bool.not_true, Bool.false_eq_true, if_false, List.length_cons]; omega
    | false => simp only [Bool.not_false, if_true, Bool.false_eq_true, if_false, List.length_cons]; omega
theorem sel_not_now {good : Bool} {x : Eff} (h : selE good 1 x = true) : (!nowE x) = true := by
  unfold selE at h
  rw [if_neg (by omega), Bool.and_eq_true] at h
  have h1 := of_decide_eq_true h.1
  have : nowE x = false := decide_eq_false (by omega)
  rw [this]; rfl
theorem partE_len (good : Bool) (l : List Eff) (p j : Nat) (n : Nat) (h : l.length = n) (hp : p < 2) : (partE good l p j).length ≤ n := by
  have hp01 : p = 0 ∨ p = 1 := by omega
  rcases hp01 with rfl | rfl
  · unfold partE doneE
    have h2 := List.length_filter_le (selE good 0) (l.take j)
    rw [List.length_take] at h2
    rw [List.nil_append]
    omega
  · unfold partE
    have e1 : doneE good l 1 = l.filter nowE := by
      show [] ++ l.filter (selE good 0) = _
      rw [List.nil_append]
      congr 1
    rw [e1, List.length_append]
    have h1 := two_filters nowE l
    have h2 : ((l.take j).filter (selE good 1)).length ≤ (l.filter (selE good 1)).length := (List.Sublist.filter (selE good 1) (List.take_sublist j l)).length_le
    have h3 : (l.filter (selE good 1)).length ≤ (l.filter fun x => !nowE x).length := by
      rw [← List.countP_eq_length_filter, ← List.countP_eq_length_filter]
      exact List.countP_mono_left fun x _ hx => sel_not_now hx
    omega
theorem wantE_len (code : Int) (l : List Eff) (good : Bool) : (wantE code l good).length ≤ l.length := by
  by_cases hc : code = 0
  · subst hc
    rw [← doneE_two, ← partE_all (good := good) (l := l) (p := 1) rfl]
    exact partE_len good l 1 _ _ rfl (by omega)
  · unfold wantE; rw [if_neg hc]; simp
theorem kind_cases (k : Int) :
    (decide (1 ≤ k) = false ∧ decide (k ≤ 6) = true ∧ decide (7 ≤ k) = false ∧ decide (k ≤ 11) = true) ∨ (decide (1 ≤ k) = true ∧ decide (k ≤ 6) = true ∧ decide (7 ≤ k) = false ∧ decide (k ≤ 11) = true) ∨
    (decide (1 ≤ k) = true ∧ decide (k ≤ 6) = false ∧ decide (7 ≤ k) = true ∧ decide (k ≤ 11) = true) ∨ (decide (1 ≤ k) = true ∧ decide (k ≤ 6) = false ∧ decide (7 ≤ k) = true ∧ decide (k ≤ 11) = false) := by
  rcases Int.lt_or_le k 1 with h1 | h1
  · exact .inl ⟨decide_eq_false (by omega), decide_eq_true (by omega), decide_eq_false (by omega), decide_eq_true (by omega)⟩
  · rcases Int.lt_or_le 6 k with h2 | h2
    · rcases Int.lt_or_le 11 k with h3 | h3
      · exact .inr (.inr (.inr ⟨decide_eq_true (by omega), decide_eq_false (by omega), decide_eq_true (by omega), decide_eq_false (by omega)⟩))
      · exact .inr (.inr (.inl ⟨decide_eq_true (by omega), decide_eq_false (by omega), decide_eq_true (by omega), decide_eq_true (by omega)⟩))
    · exact .inr (.inl ⟨decide_eq_true (by omega), decide_eq_true (by omega), decide_eq_false (by omega), decide_eq_true (by omega)⟩)
theorem nowE_split (x : Eff) : nowE x = (decide (1 ≤ x.k) && decide (x.k ≤ 6)) := by unfold nowE; rw [Bool.decide_and]
theorem laterE_split (x : Eff) : laterE x = (decide (7 ≤ x.k) && decide (x.k ≤ 11)) := by unfold laterE; rw [Bool.decide_and]
/-- An outcome, in memory of its own. -/
theorem out_cells {w w' : World} {g : Nat} {t : TypeId} {a b : Value} (h : Blk w g t #[a, b]) (hs : Since w w') : w'.cell? ⟨g, 0, none⟩ = some a ∧ w'.cell? ⟨g, 1, none⟩ = some b :=
  ⟨((h.below hs h.lt).cell 0).trans rfl, ((h.below hs h.lt).cell 1).trans rfl⟩

set_option maxRecDepth 100000 in
set_option maxHeartbeats 4000000 in
theorem refwant_any (P : Nat → Prop) (code : Int) (A : Option Addr) (n c : Nat) (l : List Eff) (good : Bool) (w : World) (h : RowK w P 5 A n c (effs l)) (hn : n * 40 ≤ 140737488351232) :
    Calls Tryd.prog 17 #[.agg #[.int .i64 code, .slice A n c], .bool good] w fun e w' => FreshEff w (wantE code l good) w' e := by
  have hl : l.length = n := by have := h.1; rw [effs_len] at this; omega
  obtain ⟨i9, hi, hz0, hz1, hz2⟩ := info_parts infoEff
  obtain ⟨W, hW⟩ : ∃ W, W = w.alloc (.cells #[.int .i64 code, .slice A n c] 42) := ⟨_, rfl⟩
  have hB : Blk W w.heap.size 42 #[.int .i64 code, .slice A n c] := by rw [hW]; exact Blk.new w _ _
  have HB := hide hB
  have HBW := hide (show Below w.heap.size w W by rw [hW]; exact (Below.refl _ w).alloc (Nat.le_refl _) _)
  have HWs := hide (show W.heap.size = w.heap.size + 1 by rw [hW]; simp)
  have HW := hide hW
  have HL := hide hl
  have HR := hide ((h.inb (by omega)).below (by omega) HBW.out (fun _ h _ => h.2))
  have hcap := h.2.1
  have hcb := h.2.2.1
  clear hB hW h hl
  obtain ⟨o0, o1⟩ := out_cells HB.out (Since.refl W)
  rw [HW.out] at o0 o1
  by_cases hc0 : code = 0
  · subst hc0
    rw [← doneE_two]
    go_enter Tryd.func17, Tryd.ntmps17
    go_wp2
    rw [← HW.out]
    go_loopw [5, 6] (fun v k wr => ∃ p : Nat, p ≤ 2 ∧ k = .int .i64 p ∧ Hid (∃ A' c', v = .slice A' (doneE good l p).length c') ∧ Hid (wr.ownsRow W.heap.size 25 5 v (doneE good l p).length (effs (doneE good l p))) ∧ Hid (Since W wr)) (fun _ k _ => 2 - (intOf k).toNat)
    case atStart => exact ⟨0, by omega, rfl, hide ⟨none, 0, rfl⟩, hide ⟨rfl, .inl ⟨rfl, rfl⟩⟩, hide (Since.refl W)⟩
    case round =>
      obtain ⟨p, hp, rfl, hv, how, hbl⟩ := hrel
      obtain ⟨A', c', rfl⟩ := hv.out
      clear o0 o1
      obtain ⟨o0, o1⟩ := out_cells HB.out hbl.out
      by_cases hp2 : p < 2
      · have hdp : decide ((p : Int) < 2) = true := decide_eq_true (by omega)
        rw [← partE_zero] at how
        have HN0 := hide (show (doneE good l p).length = (partE good l p 0).length by rw [partE_zero])
        rw [HN0.out]
        go_wp2
        rename_i wr0
        go_loopw [5, 7] (fun v k wr => ∃ j : Nat, j ≤ n ∧ k = .int .i64 j ∧ Hid (∃ A' c', v = .slice A' (partE good l p j).length c') ∧ Hid (wr.ownsRow W.heap.size 25 5 v (partE good l p j).length (effs (partE good l p j))) ∧ Hid (Since W wr)) (fun _ k _ => n - (intOf k).toNat)
        case atStart => exact ⟨0, by omega, rfl, hide ⟨_, _, rfl⟩, how, hbl⟩
        case round =>
          obtain ⟨j, hj, rfl, hv, how, hbl⟩ := hrel
          obtain ⟨A2, c2, rfl⟩ := hv.out
          clear o0 o1
          obtain ⟨o0, o1⟩ := out_cells HB.out hbl.out
          by_cases hlt : j < n
          · obtain ⟨b, o, x, rfl, -, hb, hx, hat⟩ := effs_at (HR.out.below (by omega) hbl.out (fun _ h _ => Nat.lt_of_lt_of_le h.2 HBW.out.size)) hlt
            have HST := hide (partE_step (good := good) (p := p) hx)
            have HPL := hide (partE_len good l p (j + 1) n HL.out hp2)
            obtain ⟨y0, y1, y2, y3, y4⟩ := hat
            go_upto_region 9 with fail
            have hE := eff_at_new wr x 25
            have hS2 : Since W (wr.alloc (.cells #[.int .i64 x.k, .int .i64 x.a, .int .i64 x.n, .int .i64 x.p, .int .i64 x.q] 25)) := hbl.out.alloc _
            have hO2 := how.out.alloc (.cells #[.int .i64 x.k, .int .i64 x.a, .int .i64 x.n, .int .i64 x.p, .int .i64 x.q] 25)
            generalize wr.alloc (.cells #[.int .i64 x.k, .int .i64 x.a, .int .i64 x.n, .int .i64 x.p, .int .i64 x.q] 25) = w2 at *
            have HO2 := hide hO2
            have HS2 := hide hS2
            obtain ⟨e0, e1, e2, e3, e4⟩ := hE
            simp only [Nat.zero_add] at e0 e1 e2 e3 e4
            clear hO2 hS2 y0 y1 y2 y3 y4 o0 o1 hx how hv
            go_cut [9] (fun s9 wx => s9 = .bool (nowE x) ∧ w2 = wx)
            case first =>
              rcases kind_cases x.k with ⟨d1, d6, d7, d11⟩ | ⟨d1, d6, d7, d11⟩ | ⟨d1, d6, d7, d11⟩ | ⟨d1, d6, d7, d11⟩
              all_goals
                have HN := hide (nowE_split x)
                go_wp2
                go_meet
                exact ⟨by rw [HN.out]; simp [d1, d6], rfl⟩
            case rest =>
              obtain ⟨rfl, rfl⟩ := hcut
              go_upto_region 10 with fail
              go_cut [10] (fun s10 wx => s10 = .bool (laterE x) ∧ w2 = wx)
              case first =>
                rcases kind_cases x.k with ⟨d1, d6, d7, d11⟩ | ⟨d1, d6, d7, d11⟩ | ⟨d1, d6, d7, d11⟩ | ⟨d1, d6, d7, d11⟩
                all_goals
                  have HN := hide (laterE_split x)
                  go_wp2
                  go_meet
                  exact ⟨by rw [HN.out]; simp [d7, d11], rfl⟩
              case rest =>
                obtain ⟨rfl, rfl⟩ := hcut
                go_upto_region 11 with fail
                have hsel : selE good p x = if p = 0 then nowE x else laterE x && good := rfl
                generalize nowE x = nb at *
                generalize laterE x = lb at *
                go_cut [62] (fun s62 wx => s62 = .bool (selE good p x) ∧ w2 = wx)
                case first =>
                  have HSEL := hide hsel
                  clear hsel
                  have hp01 : p = 0 ∨ p = 1 := by omega
                  rcases hp01 with rfl | rfl <;> cases nb <;> cases lb <;> cases good
                  all_goals
                    go_wp2
                    go_meet
                    exact ⟨by rw [HSEL.out]; rfl, rfl⟩
                case rest =>
                  obtain ⟨rfl, rfl⟩ := hcut
                  have hst := HST.out
                  cases hs : selE good p x with
                  | true =>
                    rw [hs, if_pos rfl] at hst
                    have HST2 := hide hst
                    have HLN := hide (show (partE good l p (j + 1)).length = (partE good l p j).length + 1 by rw [hst]; simp)
                    clear hst hs hsel HST
                    have hpl := HPL.out
                    rw [HLN.out] at hpl
                    generalize hN : (partE good l p j).length = N at *
                    go_wp2_with (at_builtin; refine wpList_append_own_at _ rfl _ _ 40 rfl W.heap.size 25 i9 _ 5 40 Tryd.underlying40 hi hz0 hz1 hz2 rfl (by decide) _ N _ rfl (HO2.out.alloc _) ⟨w2.heap.size, 0, none⟩ 1 1 x.cells rfl rfl (cells_new _ _ _) (fun u hu => effs_one [x] u (by simpa [effs] using hu)) ?h1 ?h2 ?h3 ?_)
                    case h1 => unfold maxLen; omega
                    case h2 => omega
                    case h3 => have := HS2.out.size; simp; omega
                    intro v' w3 hown hgr _ _
                    rw [show effs (partE good l p j) ++ x.cells = effs (partE good l p (j + 1)) by rw [HST2.out]; simp [effs]] at hown
                    have HS3 := hide (show Since W w3 from Below.grown (HS2.out.alloc _) hgr (by have := HS2.out.size; simp; omega) (fun g hg => (HO2.out.lt g hg).1))
                    rw [← HLN.out] at hown
                    have HV := hide (own_formK hown)
                    have HO3 := hide hown
                    clear hown hgr e0 e1 e2 e3 e4
                    go_wp2
                    go_roundw
                    case rel => exact ⟨j + 1, by omega, by go_num, HV, HO3, HS3⟩
                    case measure => simp [intOf]; omega
                  | false =>
                    rw [hs, if_neg (by simp), List.append_nil] at hst
                    have HST2 := hide hst
                    clear hst hs hsel HST
                    have HV := hide (show ∃ A' c', Value.slice A2 (partE good l p j).length c2 = .slice A' (partE good l p (j + 1)).length c' by rw [HST2.out]; exact ⟨_, _, rfl⟩)
                    have HO3 := hide (show w2.ownsRow W.heap.size 25 5 (.slice A2 (partE good l p j).length c2) (partE good l p (j + 1)).length (effs (partE good l p (j + 1))) by rw [HST2.out]; exact HO2.out)
                    clear e0 e1 e2 e3 e4
                    go_wp2
                    go_roundw
                    case rel => exact ⟨j + 1, by omega, by go_num, HV, HO3, HS2⟩
                    case measure => simp [intOf]; omega
          · obtain rfl : j = n := by omega
            have HA := hide (partE_all (good := good) (p := p) HL.out)
            have hlt' : ¬ (j : Int) < (j : Int) := by omega
            have HV := hide (show ∃ A' c', Value.slice A2 (partE good l p j).length c2 = .slice A' (doneE good l (p + 1)).length c' by rw [HA.out]; exact ⟨_, _, rfl⟩)
            have HO3 := hide (show wr.ownsRow W.heap.size 25 5 (.slice A2 (partE good l p j).length c2) (doneE good l (p + 1)).length (effs (doneE good l (p + 1))) by rw [← HA.out]; exact how.out)
            go_wp2
            go_roundw
            case rel => exact ⟨p + 1, by omega, by go_num, HV, HO3, hbl⟩
            case measure => simp [intOf]; omega
      · obtain rfl : p = 2 := by omega
        go_wp2
        go_ret
        exact ⟨A', c', rfl, own_baseK how.out (by rw [HWs.out]; omega), HBW.out.trans (Below.mono hbl.out HBW.out.size)⟩
  · have hcn : (code == 0) = false := beq_eq_false_iff_ne.mpr hc0
    have HE := hide (show wantE code l good = [] by unfold wantE; rw [if_neg hc0])
    go_enter Tryd.func17, Tryd.ntmps17
    go_wp2
    go_rounds 1
    all_goals go_wp2
    all_goals go_ret
    all_goals rw [HE.out]
    all_goals rw [HW.out] at HBW
    all_goals exact ⟨none, 0, rfl, ⟨rfl, .inl ⟨rfl, rfl⟩⟩, HBW.out⟩
end Go.Proofs.YtdlmpdhbehpmpaaDoor
