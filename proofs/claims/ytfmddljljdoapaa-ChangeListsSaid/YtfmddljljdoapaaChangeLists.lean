/-
  The walk of ChangeLists.
-/
import Derived.Test.YtfmddljljdoapaaChangeAlive
import Derived.Test.YtfmddljljdoapaaChangeRef
import Derived.Deep.DeepCutAuto
import Derived.Deep.Cut
import Derived.Deep.CutRange
namespace Go.Proofs.Ytfmddljljdoapaa
open Go.RowKit
set_option linter.unusedVariables false

theorem few09_any (A : Option Addr) (n c : Nat) (w : World) (hc : n ≤ c) (hcb : c ≤ 9223372036854775807) : Calls Try.prog 13 #[.slice A n c] w fun e w' => e = .returned (.slice A (min n 60) c) ∧ w = w' := by
  rcases Nat.lt_or_ge 60 n with h | h
  · have hs1 : ∀ W, (Instr.slice 39 (.slice A n c) none (some (.int .i64 60)) none).run Try.prog W = .ok (.slice A 60 c) W := fun W => front_runC W A n c 60 (by omega)
    have e : min n 60 = 60 := by omega
    have h' : (60 : Int) < (n : Int) := by omega
    have E := hide e
    clear e
    go_enter Try.func13, Try.ntmps13
    go_wp2
    go_ret
    exact ⟨by rw [E.out]; rfl, rfl⟩
  · have e : min n 60 = n := by omega
    have h' : ¬ ((60 : Int) < (n : Int)) := by omega
    rw [e]
    clear e
    go_enter Try.func13, Try.ntmps13
    go_wp2
    go_ret
    exact ⟨rfl, rfl⟩

/-- The octets of the first j of m. -/
def wantC (m : Nat) (q : List Chg) (j : Nat) : List Int := (m : Int) :: (q.take j).flatMap bytesC
theorem wantC_len (m : Nat) (q : List Chg) (j : Nat) (hj : j ≤ q.length) : (wantC m q j).length = 1 + j * 22 := by
  unfold wantC; rw [List.length_cons, flatC_len, List.length_take]; omega
theorem wantC_step (m : Nat) {q : List Chg} {j : Nat} {x : Chg} (h : q[j]? = some x) : wantC m q (j + 1) = wantC m q j ++ bytesC x := by
  unfold wantC; rw [List.take_add_one, h]; simp
theorem wantC_all (q : List Chg) (m : Nat) (h : q.length = m) : wantC m q m = allC q := by
  unfold wantC allC; rw [List.take_of_length_le (by omega), h]
theorem may_step {q : List Chg} {j : Nat} {x : Chg} (h : q[j]? = some x) (hx : mayC x = true) (hp : ∀ y ∈ q.take j, mayC y = true) : ∀ y ∈ q.take (j + 1), mayC y = true := by
  intro y hy
  rw [List.take_add_one, h] at hy
  rcases List.mem_append.1 hy with hy | hy
  · exact hp y hy
  · simp only [Option.toList_some, List.mem_singleton] at hy
    rw [hy]; exact hx
theorem all_not {q : List Chg} {j : Nat} {x : Chg} (h : q[j]? = some x) (hx : mayC x = false) : allMay q = false := by
  cases hm : allMay q with
  | false => rfl
  | true =>
    have := (allMay_iff q).1 hm x (List.mem_of_getElem? h)
    rw [hx] at this; cases this

set_option maxRecDepth 100000 in
set_option maxHeartbeats 4000000 in
theorem chglists_walk (A : Option Addr) (n c : Nat) (l : List Chg) (B : Option Addr) (nb d : Nat) (b : List Int) (w : World) (h : RowK w (· < w.heap.size) 9 A n c (chgs l)) (hok : ∀ y ∈ l, y.ok) (h2 : Row w (· < w.heap.size) B nb d (octs b)) (ho2 : Octs b) (hnb : nb ≤ 140737488351232) :
    Calls Try.prog 5 #[.slice A n c, .slice B nb d] w fun e w' => e = .returned (.bool true) ∧ Below w.heap.size w w' := by
  obtain ⟨i5, hi, hz0, hz1, hz2⟩ := info_parts info5
  have hl : l.length = n := by have := h.1; rw [chgs_len] at this; omega
  have hfr := h.front (show min n 60 ≤ n by omega)
  rw [chgs_take] at hfr
  have hlq : (l.take (min n 60)).length = min n 60 := by rw [List.length_take, hl]; omega
  have hoq : ∀ y ∈ l.take (min n 60), y.ok := fun y hy => hok y (List.mem_of_mem_take hy)
  have hm60 : min n 60 ≤ 60 := by omega
  have HF := hide (few09_any A n c · h.2.1 h.2.2.1)
  clear h hok hl
  generalize l.take (min n 60) = q at *
  generalize min n 60 = m at *
  have HR := hide hfr
  have HLQ := hide hlq
  have HOQ := hide hoq
  have HALL := hide (fun W (hs : Since w W) => call_any _ A m c q W (hfr.below (by omega) hs (fun _ h _ => h)) hoq (by omega))
  have HLIST := hide (fun W (hs : Since w W) => clist_any _ B nb d b W (h2.below hs (fun _ h _ => h)) ho2 hnb)
  have HCB := hide (fun W (hs : Since w W) => conv_row (h2.below hs (fun _ h _ => h)))
  have HOB := hide ho2
  obtain ⟨N2, HN2⟩ : ∃ N, Hid ((allM q).length = N) := ⟨_, rfl⟩
  obtain ⟨K2, HK2⟩ : ∃ N, Hid (allK q = N) := ⟨_, rfl⟩
  obtain ⟨N3, HN3⟩ : ∃ N, Hid ((listM b).length = N) := ⟨_, rfl⟩
  obtain ⟨K3, HK3⟩ : ∃ N, Hid (listK b = N) := ⟨_, rfl⟩
  rw [HK2.out] at HALL
  rw [HK3.out] at HLIST
  clear hfr hlq hoq h2 ho2
  go_enter Try.func5, Try.ntmps5
  go_wp2_with fail
  refine (alive09 _).mono ?_
  rintro e w1 ⟨rfl, hb1⟩
  have HS1 := hide (show Since w w1 from hb1)
  clear hb1
  go_wp2_with fail
  refine (HF.out _).mono ?_
  rintro e w' ⟨rfl, rfl⟩
  go_wp2_with fail
  refine (HALL.out _ HS1.out).mono ?_
  rintro e w2 hf
  obtain ⟨A2, c2, rfl, hown, hb⟩ := hf.row HN2.out
  have HS2 := hide (Since.next HS1.out hb)
  have HO2 := hide ((own_octs hown).within)
  clear hf hown hb HF HALL
  go_wp2_with fail
  refine (HLIST.out _ HS2.out).mono ?_
  rintro e w3 hf
  obtain ⟨A3, c3, rfl, hown, hb⟩ := hf.row HN3.out
  have hs23 : Since w2 w3 := hb
  have HS3 := hide (Since.trans HS2.out hs23)
  have HO3 := hide (RowK.of_own hown)
  have HP3 := hide (HO2.out.below hs23 (fun _ h _ => h.2))
  clear hf hown hb hs23 HLIST HO2
  go_upto_if 30 with fail
  go_cut [9, 10] (fun s9 s10 wx => Hid (Since w3 wx))
  case first =>
    cases hlc : listC b with
    | some ll =>
      obtain rfl : K3 = 0 := by rw [← HK3.out]; unfold listK; rw [hlc]; rfl
      have hlm : listM b = ll := by unfold listM; rw [hlc]; rfl
      have hn3 := HN3.out
      rw [hlm] at hn3
      have ho3 := HO3.out
      rw [hlm] at ho3
      obtain ⟨e1, e2, e3⟩ := listC_some HOB.out hlc
      have ham : allMay ll = true := (allMay_iff ll).2 fun x hx => (e3 x hx).1
      have hM : allM ll = b := by unfold allM; rw [if_pos ⟨e2, ham⟩, e1]
      have hK : allK ll = 0 := by unfold allK; rw [if_neg (by omega), if_pos ham]
      have HC := hide (call_any _ A3 N3 c3 ll w3 ho3 (fun x hx => (e3 x hx).2) (by omega))
      rw [hM, hK] at HC
      have hcb := HCB.out w3 HS3.out
      obtain ⟨U, HU⟩ : ∃ U, Hid (strOfNums b = U) := ⟨_, rfl⟩
      clear hlc hlm hn3 ho3 e1 e2 e3 ham hM hK hcb
      go_wp2_with fail
      refine HC.out.mono ?_
      rintro e w4 hf
      obtain ⟨A4, c4, rfl, hown, hb⟩ := hf.row (n := b.length) rfl
      have hs34 : Since w3 w4 := hb
      have HS34 := hide hs34
      have hc1 : (convert 27 9 (.slice B nb d)).run Try.prog w4 = .ok (.string U) w4 := HU.out ▸ HCB.out w4 (Since.trans HS3.out hs34)
      have hc4 : (convert 27 9 (.slice A4 b.length c4)).run Try.prog w4 = .ok (.string U) w4 := HU.out ▸ conv_row (own_octs hown)
      clear hf hown hb hs34 HU
      go_wp2
      go_meet
      exact HS34
    | none =>
      obtain rfl : K3 = 16 := by rw [← HK3.out]; unfold listK; rw [hlc]; rfl
      obtain rfl : N3 = 0 := by rw [← HN3.out]; unfold listM; rw [hlc]; rfl
      go_wp2
      go_meet
      exact hide (Since.refl w3)
  case rest =>
    have HS4 := hide (Since.trans HS3.out hcut.out)
    have HP4 := hide (HP3.out.below hcut.out (fun _ h hb => hb))
    have HR4 := hide (HR.out.below (by omega) HS4.out (fun _ h _ => h))
    clear hcut HO3 HP3 HR HN3 HK3 HCB HOB
    by_cases h48 : 48 < m
    · obtain rfl : K2 = 3 := by rw [← HK2.out]; unfold allK; rw [if_pos (by rw [HLQ.out]; exact h48)]
      obtain rfl : N2 = 0 := by rw [← HN2.out]; unfold allM; rw [if_neg (by rw [HLQ.out]; omega)]; rfl
      have h48' : (48 : Int) < (m : Int) := by omega
      clear h48
      go_wp2
      go_ret
      exact ⟨rfl, HS4.out⟩
    · have h48' : ¬ (48 : Int) < (m : Int) := by omega
      have hmc : IntKind.u8.wrap (m : Int) = (m : Int) := by rw [IntKind.wrap_u8]; omega
      go_wp2
      go_loopw [11, 12] (fun v k wr => ∃ (j : Nat), j ≤ m ∧ k = .int .i64 j ∧ Hid (∃ A' c', v = .slice A' (1 + j * 22) c') ∧ Hid (wr.ownsRow wc.heap.size 5 1 v (1 + j * 22) (octs (wantC m q j))) ∧ Hid (∀ y ∈ q.take j, mayC y = true) ∧ Hid (Since wc wr)) (fun _ k _ => m - (intOf k).toNat)
      case atStart => exact ⟨0, Nat.zero_le _, rfl, hide ⟨_, _, rfl⟩, hide (World.ownsRow_lit wc #[.int .u8 (m : Int)] 1 (Nat.le_refl _) (by unfold maxLen; omega) rfl), hide (by simp), hide ((Since.refl wc).alloc _)⟩
      case round =>
        obtain ⟨j, hj, rfl, hv, how, hmy, hbl⟩ := hrel
        obtain ⟨A', c', rfl⟩ := hv.out
        by_cases hlt : j < m
        · obtain ⟨bb, o, x, rfl, -, hb, hx, hat⟩ := chgs_at (HR4.out.below (by omega) hbl.out (fun _ h _ => Nat.lt_of_lt_of_le h HS4.out.size)) hlt
          have hxo : x.ok := HOQ.out x (List.mem_of_getElem? hx)
          obtain ⟨x0, x1, x2, x3, x4, x5, x6, x7, x8⟩ := hat
          have hlt' : (j : Int) < (m : Int) := by omega
          cases hmx : mayC x with
          | false =>
            obtain rfl : K2 = 4 := by rw [← HK2.out]; unfold allK; rw [if_neg (by rw [HLQ.out]; exact h48), all_not hx hmx]; rfl
            obtain rfl : N2 = 0 := by rw [← HN2.out]; unfold allM; rw [if_neg (by rw [all_not hx hmx]; simp)]; rfl
            have HM := hide (fun W => refmayc_any x W)
            rw [hmx] at HM
            obtain ⟨r, s, t, k, a, bq, nn, p, qq⟩ := x
            unfold Chg.val at HM
            go_wp2_with fail
            refine (HM.out _).mono ?_
            rintro e w7 ⟨rfl, hb7⟩
            have HB7 := hide (show Since w w7 from Since.next (Since.trans HS4.out hbl.out) hb7)
            clear hb7 x0 x1 x2 x3 x4 x5 x6 x7 x8
            go_wp2
            go_ret
            exact ⟨rfl, HB7.out⟩
          | true =>
            have HM := hide (fun W => refmayc_any x W)
            rw [hmx] at HM
            have HPT := hide (fun W => refputc_any x hmx hxo.2.2.2.2.2.2.1 W)
            have HST := hide (wantC_step m hx)
            have HMY := hide (may_step hx hmx hmy.out)
            have HLX := hide (bytesC_len x)
            have HAT := hide (show At wr bb (o + j * 9) x from ⟨x0, x1, x2, x3, x4, x5, x6, x7, x8⟩)
            generalize bytesC x = BX at *
            obtain ⟨r, s, t, k, a, bq, nn, p, qq⟩ := x
            unfold Chg.val at HM HPT
            clear hmx hx hxo
            go_wp2_with fail
            refine (HM.out _).mono ?_
            rintro e w7 ⟨rfl, hb7⟩
            have hs7 : Since wr w7 := hb7
            have HO7 := hide (show w7.ownsRow wc.heap.size 5 1 (.slice A' (1 + j * 22) c') (1 + j * 22) (octs (wantC m q j)) from own_below how.out hb7)
            have HS7 := hide (Since.trans hbl.out hs7)
            clear x0 x1 x2 x3 x4 x5 x6 x7 x8
            obtain ⟨x0, x1, x2, x3, x4, x5, x6, x7, x8⟩ := HAT.out.later hb hs7
            clear hb7 hs7
            go_wp2_with fail
            refine (HPT.out _).mono ?_
            rintro e w8 hf
            obtain ⟨A8, c8, rfl, hown, hb8⟩ := hf.row HLX.out
            have HO8 := hide (own_below HO7.out hb8)
            have HS8 := hide (Since.next HS7.out hb8)
            have HX8 := hide (own_octs hown)
            clear hf hown hb8 x0 x1 x2 x3 x4 x5 x6 x7 x8
            go_wp2_with (at_builtin; refine wpList_append_row _ rfl _ _ 27 rfl wc.heap.size 5 i5 (.int .u8 0) 1 Try.underlying27 hi hz0 hz1 hz2 rfl _ (1 + j * 22) _ rfl HO8.out _ A8 22 c8 (octs BX) rfl HX8.out (octs_one _) ?h1 ?h2 ?h3 ?_)
            case h1 => unfold maxLen; omega
            case h2 => omega
            case h3 => exact HS8.out.size
            intro v' w9 hown hgr _
            rw [octs_append, ← HST.out, show 1 + j * 22 + 22 = 1 + (j + 1) * 22 by omega] at hown
            have HS9 := hide (show Since wc w9 from Below.grown HS8.out hgr HS8.out.size (fun g hg => (HO8.out.lt g hg).1))
            have HV9 := hide (own_formK hown)
            have HO9 := hide hown
            clear hown hgr
            go_wp2
            go_roundw
            case rel => exact ⟨j + 1, by omega, by go_num, HV9, HO9, HMY, HS9⟩
            case measure => simp [intOf]; omega
        · obtain rfl : j = m := by omega
          have hall : ∀ y ∈ q, mayC y = true := by
            have := hmy.out
            rwa [List.take_of_length_le (by rw [HLQ.out]; exact Nat.le_refl _)] at this
          have ham := (allMay_iff q).2 hall
          have hM : allM q = allC q := by unfold allM; rw [if_pos ⟨by rw [HLQ.out]; omega, ham⟩]
          obtain rfl : K2 = 0 := by rw [← HK2.out]; unfold allK; rw [if_neg (by rw [HLQ.out]; exact h48), if_pos ham]
          have hlc := listC_allC q hall (fun x hx => (HOQ.out x hx).2.2.2.2.2.2.1) (by rw [HLQ.out]; omega)
          have hlM : listM (allC q) = q := by unfold listM; rw [hlc]; rfl
          have hlK : listK (allC q) = 0 := by unfold listK; rw [hlc]; rfl
          have hoc := allC_octs hall (by rw [HLQ.out]; omega)
          have hN2 : N2 = 1 + j * 22 := by rw [← HN2.out, hM, allC_len, HLQ.out]; omega
          subst hN2
          have hp4 := HP4.out.below hbl.out (fun _ h hb => hb)
          rw [hM] at hp4
          have hw := how.out
          rw [wantC_all q j HLQ.out] at hw
          have HL2 := hide (clist_any _ A2 (1 + j * 22) c2 (allC q) wr hp4 hoc (by omega))
          rw [hlM, hlK] at HL2
          have HP5 := hide hp4.within
          have HW5 := hide ((own_octs hw).within)
          obtain ⟨U, HU⟩ : ∃ U, Hid (strOfNums (allC q) = U) := ⟨_, rfl⟩
          have HR5 := hide (HR4.out.below (by omega) hbl.out (fun _ h _ => Nat.lt_of_lt_of_le h HS4.out.size))
          have hlt' : ¬ (j : Int) < (j : Int) := by omega
          clear hall ham hM hlc hlM hlK hoc hp4 hw hlt
          go_wp2_with fail
          refine HL2.out.mono ?_
          rintro e w7 hf
          obtain ⟨A7, c7, rfl, hown, hb⟩ := hf.row HLQ.out
          have hs7 : Since wr w7 := hb
          have HS7 := hide (Since.trans HS4.out (Since.trans hbl.out hs7))
          have hc1 : (convert 27 9 (.slice A2 (1 + j * 22) c2)).run Try.prog w7 = .ok (.string U) w7 := HU.out ▸ conv_row (HP5.out.below hs7 (fun _ h _ => h.2))
          have hc2 : (convert 27 9 (.slice A' (1 + j * 22) c')).run Try.prog w7 = .ok (.string U) w7 := HU.out ▸ conv_row (HW5.out.below hs7 (fun _ h _ => h.2))
          have HCH := hide (changes_any _ _ A7 A j c7 j c q q w7 (RowK.of_own hown) (HR5.out.below (by omega) hs7 (fun _ _ h => h)))
          rw [decide_eq_true rfl] at HCH
          clear hf hown hb hs7
          go_wp2_with fail
          refine HCH.out.mono ?_
          rintro e w8 ⟨rfl, hb8⟩
          have HB8 := hide (Since.next HS7.out hb8)
          clear hb8
          go_wp2
          go_ret
          exact ⟨rfl, HB8.out⟩
end Go.Proofs.Ytfmddljljdoapaa
