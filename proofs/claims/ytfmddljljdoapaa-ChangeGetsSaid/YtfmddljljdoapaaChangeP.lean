/-
  The program's contracts of layer 9: All, List (the others: ChangeCheck, ChangePut, ChangeTake).
-/
import Derived.Test.YtfmddljljdoapaaChangePut
import Derived.Test.YtfmddljljdoapaaChangeTake
import Derived.Test.YtfmddljljdoapaaOctC
import Derived.Test.YtfmddljljdoapaaApp
namespace Go.Proofs.Ytfmddljljdoapaa
open Go.RowKit
set_option linter.unusedVariables false

theorem own_past {w w' : World} {base : Nat} {e : TypeId} {size : Nat} {v : Value} {n : Nat} {xs : List Value} (h : w.ownsRow base e size v n xs) (hb : Below w.heap.size w w') : w'.ownsRow base e size v n xs :=
  ⟨h.1, h.2.imp id fun ⟨g, cap, cur, hv, hg, hh, r⟩ => ⟨g, cap, cur, hv, hg, (hb.block g (Array.getElem?_eq_some_iff.1 hh).1).trans hh, r⟩⟩

theorem allMay_step {l : List Chg} {j : Nat} {x : Chg} (h : l[j]? = some x) : allMay (l.take (j + 1)) = (allMay (l.take j) && mayC x) := by
  unfold allMay
  rw [List.take_add_one, h]
  simp
theorem allMay_no {l : List Chg} {j : Nat} {x : Chg} (h : l[j]? = some x) (hm : mayC x = false) : allMay l = false := by
  unfold allMay
  rw [← Bool.not_eq_true, List.all_eq_true]
  intro ha
  have := ha x (List.mem_of_getElem? h)
  rw [hm] at this
  cases this
theorem flatC_step {l : List Chg} {j : Nat} {x : Chg} (h : l[j]? = some x) : (l.take (j + 1)).flatMap bytesC = (l.take j).flatMap bytesC ++ bytesC x := by
  rw [List.take_add_one, h]
  simp

set_option maxHeartbeats 4000000 in
theorem call_any (P : Nat → Prop) (A : Option Addr) (n c : Nat) (l : List Chg) (w : World) (h : RowK w P 9 A n c (chgs l)) (ho : ∀ x ∈ l, x.ok) (hn : n ≤ 1000000000000) : Calls Try.prog 14 #[.slice A n c] w fun e w' => FreshE w (allM l) (allK l) w' e := by
  have hl : l.length = n := by have := h.1; rw [chgs_len] at this; omega
  have hcap := h.2.1
  have hcb := h.2.2.1
  by_cases h48 : 48 < n
  · have E1 := hide (show allM l = [] by unfold allM; rw [if_neg (by omega)])
    have E2 := hide (show allK l = 3 by unfold allK; rw [if_pos (by omega)])
    have h48' : (48 : Int) < (n : Int) := by omega
    clear h ho hl h48
    go_enter Try.func14, Try.ntmps14
    go_wp2
    go_ret2
    rw [E1.out, E2.out]
    exact ⟨none, 0, rfl, World.ownsRow_nil _ _ _ _, Below.refl _ _⟩
  · have h48' : ¬ ((48 : Int) < (n : Int)) := by omega
    have HN := hide (show n ≤ 48 by omega)
    have H := hide (h.inb (by omega))
    have HL := hide hl
    have HOK := hide (fun (j : Nat) (x : Chg) (h : l[j]? = some x) => ho x (List.mem_of_getElem? h))
    have HNO := hide (fun (j : Nat) (x : Chg) (h : l[j]? = some x) (hm : mayC x = false) => show allM l = [] ∧ allK l = 4 by
      have := allMay_no h hm
      unfold allM allK
      rw [this]
      refine ⟨if_neg (by simp), ?_⟩
      rw [if_neg (by omega)]; rfl)
    have HYES := hide (fun (hm : allMay (l.take n) = true) => show allM l = inOcts n 1 ++ (l.take n).flatMap bytesC ∧ allK l = 0 by
      rw [List.take_of_length_le (by omega)] at hm ⊢
      unfold allM allK
      rw [if_pos ⟨by omega, hm⟩, if_neg (by omega), if_pos hm]
      refine ⟨?_, rfl⟩
      have : inOcts (n : Int) 1 = [(n : Int)] := by simp [inOcts]; omega
      rw [this]
      unfold allC
      rw [hl]; rfl)
    have HST := hide (fun (j : Nat) (x : Chg) (h : l[j]? = some x) (hm : mayC x = true) (h2 : allMay (l.take j) = true) => show allMay (l.take (j + 1)) = true by rw [allMay_step h, h2, hm]; rfl)
    have HFL := hide (fun (j : Nat) (x : Chg) (h : l[j]? = some x) => flatC_step h)
    have HAL := hide (show ∀ m k, m.length = k → (inOcts (n : Int) 1 ++ m).length = k + 1 from fun m k h => by rw [List.length_append, h, inOcts_len]; omega)
    have hw : IntKind.u64.wrap (n : Int) = (n : Int) := by rw [IntKind.wrap_u64]; omega
    obtain ⟨i5, hi, hz0, hz1, hz2⟩ := info_parts info5
    have HM0 := hide (show allMay (l.take 0) = true by rw [List.take_zero]; rfl)
    have HF0 := hide (show (l.take 0).flatMap bytesC = [] by rw [List.take_zero]; rfl)
    clear h ho hl h48
    go_enter Try.func14, Try.ntmps14
    go_wp2_with fail
    refine (put_yes (fun _ => True) none 0 0 [] n 1 _ (Row.nil _ _ _) (fun n hn => by cases hn) (by omega) (by omega) (by omega) (by omega) (by omega)).mono ?_
    rintro e w1 ⟨A1, d1, rfl, hown, hb⟩
    have HO1 := hide hown
    have HB1 := hide hb
    clear hown hb
    have hle : (([] : List Int) ++ inOcts (n : Int) 1).length = 1 := by simp [inOcts_len]
    rw [hle] at HO1 ⊢
    clear hle
    go_wp2
    go_loopw [18, 4] (fun i s wr => ∃ j : Nat, j ≤ n ∧ i = .int .i64 j ∧ Hid (∃ A' c', s = .slice A' (1 + j * 22) c') ∧ Hid (wr.ownsRow w.heap.size 5 1 s (1 + j * 22) (octs (inOcts n 1 ++ (l.take j).flatMap bytesC))) ∧ Hid (allMay (l.take j) = true) ∧ Hid (Below w.heap.size w wr)) (fun i _ _ => n - (intOf i).toNat)
    case atStart => exact ⟨0, Nat.zero_le _, rfl, hide ⟨A1, d1, by simp⟩, hide (by rw [HF0.out, List.append_nil]; exact HO1.out), HM0, HB1⟩
    case round =>
      obtain ⟨j, hj, rfl, hv, how, hma, hbl⟩ := hrel
      obtain ⟨A', c', rfl⟩ := hv.out
      by_cases hlt : j < n
      · obtain ⟨b, o, x, rfl, -, hb, hx, hat⟩ := chgs_at (H.out.below (by omega) hbl.out (fun _ h _ => h.2)) hlt
        have hXO := HOK.out _ _ hx
        obtain ⟨x0, x1, x2, x3, x4, x5, x6, x7, x8⟩ := hat
        have O0 := hide (how.out.alloc (.cells #[.int .i64 x.r, .int .i64 x.s, .int .i64 x.t, .int .i64 x.k, .int .i64 x.a, .int .i64 x.b, .int .i64 x.n, .int .i64 x.p, .int .i64 x.q] 25))
        have B0 := hide (hbl.out.alloc hbl.out.size (.cells #[.int .i64 x.r, .int .i64 x.s, .int .i64 x.t, .int .i64 x.k, .int .i64 x.a, .int .i64 x.b, .int .i64 x.n, .int .i64 x.p, .int .i64 x.q] 25))
        have HPUT := hide (fun W => cput_any x hXO W)
        unfold Chg.val at HPUT
        cases hm : mayC x with
        | false =>
          have HE := hide (HNO.out _ _ hx hm)
          rw [putM_no hm, putK_no hm] at HPUT
          obtain ⟨xr, xs, xt, xk, xa, xb, xn, xp, xq⟩ := x
          simp only at x0 x1 x2 x3 x4 x5 x6 x7 x8 O0 B0 HPUT
          clear hx hm how hbl hma hXO
          go_wp2_with fail
          refine (HPUT.out _).mono ?_
          rintro e w5 ⟨A5, d5, rfl, -, hs⟩
          have B5 := hide (B0.out.trans (hs.mono B0.out.size))
          clear hs
          go_wp2
          go_ret2
          rw [HE.out.1, HE.out.2]
          exact ⟨none, 0, rfl, World.ownsRow_nil _ _ _ _, B5.out⟩
        | true =>
          have HMS := hide (HST.out _ _ hx hm hma.out)
          have HFS := hide (HFL.out _ _ hx)
          rw [putM_yes hm, putK_yes hm] at HPUT
          have HLN := hide (bytesC_len x)
          generalize bytesC x = BY at *
          obtain ⟨xr, xs, xt, xk, xa, xb, xn, xp, xq⟩ := x
          simp only at x0 x1 x2 x3 x4 x5 x6 x7 x8 O0 B0 HPUT
          clear hx hm how hbl hma hXO
          go_wp2_with fail
          refine (HPUT.out _).mono ?_
          rintro e w5 hf
          obtain ⟨A5, d5, rfl, hown, hs⟩ := hf.row HLN.out
          have O5 := hide (own_past O0.out hs)
          have B5 := hide (B0.out.trans (hs.mono B0.out.size))
          have R5 := hide (Row.of_own hown)
          clear hf hown hs O0 B0 HPUT x0 x1 x2 x3 x4 x5 x6 x7 x8
          go_wp2_with (at_builtin; refine wpList_append_row _ rfl _ _ 27 rfl w.heap.size 5 i5 (.int .u8 0) 1 Try.underlying27 hi hz0 hz1 hz2 rfl _ (1 + j * 22) _ rfl O5.out _ A5 22 d5 (octs BY) rfl R5.out (octs_one _) ?h1 ?h2 ?h3 ?_)
          case h1 => have := HN.out; unfold maxLen; omega
          case h2 => have := HN.out; omega
          case h3 => exact B5.out.size
          intro v' w2 hown hgr hwas
          rw [octs_append, List.append_assoc, ← HFS.out] at hown
          have HB2 := hide (B5.out.grown hgr B5.out.size (fun g hg => (O5.out.lt g hg).1))
          have HV := hide (own_form hown)
          have HO2 := hide hown
          clear hown hgr hwas
          go_wp2
          go_roundw
          case rel => exact ⟨j + 1, by omega, by go_num, hide (by rw [show 1 + (j + 1) * 22 = 1 + j * 22 + 22 by omega]; exact HV.out), hide (by rw [show 1 + (j + 1) * 22 = 1 + j * 22 + 22 by omega]; exact HO2.out), HMS, HB2⟩
          case measure => simp [intOf]; omega
      · obtain rfl : j = n := by omega
        have e := HYES.out hma.out
        have HE := hide e
        have HLE := hide (show (allM l).length = 1 + j * 22 by
          have hl := HL.out
          rw [e.1, List.length_append, inOcts_len, flatC_len, List.length_take, hl]; omega)
        clear e hlt HYES HNO HOK HST HFL
        go_wp2
        go_ret2
        rw [HE.out.2]
        refine ⟨A', c', by rw [HLE.out]; rfl, ?_, hbl.out⟩
        rw [HLE.out, HE.out.1]
        exact how.out

theorem manyC_len (k : Nat) : ∀ (m : List Int) (xs : List Chg), manyC k m = some xs → m.length = 22 * k := by
  induction k with
  | zero =>
    intro m xs h
    unfold manyC at h
    split at h
    · rename_i hm; rw [hm]; rfl
    · cases h
  | succ k ih =>
    intro m xs h
    unfold manyC at h
    split at h
    · rename_i x l h1 h2
      have e1 := (getC_some h1).1
      have e2 := ih _ _ h2
      rw [List.length_take] at e1
      rw [List.length_drop] at e2
      omega
    · cases h
theorem listC_no {b : List Int} (h : b.length = 0 ∨ 48 < b.getD 0 0 ∨ (b.length : Int) ≠ 1 + 22 * b.getD 0 0) (ho : Octs b) : listC b = none := by
  have hz := ho.getD 0
  unfold listC
  split
  · rename_i hc
    cases hm : manyC (b.getD 0 0).toNat (b.drop 1) with
    | none => rfl
    | some xs =>
      have := manyC_len _ _ _ hm
      rw [List.length_drop] at this
      omega
  · rfl
/-- As long as the rest goes on from xs, the whole does. -/
def GoesOn (l : List Int) (k j : Nat) (xs : List Chg) : Prop := listC l = (manyC (k - j) (l.drop (1 + j * 22))).map (xs ++ ·)
theorem goes_start {l : List Int} {k : Nat} (h1 : 1 ≤ l.length) (h2 : l.getD 0 0 = k) (h3 : k ≤ 48) : GoesOn l k 0 [] := by
  unfold GoesOn listC
  rw [if_pos ⟨h1, by omega⟩, h2, Int.toNat_natCast]
  show manyC k (l.drop 1) = _
  simp
theorem goes_end {l : List Int} {k : Nat} {xs : List Chg} (h : GoesOn l k k xs) (hl : l.length = 1 + k * 22) : listM l = xs ∧ listK l = 0 := by
  unfold GoesOn at h
  rw [Nat.sub_self, List.drop_of_length_le (by omega)] at h
  have h : listC l = some xs := by rw [h]; simp [manyC]
  unfold listM listK
  rw [h]
  exact ⟨rfl, rfl⟩
theorem goes_none {l : List Int} {k j : Nat} {xs : List Chg} (h : GoesOn l k j xs) (hj : j < k) (hg : getC ((l.drop (1 + j * 22)).take 22) = none) : listM l = [] ∧ listK l = 16 := by
  unfold GoesOn at h
  obtain ⟨d, hd⟩ : ∃ d, k - j = d + 1 := ⟨k - j - 1, by omega⟩
  rw [hd, manyC, hg] at h
  have h : listC l = none := by rw [h]; rfl
  unfold listM listK
  rw [h]
  exact ⟨rfl, rfl⟩
theorem goes_some {l : List Int} {k j : Nat} {xs : List Chg} {x : Chg} (h : GoesOn l k j xs) (hj : j < k) (hg : getC ((l.drop (1 + j * 22)).take 22) = some x) : GoesOn l k (j + 1) (xs ++ [x]) := by
  unfold GoesOn at h ⊢
  obtain ⟨d, hd⟩ : ∃ d, k - j = d + 1 := ⟨k - j - 1, by omega⟩
  rw [hd, manyC, hg, List.drop_drop] at h
  rw [h, show k - (j + 1) = d by omega, show 1 + (j + 1) * 22 = 1 + j * 22 + 22 by omega]
  cases manyC d (l.drop (1 + j * 22 + 22)) with
  | none => rfl
  | some ys => simp
theorem listMK_no {l : List Int} (h : listC l = none) : listM l = [] ∧ listK l = 16 := by
  unfold listM listK
  rw [h]
  exact ⟨rfl, rfl⟩

set_option maxHeartbeats 4000000 in
theorem clist_any (P : Nat → Prop) (A : Option Addr) (n c : Nat) (l : List Int) (w : World) (h : Row w P A n c (octs l)) (ho : Octs l) (hn : n ≤ 140737488351232) : Calls Try.prog 15 #[.slice A n c] w fun e w' => FreshCE w (listM l) (listK l) w' e := by
  have hl : l.length = n := by rw [← h.1, octs_len]
  have hcap := h.2.1
  have hcb := h.2.2.1
  rcases Nat.eq_zero_or_pos n with h0 | h0
  · have E := hide (listMK_no (listC_no (b := l) (.inl (by omega)) ho))
    subst h0
    clear h ho hl
    go_enter Try.func15, Try.ntmps15
    go_wp2
    go_ret2
    rw [E.out.1, E.out.2]
    exact ⟨none, 0, rfl, World.ownsRow_nil _ _ _ _, Below.refl _ _⟩
  obtain ⟨b, o, rfl, -, hlt, hc⟩ := h.some_ h0
  have c0 := (hc 0 h0).trans (octs_at l 0 (by omega))
  rw [Nat.add_zero] at c0
  have hz := ho.getD 0
  have h0' : ¬ ((n : Int) = 0) := by omega
  by_cases h48 : 48 < l.getD 0 0
  · have E := hide (listMK_no (listC_no (b := l) (.inr (.inl h48)) ho))
    generalize l.getD 0 0 = z at *
    clear h ho hl hc
    go_enter Try.func15, Try.ntmps15
    go_wp2

    go_ret2
    rw [E.out.1, E.out.2]
    exact ⟨none, 0, rfl, World.ownsRow_nil _ _ _ _, Below.refl _ _⟩
  by_cases h22 : (n : Int) = 1 + 22 * l.getD 0 0
  case neg =>
    have E := hide (listMK_no (listC_no (b := l) (.inr (.inr (by rw [hl]; exact h22))) ho))
    generalize l.getD 0 0 = z at *
    have h22b : ((n : Int) != 1 + 22 * z) = true := by simpa using h22
    clear h ho hl hc
    go_enter Try.func15, Try.ntmps15
    go_wp2
    go_ret2
    rw [E.out.1, E.out.2]
    exact ⟨none, 0, rfl, World.ownsRow_nil _ _ _ _, Below.refl _ _⟩
  obtain ⟨k, hk⟩ : ∃ k : Nat, l.getD 0 0 = (k : Int) := ⟨(l.getD 0 0).toNat, by omega⟩
  have hnk : n = 1 + k * 22 := by omega
  obtain ⟨i9, hi, hz0, hz1, hz2⟩ := info_parts infoChg
  have GS := hide (goes_start (l := l) (k := k) (by omega) hk (by omega))
  have GE := hide (fun xs (h : GoesOn l k k xs) => goes_end h (by omega))
  have GN := hide (fun j xs (h : GoesOn l k j xs) (hj : j < k) hg => goes_none h hj hg)
  have GO := hide (fun j xs x (h : GoesOn l k j xs) (hj : j < k) hg => goes_some (x := x) h hj hg)
  have H := hide h.within
  have HO := hide ho
  rw [hk] at c0 h48 h22
  have HK := hide (show k ≤ 48 by omega)
  have HNK := hide hnk
  have HL := hide hl
  clear h ho hl hc hz hnk hk
  have h22c : ((n : Int) != 1 + 22 * (k : Int)) = false := by simpa using h22
  clear h22
  go_enter Try.func15, Try.ntmps15
  go_wp2
  go_loopw [5, 4] (fun i s wr => ∃ (q : Int) (j : Nat) (xs : List Chg), j ≤ k ∧ q = 1 + 22 * (j : Int) ∧ i = .int .i64 q ∧ xs.length = j ∧ Hid (∃ A' c', s = .slice A' j c') ∧ Hid (wr.ownsRow w.heap.size 25 9 s j (chgs xs)) ∧ Hid (GoesOn l k j xs) ∧ Hid (Below w.heap.size w wr)) (fun i _ _ => 1 + 22 * k + 22 - (intOf i).toNat)
  case atStart => exact ⟨1, 0, [], Nat.zero_le _, rfl, rfl, rfl, hide ⟨none, 0, rfl⟩, hide ⟨rfl, .inl ⟨rfl, rfl⟩⟩, GS, hide (Below.refl _ _)⟩
  case round =>
    obtain ⟨q, j, xs, hj, hq, rfl, hxl, hv, how, hgo, hbl⟩ := hrel
    obtain ⟨A', c', rfl⟩ := hv.out
    by_cases hlt : j < k
    · have HQ := hide hq
      have hqn : q < (n : Int) := by have := HNK.out; omega
      have hq1 : 1 ≤ q := by omega
      have hq2 : q ≤ 1100 := by have := HK.out; omega
      have hcut : ∀ W, (Instr.slice 27 (.slice (some ⟨b, o, none⟩) n c) (some (.int .i64 q)) (some (.int .i64 (q + 22))) none).run Try.prog W = .ok (.slice (if c = 1 + j * 22 then some ⟨b, o, none⟩ else (some ⟨b, o, none⟩ : Option Addr).map (·.add (1 + j * 22))) 22 (c - (1 + j * 22))) W := fun W => by
        have hnk := HNK.out
        have := cut_run W (some ⟨b, o, none⟩) n c (1 + j * 22) 22 (by omega)
        rw [show ((1 + j * 22 : Nat) : Int) = q by omega] at this
        exact this
      have hm := (H.out.below hbl.out (fun _ h _ => h.2)).mid (i := 1 + j * 22) (k := 22) (by have hnk := HNK.out; omega)
      generalize (if c = 1 + j * 22 then some (⟨b, o, none⟩ : Addr) else (some ⟨b, o, none⟩ : Option Addr).map (·.add (1 + j * 22))) = A2 at *
      generalize c - (1 + j * 22) = c2 at *
      have HGET := hide (fun W (hr : Row W (fun b => P b ∧ b < w.heap.size) A2 22 c2 (octs ((l.drop (1 + j * 22)).take 22))) => cget_any _ A2 22 c2 _ W hr ((HO.out.drop _).take 22) (by omega))
      have HM := hide hm
      have GN1 := hide (GN.out j xs hgo.out hlt)
      have GO1 := hide (fun x => GO.out j xs x hgo.out hlt)
      generalize (l.drop (1 + j * 22)).take 22 = M at *
      clear hm c0 hq
      cases hg : getC M with
      | none =>
        have HE := hide (GN1.out hg)
        have hvz : valC M = zeroC := by unfold valC; rw [hg]; rfl
        have hkz : getK M = 16 := by unfold getK; rw [hg]; rfl
        rw [hvz, hkz] at HGET
        unfold Chg.val zeroC at HGET
        simp only at HGET
        clear hg hvz hkz how hgo GN1 GO1
        go_wp2_with fail
        refine (HGET.out _ HM.out).mono ?_
        rintro e w5 ⟨rfl, hs⟩
        have B5 := hide (hbl.out.trans (hs.mono hbl.out.size))
        clear hs
        go_wp2
        go_ret2
        rw [HE.out.1, HE.out.2]
        exact ⟨none, 0, rfl, World.ownsRow_nil _ _ _ _, B5.out.alloc B5.out.size _⟩
      | some x =>
        have HE := hide (GO1.out x hg)
        have hvz : valC M = x := by unfold valC; rw [hg]; rfl
        have hkz : getK M = 0 := by unfold getK; rw [hg]; rfl
        rw [hvz, hkz] at HGET
        have HCH := hide (show chgs xs ++ x.cells = chgs (xs ++ [x]) by simp [chgs])
        have HLA := hide (show (xs ++ [x]).length = j + 1 by simp [hxl])
        have HONE := hide (fun u hu => chgs_one [x] u (by simpa [chgs] using hu) : ∀ u ∈ x.cells, u.oneCell' = true)
        have HXC := hide (show x.cells = [.int .i64 x.r, .int .i64 x.s, .int .i64 x.t, .int .i64 x.k, .int .i64 x.a, .int .i64 x.b, .int .i64 x.n, .int .i64 x.p, .int .i64 x.q] from rfl)
        have HXV := hide (show x.val = .agg #[.int .i64 x.r, .int .i64 x.s, .int .i64 x.t, .int .i64 x.k, .int .i64 x.a, .int .i64 x.b, .int .i64 x.n, .int .i64 x.p, .int .i64 x.q] from rfl)
        have HAT := hide (fun W => at_new W x 25)
        rw [HXV.out] at HGET
        unfold At at HAT
        obtain ⟨X, hX⟩ : ∃ X, X = x.cells := ⟨_, rfl⟩
        obtain ⟨Y, hY⟩ : ∃ Y, Y = xs ++ [x] := ⟨_, rfl⟩
        rw [← hX] at HCH HONE HXC
        rw [← hY] at HCH HLA HE
        generalize x.r = xr at *
        generalize x.s = xs' at *
        generalize x.t = xt at *
        generalize x.k = xk at *
        generalize x.a = xa at *
        generalize x.b = xb at *
        generalize x.n = xn at *
        generalize x.p = xp at *
        generalize x.q = xq at *
        clear hg hvz hkz hgo GN1 GO1 hX hY HXV
        go_wp2_with fail
        refine (HGET.out _ HM.out).mono ?_
        rintro e w5 ⟨rfl, hs⟩
        have B5 := hide (hbl.out.trans (hs.mono hbl.out.size))
        have O5 := hide (own_past how.out hs)
        obtain ⟨n0, n1, n2, n3, n4, n5, n6, n7, n8⟩ := HAT.out w5
        simp only [Nat.zero_add] at n0 n1 n2 n3 n4 n5 n6 n7 n8
        have HSZ := hide hs.size
        clear hs how HAT HGET
        go_wp2_with (at_builtin; refine wpList_append_own_at _ rfl _ _ 39 rfl w.heap.size 25 i9 _ 9 72 Try.underlying39 hi hz0 hz1 hz2 rfl (by decide) _ j _ rfl ((O5.out.alloc _).alloc _) ⟨w5.heap.size + 1, 0, none⟩ 1 1 X rfl (by rw [HXC.out]; rfl) (by rw [HXC.out]; intro jj u hu; have := cells_new (w5.alloc (.cells #[.int .i64 xr, .int .i64 xs', .int .i64 xt, .int .i64 xk, .int .i64 xa, .int .i64 xb, .int .i64 xn, .int .i64 xp, .int .i64 xq] 25)) #[.int .i64 xr, .int .i64 xs', .int .i64 xt, .int .i64 xk, .int .i64 xa, .int .i64 xb, .int .i64 xn, .int .i64 xp, .int .i64 xq] 25 jj u hu; rw [show (w5.alloc (.cells #[.int .i64 xr, .int .i64 xs', .int .i64 xt, .int .i64 xk, .int .i64 xa, .int .i64 xb, .int .i64 xn, .int .i64 xp, .int .i64 xq] 25)).heap.size = w5.heap.size + 1 by simp] at this; exact this) HONE.out ?h1 ?h2 ?h3 ?_)
        case h1 => unfold maxLen; omega
        case h2 => omega
        case h3 => have := B5.out.size; simp; omega
        intro v' w2 hown hgr hwas hnew
        rw [HCH.out] at hown
        have HB2 := hide (((B5.out.alloc B5.out.size _).alloc (by have := B5.out.size; simp; omega) _).grown hgr (by have := B5.out.size; simp; omega) (fun g hg => (O5.out.lt g hg).1))
        have HV := hide (own_formK hown)
        have HO2 := hide hown
        clear hown hgr hwas hnew n0 n1 n2 n3 n4 n5 n6 n7 n8
        go_wp2
        go_roundw
        case rel => exact ⟨q + 22, j + 1, Y, by omega, by have := HQ.out; omega, by go_num, HLA.out, HV, HO2, HE, HB2⟩
        case measure => have := HNK.out; simp [intOf]; omega
    · obtain rfl : j = k := by omega
      have E := hide (GE.out xs hgo.out)
      have hqn : ¬ (q < (n : Int)) := by have := HNK.out; omega
      clear hq
      clear GE GN GO GS hgo hlt
      go_wp2
      go_ret2
      rw [E.out.1, E.out.2]
      subst hxl
      exact ⟨A', c', rfl, how.out, hbl.out⟩
end Go.Proofs.Ytfmddljljdoapaa
