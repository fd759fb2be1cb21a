/-
  The contracts of package ident: May, MayKey, Less, LessKey, Other, Text, TextKey, Parse.
-/
import Derived.Test.YtkdnplaoondlbaaDoorIdentC
import Derived.Test.YtkdnplaoondlbaaDoorIdentText
import Derived.Test.YtkdnplaoondlbaaDoorIdentParse
import Derived.Test.YtkdnplaoondlbaaDoorItoa
import Derived.Test.YtkdnplaoondlbaaDoorAtoi
import Derived.Test.YtkdnplaoondlbaaDoorCutAt
namespace Go.Proofs.YtkdnplaoondlbaaDoor
open Go.RowKit
set_option linter.unusedVariables false

theorem within_any (n lo hi : Int) (w : World) :
    Calls Tryd.prog 23 #[.int .i64 n, .int .i64 lo, .int .i64 hi] w fun e w' => e = .returned (.bool (decide (lo ≤ n ∧ n ≤ hi))) ∧ w = w' := by
  by_cases h : lo ≤ n ∧ n ≤ hi
  · have E := hide (show decide (lo ≤ n ∧ n ≤ hi) = true from decide_eq_true h)
    have H := hide h
    clear h
    go_enter Tryd.func23, Tryd.ntmps23
    go_wp2_with fail
    refine (in_yes n lo hi _ H.out.1 H.out.2).mono ?_
    rintro e w' ⟨rfl, rfl⟩
    go_wp2
    go_ret
    exact ⟨by rw [E.out]; rfl, rfl⟩
  · have E := hide (show decide (lo ≤ n ∧ n ≤ hi) = false from decide_eq_false h)
    have H := hide (show n < lo ∨ hi < n by omega)
    clear h
    go_enter Tryd.func23, Tryd.ntmps23
    go_wp2_with fail
    refine (in_no n lo hi _ H.out).mono ?_
    rintro e w' ⟨rfl, rfl⟩
    go_wp2
    go_ret
    exact ⟨by rw [E.out]; rfl, rfl⟩

theorem mayId_two (r s : Int) : mayId r s = (decide (0 ≤ r ∧ r ≤ 3) && decide (1 ≤ s ∧ s ≤ 65535)) := by
  unfold mayId
  rw [← Bool.decide_and]
  exact decide_eq_decide.2 ⟨fun h => by omega, fun h => by omega⟩

theorem pmay_any (r s : Int) (w : World) : Calls Tryd.prog 7 #[idOf r s] w fun e w' => e = .returned (.bool (mayId r s)) ∧ Below w.heap.size w w' := by
  have HB := hide ((Below.refl w.heap.size w).alloc (Nat.le_refl _) (.cells #[.int .i64 r, .int .i64 s] 23))
  have HE := hide (mayId_two r s)
  unfold idOf
  cases h1 : decide (0 ≤ r ∧ r ≤ 3) with
  | false =>
    have E := hide (show mayId r s = false by rw [HE.out, h1]; rfl)
    go_enter Tryd.func7, Tryd.ntmps7
    go_wp2_with fail
    refine (within_any r 0 3 _).mono ?_
    rintro e w' ⟨rfl, rfl⟩
    rw [h1]
    go_wp2
    go_ret
    exact ⟨by rw [E.out]; rfl, HB.out⟩
  | true =>
    have E := hide (show mayId r s = decide (1 ≤ s ∧ s ≤ 65535) by rw [HE.out, h1]; rfl)
    go_enter Tryd.func7, Tryd.ntmps7
    go_wp2_with fail
    refine (within_any r 0 3 _).mono ?_
    rintro e w' ⟨rfl, rfl⟩
    rw [h1]
    go_wp2_with fail
    refine (within_any s 1 65535 _).mono ?_
    rintro e w' ⟨rfl, rfl⟩
    generalize decide (1 ≤ s ∧ s ≤ 65535) = b at *
    go_wp2
    go_ret
    exact ⟨by rw [E.out]; rfl, HB.out⟩

theorem pmaykey_any (r s o : Int) (u : Bool) (w : World) : Calls Tryd.prog 9 #[keyOf r s o u] w fun e w' => e = .returned (.bool (mayKey r s o)) ∧ Below w.heap.size w w' := by
  have HB := hide ((Below.refl w.heap.size w).alloc (Nat.le_refl _) (.cells #[.int .i64 r, .int .i64 s, .int .i64 o, .bool u] 25))
  have hcell : ∀ j u', (#[Value.int .i64 r, .int .i64 s, .int .i64 o, .bool u] : Array Value)[j]? = some u' → (w.alloc (.cells #[.int .i64 r, .int .i64 s, .int .i64 o, .bool u] 25)).cell? ⟨w.heap.size, j, none⟩ = some u' := fun j u' h => ((Blk.new w _ _).cell j).trans h
  have HC := hide hcell
  clear hcell
  unfold keyOf
  cases hm : mayId r s with
  | false =>
    have E := hide (show mayKey r s o = false by unfold mayKey; rw [hm]; rfl)
    go_enter Tryd.func9, Tryd.ntmps9
    go_wp2_with fail
    refine (pmay_any r s _).mono ?_
    rintro e w2 ⟨rfl, hb⟩
    rw [hm]
    have HB2 := hide (HB.out.trans (hb.mono HB.out.size))
    clear hb
    go_wp2
    go_ret
    exact ⟨by rw [E.out]; rfl, HB2.out⟩
  | true =>
    have E := hide (show mayKey r s o = decide (1 ≤ o ∧ o ≤ 255) by unfold mayKey; rw [hm]; rfl)
    go_enter Tryd.func9, Tryd.ntmps9
    go_wp2_with fail
    refine (pmay_any r s _).mono ?_
    rintro e w2 ⟨rfl, hb⟩
    rw [hm]
    have HB2 := hide (HB.out.trans (hb.mono HB.out.size))
    have c2 := (hb.cell (p := ⟨w.heap.size, 2, none⟩) (by simp)).trans (HC.out 2 _ rfl)
    clear hb
    go_wp2_with fail
    refine (within_any o 1 255 _).mono ?_
    rintro e w' ⟨rfl, rfl⟩
    generalize decide (1 ≤ o ∧ o ≤ 255) = b at *
    go_wp2
    go_ret
    exact ⟨by rw [E.out]; rfl, HB2.out⟩

theorem pless_any (r s r2 s2 : Int) (w : World) : Calls Tryd.prog 11 #[idOf r s, idOf r2 s2] w fun e w' => e = .returned (.bool (lessId r s r2 s2)) ∧ Below w.heap.size w w' := by
  have HB := hide (((Below.refl w.heap.size w).alloc (Nat.le_refl _) (.cells #[.int .i64 r, .int .i64 s] 23)).alloc (by simp) (.cells #[.int .i64 r2, .int .i64 s2] 23))
  unfold idOf
  by_cases h2 : s = s2
  · subst h2
    have E := hide (show lessId r s r2 s = decide (r < r2) by unfold lessId; exact decide_eq_decide.2 ⟨fun h => by omega, fun h => by omega⟩)
    go_enter Tryd.func11, Tryd.ntmps11
    go_wp2
    go_ret
    exact ⟨by rw [E.out]; rfl, HB.out⟩
  · have E := hide (show lessId r s r2 s2 = decide (s < s2) by unfold lessId; exact decide_eq_decide.2 ⟨fun h => by omega, fun h => by omega⟩)
    have hd2 : (s == s2) = false := beq_eq_false_iff_ne.mpr h2
    have hd3 : (s != s2) = true := by simp [h2]
    go_enter Tryd.func11, Tryd.ntmps11
    go_wp2
    go_ret
    exact ⟨by rw [E.out]; rfl, HB.out⟩

theorem plesskey_any (r s o : Int) (u : Bool) (r2 s2 o2 : Int) (u2 : Bool) (w : World) : Calls Tryd.prog 13 #[keyOf r s o u, keyOf r2 s2 o2 u2] w fun e w' => e = .returned (.bool (lessKey r s o u r2 s2 o2 u2)) ∧ Below w.heap.size w w' := by
  unfold keyOf
  have HB := hide (((Below.refl w.heap.size w).alloc (Nat.le_refl _) (.cells #[.int .i64 r, .int .i64 s, .int .i64 o, .bool u] 25)).alloc (by simp) (.cells #[.int .i64 r2, .int .i64 s2, .int .i64 o2, .bool u2] 25))
  have fin : ∀ b, lessKey r s o u r2 s2 o2 u2 = b → Ending.returned (.bool b) = Ending.returned (.bool (lessKey r s o u r2 s2 o2 u2)) := fun b h => by rw [h]
  have FIN := hide fin
  clear fin
  by_cases hi : r = r2 ∧ s = s2
  · obtain ⟨rfl, rfl⟩ := hi
    rcases Int.lt_trichotomy o o2 with h | h | h
    · have E := hide (show lessKey r s o u r s o2 u2 = true by unfold lessKey; rw [if_pos ⟨rfl, rfl⟩, decide_eq_true h]; rfl)
      have hd2 : (o == o2) = false := beq_eq_false_iff_ne.mpr (by omega)
      have hd3 : (o != o2) = true := by simp [hd2, bne]
      go_enter Tryd.func13, Tryd.ntmps13
      go_wp2
      go_ret
      exact ⟨FIN.out _ E.out, HB.out⟩
    · subst h
      have E := hide (show lessKey r s o u r s o u2 = (!u && u2) by unfold lessKey; rw [if_pos ⟨rfl, rfl⟩]; simp)
      cases u <;> cases u2 <;>
      · go_enter Tryd.func13, Tryd.ntmps13
        go_wp2
        go_ret
        exact ⟨FIN.out _ E.out, HB.out⟩
    · have E := hide (show lessKey r s o u r s o2 u2 = false by unfold lessKey; rw [if_pos ⟨rfl, rfl⟩, decide_eq_false (by omega), decide_eq_false (by omega)]; rfl)
      have hd : decide (o < o2) = false := decide_eq_false (by omega)
      have hd2 : (o == o2) = false := beq_eq_false_iff_ne.mpr (by omega)
      have hd3 : (o != o2) = true := by simp [hd2, bne]
      go_enter Tryd.func13, Tryd.ntmps13
      go_wp2
      go_ret
      exact ⟨FIN.out _ E.out, HB.out⟩
  · have E := hide (show lessKey r s o u r2 s2 o2 u2 = lessId r s r2 s2 by unfold lessKey; rw [if_neg hi])
    have hne : ¬ (r = r2) ∨ ¬ (s = s2) := by
      by_cases h : r = r2
      · exact .inr fun h2 => hi ⟨h, h2⟩
      · exact .inl h
    rcases hne with h | h
    · go_enter Tryd.func13, Tryd.ntmps13
      go_wp2_with fail
      refine (pless_any r s r2 s2 _).mono ?_
      rintro e w2 ⟨rfl, hb⟩
      have HB2 := hide (HB.out.trans (hb.mono HB.out.size))
      clear hb
      go_wp2
      go_ret
      exact ⟨FIN.out _ E.out, HB2.out⟩
    · go_enter Tryd.func13, Tryd.ntmps13
      go_wp2_with fail
      refine (pless_any r s r2 s2 _).mono ?_
      rintro e w2 ⟨rfl, hb⟩
      have HB2 := hide (HB.out.trans (hb.mono HB.out.size))
      clear hb
      go_wp2
      go_ret
      exact ⟨FIN.out _ E.out, HB2.out⟩

theorem pother_any (r s o : Int) (u : Bool) (w : World) : Calls Tryd.prog 15 #[keyOf r s o u] w fun e w' => e = .returned (keyOf r s o (!u)) ∧ Below w.heap.size w w' := by
  unfold keyOf
  go_enter Tryd.func15, Tryd.ntmps15
  go_wp2
  go_returns
  refine ⟨by simp, ?_⟩
  go_grown

set_option maxHeartbeats 1000000 in
theorem ptext_any (r s : Int) (w : World) (hg : Good w) (h1 : -9223372036854775808 ≤ r) (h2 : r ≤ 9223372036854775807) (h3 : -9223372036854775808 ≤ s) (h4 : s ≤ 9223372036854775807) : Calls Tryd.prog 19 #[idOf r s] w fun e w' => e = .returned (.string (txt (textId r s))) ∧ Below w.heap.size w w' := by
  have l1 := itoa_len h1 h2
  have l2 := itoa_len h3 h4
  have e : txt (textId r s) = txt (Lib.itoa r) ++ txt [46] ++ txt (Lib.itoa s) := by rw [txt_app, txt_app]; simp [textId]
  have z1 : (txt (Lib.itoa r)).size ≤ 21 := by rw [txt_size]; exact l1
  have z2 : (txt (Lib.itoa s)).size ≤ 21 := by rw [txt_size]; exact l2
  have HA := hide (Blk.new w 23 #[.int .i64 r, .int .i64 s])
  have HB := hide ((Below.refl w.heap.size w).alloc (Nat.le_refl _) (.cells #[.int .i64 r, .int .i64 s] 23))
  have HG := hide (fun w' h => hg.later w' h)
  have PR := hide (fun w' hg => itoa_any r w' hg h1 h2)
  have PS := hide (fun w' hg => itoa_any s w' hg h3 h4)
  have E := hide e
  clear e l1 l2 h1 h2 h3 h4 hg
  generalize txt (Lib.itoa r) = R at *
  generalize txt (Lib.itoa s) = S at *
  have q1 : ¬ 9223372036854775807 < R.size + 1 := by omega
  have q2 : ¬ 9223372036854775807 < R.size + 1 + S.size := by omega
  clear z1 z2
  unfold idOf
  go_enter Tryd.func19, Tryd.ntmps19
  go_wp2_with fail
  obtain ⟨w1, hw1⟩ : ∃ w1, w1 = w.alloc (.cells #[.int .i64 r, .int .i64 s] 23) := ⟨_, rfl⟩
  rw [← hw1] at HA HB ⊢
  have hb : ∀ w', Since w1 w' → w'.cell? ⟨w.heap.size, 0, none⟩ = some (.int .i64 r) ∧ w'.cell? ⟨w.heap.size, 1, none⟩ = some (.int .i64 s) := fun w' h => by
    have k := HA.out.below h HA.out.lt
    exact ⟨(k.cell 0).trans rfl, (k.cell 1).trans rfl⟩
  have a0 := fun w' h => (hb w' h).1
  have a1 := fun w' h => (hb w' h).2
  have P1 := hide (fun w' (h : Since w1 w') => (PR.out w' (HG.out w' (HB.out.trans (Below.mono h HB.out.size)))).mono fun e w2 hh => And.intro hh.1 (h.next hh.2))
  have P2 := hide (fun w' (h : Since w1 w') => (PS.out w' (HG.out w' (HB.out.trans (Below.mono h HB.out.size)))).mono fun e w2 hh => And.intro hh.1 (h.next hh.2))
  have hr0 := (Since.refl w1).drew
  clear hb hw1 PR PS HA
  go_region_held (fun w' => Since w1 w') (assumption) (first
    | (go_at_call_of 27 r; refine (P1.out _ (by assumption)).mono ?_; rintro e w5 ⟨rfl, hs5⟩)
    | (go_at_call_of 27 s; refine (P2.out _ (by assumption)).mono ?_; rintro e w5 ⟨rfl, hs5⟩))
  all_goals go_wp2
  all_goals go_ret
  all_goals exact ⟨by rw [E.out]; rfl, HB.out.trans (Below.mono hs5 HB.out.size)⟩

set_option maxHeartbeats 1000000 in
theorem ptextkey_any (r s o : Int) (u : Bool) (w : World) (hg : Good w) (h1 : -9223372036854775808 ≤ r) (h2 : r ≤ 9223372036854775807) (h3 : -9223372036854775808 ≤ s) (h4 : s ≤ 9223372036854775807) (h5 : -9223372036854775808 ≤ o) (h6 : o ≤ 9223372036854775807) : Calls Tryd.prog 21 #[keyOf r s o u] w fun e w' => e = .returned (.string (txt (textKey r s o u))) ∧ Below w.heap.size w w' := by
  have l1 := itoa_len h1 h2
  have l2 := itoa_len h3 h4
  have l3 := itoa_len h5 h6
  have z1 : (txt (textId r s)).size ≤ 43 := by
    rw [txt_size, textId, List.length_append, List.length_cons]
    omega
  have z2 : (txt (Lib.itoa o)).size ≤ 21 := by rw [txt_size]; exact l3
  have e1 : txt (textKey r s o true) = txt (textId r s) ++ txt [47] ++ txt (Lib.itoa o) ++ txt [45] := by rw [txt_app, txt_app, txt_app]; simp [textKey]
  have e0 : txt (textKey r s o false) = txt (textId r s) ++ txt [47] ++ txt (Lib.itoa o) := by rw [txt_app, txt_app]; simp [textKey]
  have HA := hide (Blk.new w 25 #[.int .i64 r, .int .i64 s, .int .i64 o, .bool u])
  have HB := hide ((Below.refl w.heap.size w).alloc (Nat.le_refl _) (.cells #[.int .i64 r, .int .i64 s, .int .i64 o, .bool u] 25))
  have HG := hide (fun w' h => hg.later w' h)
  have PR := hide (fun w' hg => ptext_any r s w' hg h1 h2 h3 h4)
  have PS := hide (fun w' hg => itoa_any o w' hg h5 h6)
  have E1 := hide e1
  have E0 := hide e0
  clear e1 e0 l1 l2 l3 h1 h2 h3 h4 h5 h6 hg
  generalize txt (textId r s) = R at *
  generalize txt (Lib.itoa o) = S at *
  have q1 : ¬ 9223372036854775807 < R.size + 1 := by omega
  have q2 : ¬ 9223372036854775807 < R.size + 1 + S.size := by omega
  have q3 : ¬ 9223372036854775807 < R.size + 1 + S.size + 1 := by omega
  clear z1 z2
  unfold keyOf
  go_enter Tryd.func21, Tryd.ntmps21
  go_wp2_with fail
  obtain ⟨w1, hw1⟩ : ∃ w1, w1 = w.alloc (.cells #[.int .i64 r, .int .i64 s, .int .i64 o, .bool u] 25) := ⟨_, rfl⟩
  rw [← hw1] at HA HB ⊢
  have hb : ∀ w', Since w1 w' → w'.cell? ⟨w.heap.size, 0, none⟩ = some (.int .i64 r) ∧ w'.cell? ⟨w.heap.size, 1, none⟩ = some (.int .i64 s) ∧ w'.cell? ⟨w.heap.size, 2, none⟩ = some (.int .i64 o) ∧ w'.cell? ⟨w.heap.size, 3, none⟩ = some (.bool u) := fun w' h => by
    have k := HA.out.below h HA.out.lt
    exact ⟨(k.cell 0).trans rfl, (k.cell 1).trans rfl, (k.cell 2).trans rfl, (k.cell 3).trans rfl⟩
  have a0 := fun w' h => (hb w' h).1
  have a1 := fun w' h => (hb w' h).2.1
  have a2 := fun w' h => (hb w' h).2.2.1
  have HU := hide (fun w' h => (hb w' h).2.2.2)
  have P1 := hide (fun w' (h : Since w1 w') => (PR.out w' (HG.out w' (HB.out.trans (Below.mono h HB.out.size)))).mono fun e w2 hh => And.intro hh.1 (h.next hh.2))
  have P2 := hide (fun w' (h : Since w1 w') => (PS.out w' (HG.out w' (HB.out.trans (Below.mono h HB.out.size)))).mono fun e w2 hh => And.intro hh.1 (h.next hh.2))
  have hr0 := (Since.refl w1).drew
  clear hb hw1 PR PS HA
  go_region_held (fun w' => Since w1 w') (assumption) (first
    | (go_at_call 19; refine (P1.out _ (by assumption)).mono ?_; rintro e w5 ⟨rfl, hs5⟩)
    | (go_at_call 27; refine (P2.out _ (by assumption)).mono ?_; rintro e w5 ⟨rfl, hs5⟩))
  all_goals have a3 := HU.out w5 hs5
  all_goals cases u
  all_goals go_wp2
  all_goals go_ret
  all_goals first | exact ⟨by rw [E1.out]; rfl, HB.out.trans (Below.mono hs5 HB.out.size)⟩ | exact ⟨by rw [E0.out]; rfl, HB.out.trans (Below.mono hs5 HB.out.size)⟩

/-- What the two numbers come to. -/
theorem parse_ends {l p q : List UInt8} {b : Bool} {r s : Int} (hp : (46 : UInt8) ∉ p) (hc : (b = true ∧ l = p ++ 46 :: q) ∨ (b = false ∧ p = l ∧ q = []))
    (hr : ∀ u : Nat, u < 10 ^ 18 → Lib.itoa (u : Int) = p → r = (u : Int)) (hs : ∀ u : Nat, u < 10 ^ 18 → Lib.itoa (u : Int) = q → s = (u : Int)) (hn : ¬ (mayId r s = true ∧ textId r s = l)) : idText mayId l = none := by
  refine idText_none fun x y hm he => hn ?_
  have hb := may_bounds hm
  have hmem : (46 : UInt8) ∈ l := by rw [← he]; unfold textId; simp
  rcases hc with ⟨_, hl⟩ | ⟨_, hl, _⟩
  · obtain ⟨e1, e2⟩ := cut_first (itoa_not x 46 (by decide) (.inl (by decide))) hp (show Lib.itoa x ++ 46 :: Lib.itoa y = p ++ 46 :: q by rw [← hl, ← he]; rfl)
    have f1 := hr x.toNat (by omega) (by rw [Int.toNat_of_nonneg (by omega)]; exact e1)
    have f2 := hs y.toNat (by omega) (by rw [Int.toNat_of_nonneg (by omega)]; exact e2)
    rw [Int.toNat_of_nonneg (by omega)] at f1 f2
    subst f1 f2
    exact ⟨hm, he⟩
  · rw [hl] at hp
    exact absurd hmem hp

set_option maxHeartbeats 2000000 in
theorem pparse_any (l : List UInt8) (w : World) (hg : Good w) (hl : l.length ≤ 281474976710656) : Calls Tryd.prog 17 #[.string (txt l)] w fun e w' => Parsed l w w' e := by
  have HB0 := hide ((Below.refl w.heap.size w).alloc (Nat.le_refl _) (.cells #[.int .i64 0, .int .i64 0] 23))
  have HC0 := hide (Blk.new w 23 #[.int .i64 0, .int .i64 0])
  have HG := hide (fun w' h => hg.later w' h)
  have HCUT := hide (fun W => cut_any l W (by omega))
  have HL := hide hl
  have HT := hide (fun x => txt_inj (a := l) (b := x))
  clear hg hl
  generalize hTT : txt l = T at *
  go_enter Tryd.func17, Tryd.ntmps17
  go_wp2_with fail
  refine (HCUT.out _).mono ?_
  rintro e w1 ⟨⟨p, q, b, rfl, hc⟩, hb1⟩
  have HC := hide hc
  have HB1 := hide (HB0.out.trans (hb1.mono HB0.out.size))
  have HC1 := hide (HC0.out.below hb1 (by simp))
  have LP := hide (show p.length ≤ 281474976710656 by
    rcases hc.2 with ⟨_, h⟩ | ⟨_, h, _⟩
    · have := HL.out; rw [h, List.length_append] at this; omega
    · rw [h]; exact HL.out)
  have LQ := hide (show q.length ≤ 281474976710656 by
    rcases hc.2 with ⟨_, h⟩ | ⟨_, h, h2⟩
    · have := HL.out; rw [h, List.length_append, List.length_cons] at this; omega
    · rw [h2]; exact Nat.zero_le _)
  clear hc hb1
  go_wp2_with fail
  refine (atoi_any p _ (HG.out _ HB1.out) LP.out).mono ?_
  rintro e w2 ⟨⟨r, x1, rfl, hr, hru⟩, hb2⟩
  have HR := hide hr
  have HRU := hide hru
  have HB2 := hide (HB1.out.trans (hb2.mono HB1.out.size))
  have HC2 := hide (HC1.out.below hb2 HC1.out.lt)
  clear hr hru hb2
  go_wp2_with fail
  refine (atoi_any q _ (HG.out _ HB2.out) LQ.out).mono ?_
  rintro e w3 ⟨⟨n, x2, rfl, hs, hsu⟩, hb3⟩
  have HS := hide hs
  have HSU := hide hsu
  have HB3 := hide (HB2.out.trans (hb3.mono HB2.out.size))
  have HC3 := hide (HC2.out.below hb3 HC2.out.lt)
  clear hs hsu hb3
  have hlt3 : w.heap.size < w3.heap.size := HC3.out.lt
  have HB4 := hide (HB3.out.alloc HB3.out.size (.cells #[.int .i64 r, .int .i64 n] 23))
  have HC4 := hide (HC3.out.alloc (.cells #[.int .i64 r, .int .i64 n] 23))
  have HD4 := hide (Blk.new w3 23 #[.int .i64 r, .int .i64 n])
  go_wp2_with fail
  refine (pmay_any r n _).mono ?_
  rintro e w4 ⟨rfl, hb4⟩
  have HB5 := hide (HB4.out.trans (hb4.mono HB4.out.size))
  have HC5 := hide (HC4.out.below hb4 HC4.out.lt)
  have HD5 := hide (HD4.out.below hb4 HD4.out.lt)
  clear hb4
  cases hm : mayId r n with
  | false =>
    have NN := hide (show idText mayId l = none from parse_ends HC.out.1 HC.out.2 HRU.out HSU.out fun h => by rw [hm] at h; cases h.1)
    have B0 := HC5.out
    have f0 := B0.frozen 0
    have f1 := B0.frozen 1
    have z0 := (B0.cell 0).trans rfl
    have z1 := (B0.cell 1).trans rfl
    have t0 : (w4.setCell ⟨w.heap.size, 0, none⟩ (.int .i64 0)).cell? ⟨w.heap.size, 0, none⟩ = some (.int .i64 0) := ((B0.store 0 _).cell 0).trans rfl
    have t1 : ((w4.setCell ⟨w.heap.size, 0, none⟩ (.int .i64 0)).setCell ⟨w.heap.size, 1, none⟩ (.int .i64 0)).cell? ⟨w.heap.size, 1, none⟩ = some (.int .i64 0) := (((B0.store 0 _).store 1 _).cell 1).trans rfl
    have HB6 := hide ((HB5.out.setCell (p := ⟨w.heap.size, 0, none⟩) (Nat.le_refl _) (.int .i64 0)).setCell (p := ⟨w.heap.size, 1, none⟩) (Nat.le_refl _) (.int .i64 0))
    clear B0 hm
    go_wp2
    (try simp only [Exit.inBlock, Exit.then])
    refine bodyPost_ret (by simp [results, Tryd.results17, go_sem, t0, t1]; try rfl) rfl ?_
    exact parsed_no NN.out rfl HB6.out
  | true =>
    have a0 := (HD5.out.cell 0).trans rfl
    have a1 := (HD5.out.cell 1).trans rfl
    have HM := hide hm
    go_wp2_with fail
    refine (ptext_any r n _ (HG.out _ HB5.out) HR.out.1 HR.out.2 HS.out.1 HS.out.2).mono ?_
    rintro e w5 ⟨rfl, hb5⟩
    have HB6 := hide (HB5.out.trans (hb5.mono HB5.out.size))
    have B0 := HC5.out.below hb5 HC5.out.lt
    have D0 := HD5.out.below hb5 HD5.out.lt
    clear hb5 a0 a1 hm
    have f0 := B0.frozen 0
    have f1 := B0.frozen 1
    have z0 := (B0.cell 0).trans rfl
    have z1 := (B0.cell 1).trans rfl
    by_cases ht : textId r n = l
    · have YY := hide (show idText mayId l = some (r, n) from idText_some HM.out ht)
      have hue : ((txt (textId r n)).toList == T.toList) = true := by rw [ht, ← hTT]; exact beq_self_eq_true _
      have a0 := (D0.cell 0).trans rfl
      have a1 := (D0.cell 1).trans rfl
      have s0 : (w5.setCell ⟨w.heap.size, 0, none⟩ (.int .i64 r)).cell? ⟨w.heap.size, 0, none⟩ = some (.int .i64 r) := ((B0.store 0 _).cell 0).trans rfl
      have s1 : ((w5.setCell ⟨w.heap.size, 0, none⟩ (.int .i64 r)).setCell ⟨w.heap.size, 1, none⟩ (.int .i64 n)).cell? ⟨w.heap.size, 1, none⟩ = some (.int .i64 n) := (((B0.store 0 _).store 1 _).cell 1).trans rfl
      have HB7 := hide ((HB6.out.setCell (p := ⟨w.heap.size, 0, none⟩) (Nat.le_refl _) (.int .i64 r)).setCell (p := ⟨w.heap.size, 1, none⟩) (Nat.le_refl _) (.int .i64 n))
      clear ht B0 D0 hTT
      generalize txt (textId r n) = U at *
      go_wp2
      (try simp only [Exit.inBlock, Exit.then])
      refine bodyPost_ret (by simp [results, Tryd.results17, go_sem, s0, s1]; try rfl) rfl ?_
      exact parsed_yes YY.out rfl HB7.out
    · have NN := hide (show idText mayId l = none from parse_ends HC.out.1 HC.out.2 HRU.out HSU.out fun h => ht h.2)
      have hue : ((txt (textId r n)).toList == T.toList) = false := by rw [← hTT, txt_toList, txt_toList]; exact beq_eq_false_iff_ne.mpr ht
      have t0 : (w5.setCell ⟨w.heap.size, 0, none⟩ (.int .i64 0)).cell? ⟨w.heap.size, 0, none⟩ = some (.int .i64 0) := ((B0.store 0 _).cell 0).trans rfl
      have t1 : ((w5.setCell ⟨w.heap.size, 0, none⟩ (.int .i64 0)).setCell ⟨w.heap.size, 1, none⟩ (.int .i64 0)).cell? ⟨w.heap.size, 1, none⟩ = some (.int .i64 0) := (((B0.store 0 _).store 1 _).cell 1).trans rfl
      have HB7 := hide ((HB6.out.setCell (p := ⟨w.heap.size, 0, none⟩) (Nat.le_refl _) (.int .i64 0)).setCell (p := ⟨w.heap.size, 1, none⟩) (Nat.le_refl _) (.int .i64 0))
      clear ht B0 D0 hTT
      generalize txt (textId r n) = U at *
      go_wp2
      (try simp only [Exit.inBlock, Exit.then])
      refine bodyPost_ret (by simp [results, Tryd.results17, go_sem, t0, t1]; try rfl) rfl ?_
      exact parsed_no NN.out rfl HB7.out
end Go.Proofs.YtkdnplaoondlbaaDoor
