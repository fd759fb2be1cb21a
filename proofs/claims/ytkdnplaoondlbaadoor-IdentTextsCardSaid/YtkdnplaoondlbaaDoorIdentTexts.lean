/-
  The walk of IdentTexts.
-/
import Derived.Test.YtkdnplaoondlbaaDoorIdentLies
import Derived.Test.YtkdnplaoondlbaaDoorIdentText
import Derived.Test.YtkdnplaoondlbaaDoorIdentParse
import Derived.Deep.DeepCutAuto
import Derived.Deep.Cut
import Derived.Deep.CutRange
namespace Go.Proofs.YtkdnplaoondlbaaDoor
open Go.RowKit
set_option linter.unusedVariables false

theorem since_two {w1 : World} {g : Nat} {t : TypeId} {a b : Value} (h : Blk w1 g t #[a, b]) : ∀ w', Since w1 w' → w'.cell? ⟨g, 0, none⟩ = some a ∧ w'.cell? ⟨g, 1, none⟩ = some b := fun w' h' => (h.below h' h.lt).two
theorem since_four {w1 : World} {g : Nat} {t : TypeId} {a b c d : Value} (h : Blk w1 g t #[a, b, c, d]) : ∀ w', Since w1 w' →
    w'.cell? ⟨g, 0, none⟩ = some a ∧ w'.cell? ⟨g, 1, none⟩ = some b ∧ w'.cell? ⟨g, 2, none⟩ = some c ∧ w'.cell? ⟨g, 3, none⟩ = some d := fun w' h' => by
  have k := h.below h' h.lt
  exact ⟨(k.cell 0).trans rfl, (k.cell 1).trans rfl, (k.cell 2).trans rfl, (k.cell 3).trans rfl⟩

theorem textId_len {r s : Int} (h1 : -9223372036854775808 ≤ r) (h2 : r ≤ 9223372036854775807) (h3 : -9223372036854775808 ≤ s) (h4 : s ≤ 9223372036854775807) : (textId r s).length ≤ 281474976710656 := by
  unfold textId
  rw [List.length_append, List.length_cons]
  have := itoa_len h1 h2
  have := itoa_len h3 h4
  omega

set_option maxRecDepth 100000 in
set_option maxHeartbeats 4000000 in
theorem texts_walk (r s o : Int) (u : Bool) (l : List UInt8) (w : World) (h1 : -9223372036854775808 ≤ r) (h2 : r ≤ 9223372036854775807) (h3 : -9223372036854775808 ≤ s) (h4 : s ≤ 9223372036854775807) (h5 : -9223372036854775808 ≤ o) (h6 : o ≤ 9223372036854775807) (hl : l.length ≤ 281474976710656) (hg : Good w) :
    Calls Tryd.prog 5 #[keyOf r s o u, .string (txt l)] w fun e w' => e = .returned (.bool true) ∧ Below w.heap.size w w' := by
  have HA := hide (Blk.new w 25 #[.int .i64 r, .int .i64 s, .int .i64 o, .bool u])
  have HB := hide ((Below.refl w.heap.size w).alloc (Nat.le_refl _) (.cells #[.int .i64 r, .int .i64 s, .int .i64 o, .bool u] 25))
  have HG := hide hg.later
  clear hg
  unfold keyOf
  go_enter Tryd.func5, Tryd.ntmps5
  go_wp2_with fail
  refine (alive06 _ (HG.out _ HB.out)).mono ?_
  rintro e w1 ⟨rfl, hbl⟩
  have HA1 := hide (HA.out.below hbl HA.out.lt)
  have HB1 := hide (HB.out.trans (hbl.mono HB.out.size))
  clear hbl HA HB
  go_wp2_with fail
  refine (pparse_any l _ (HG.out _ HB1.out) hl).mono ?_
  rintro e w2 hp
  obtain ⟨he, hbl⟩ := hp.val
  subst he
  have HA2 := hide ((HA1.out.below hbl HA1.out.lt).alloc (.cells #[.int .i64 (idVal l).1, .int .i64 (idVal l).2] 23))
  have HB2 := hide ((HB1.out.trans (hbl.mono HB1.out.size)).alloc (HB1.out.trans (hbl.mono HB1.out.size)).size (.cells #[.int .i64 (idVal l).1, .int .i64 (idVal l).2] 23))
  have HP2 := hide (Blk.new w2 23 #[.int .i64 (idVal l).1, .int .i64 (idVal l).2])
  clear hp hbl HA1 HB1
  have HV := hide (fun (W W' : World) (e : Ending) (h : Parsed l W W' e) => h.val)
  generalize (idVal l).1 = x1 at *
  generalize (idVal l).2 = x2 at *
  generalize idOk l = ok at *
  unfold idOf
  go_wp2_with fail
  refine (refparse_any l _ (by omega)).mono ?_
  rintro e w3 hp
  obtain ⟨he, hbl⟩ := HV.out _ _ _ hp
  subst he
  have HA3 := hide ((HA2.out.below hbl HA2.out.lt).alloc (.cells #[.int .i64 x1, .int .i64 x2] 23))
  have HP3 := hide ((HP2.out.below hbl HP2.out.lt).alloc (.cells #[.int .i64 x1, .int .i64 x2] 23))
  have HQ3 := hide (Blk.new w3 23 #[.int .i64 x1, .int .i64 x2])
  have HB3 := hide ((HB2.out.trans (hbl.mono HB2.out.size)).alloc (HB2.out.trans (hbl.mono HB2.out.size)).size (.cells #[.int .i64 x1, .int .i64 x2] 23))
  clear hp hbl HA2 HP2 HB2 HV
  unfold idOf
  obtain ⟨a0, a1, a2, a3⟩ := since_four HA3.out _ (Since.refl _)
  go_wp2_with fail
  refine (ptext_any r s _ (HG.out _ HB3.out) h1 h2 h3 h4).mono ?_
  rintro e w4 ⟨rfl, hbl⟩
  have HA4 := hide (HA3.out.below hbl HA3.out.lt)
  have HP4 := hide (HP3.out.below hbl HP3.out.lt)
  have HQ4 := hide (HQ3.out.below hbl HQ3.out.lt)
  have HB4 := hide (HB3.out.trans (hbl.mono HB3.out.size))
  clear hbl HA3 HP3 HQ3 HB3 a0 a1 a2 a3
  go_wp2_with fail
  refine (pparse_any (textId r s) _ (HG.out _ HB4.out) (textId_len h1 h2 h3 h4)).mono ?_
  rintro e w5 hp
  obtain ⟨he, hbl⟩ := hp.val
  subst he
  have HA5 := hide ((HA4.out.below hbl HA4.out.lt).alloc (.cells #[.int .i64 (idVal (textId r s)).1, .int .i64 (idVal (textId r s)).2] 23))
  have HP5 := hide ((HP4.out.below hbl HP4.out.lt).alloc (.cells #[.int .i64 (idVal (textId r s)).1, .int .i64 (idVal (textId r s)).2] 23))
  have HQ5 := hide ((HQ4.out.below hbl HQ4.out.lt).alloc (.cells #[.int .i64 (idVal (textId r s)).1, .int .i64 (idVal (textId r s)).2] 23))
  have HY5 := hide (Blk.new w5 23 #[.int .i64 (idVal (textId r s)).1, .int .i64 (idVal (textId r s)).2])
  have HB5 := hide ((HB4.out.trans (hbl.mono HB4.out.size)).alloc (HB4.out.trans (hbl.mono HB4.out.size)).size (.cells #[.int .i64 (idVal (textId r s)).1, .int .i64 (idVal (textId r s)).2] 23))
  clear hp hbl HA4 HP4 HQ4 HB4
  unfold idOf
  obtain ⟨y1, y2, yk, hy1, hy2, hyk, hyy⟩ : ∃ y1 y2 yk, (idVal (textId r s)).1 = y1 ∧ (idVal (textId r s)).2 = y2 ∧ idOk (textId r s) = yk ∧ ((mayId r s = true ∧ yk = true ∧ y1 = r ∧ y2 = s) ∨ (mayId r s = false ∧ yk = false)) := by
    refine ⟨_, _, _, rfl, rfl, rfl, ?_⟩
    cases hm : mayId r s with
    | true =>
      obtain ⟨e1, e2⟩ := idVal_may hm
      exact .inl ⟨rfl, e2, by rw [e1], by rw [e1]⟩
    | false => exact .inr ⟨rfl, (idVal_not hm).2⟩
  rw [hy1, hy2] at HA5 HP5 HQ5 HY5 HB5
  rw [hy1, hy2, hyk]
  clear hy1 hy2 hyk
  obtain ⟨a0, a1, a2, a3⟩ := since_four HA5.out _ (Since.refl _)
  go_wp2_with fail
  refine (refmay_any r s _).mono ?_
  rintro e w6 ⟨rfl, hbl⟩
  have HA6 := hide (HA5.out.below hbl HA5.out.lt)
  have HP6 := hide (HP5.out.below hbl HP5.out.lt)
  have HQ6 := hide (HQ5.out.below hbl HQ5.out.lt)
  have HY6 := hide (HY5.out.below hbl HY5.out.lt)
  have HB6 := hide (HB5.out.trans (hbl.mono HB5.out.size))
  clear hbl HA5 HP5 HQ5 HY5 HB5 a0 a1 a2 a3
  obtain ⟨a0, a1, a2, a3⟩ := since_four HA6.out _ (Since.refl _)
  obtain ⟨b0, b1⟩ := since_two HY6.out _ (Since.refl _)
  rcases hyy with ⟨hm, rfl, rfl, rfl⟩ | ⟨hm, rfl⟩
  · rw [hm]
    go_wp2_with fail
    clear a0 a1 a2 a3 b0 b1
    have kA := since_four HA6.out
    have kP := since_two HP6.out
    have kQ := since_two HQ6.out
    have c0 := fun w' h => (kA w' h).1
    have c1 := fun w' h => (kA w' h).2.1
    have c2 := fun w' h => (kA w' h).2.2.1
    have c3 := fun w' h => (kA w' h).2.2.2
    have p0 := fun w' h => (kP w' h).1
    have p1 := fun w' h => (kP w' h).2
    have q0 := fun w' h => (kQ w' h).1
    have q1 := fun w' h => (kQ w' h).2
    have hr0 := (Since.refl w6).drew
    have P1 := hide (fun w' (h : Since w6 w') => (ptext_any y1 y2 w' (HG.out _ (HB6.out.trans (Below.mono h HB6.out.size))) h1 h2 h3 h4).mono fun e w2 hh => And.intro hh.1 (since_of h hh.2))
    have P2 := hide (fun w' (h : Since w6 w') => (reftext_any y1 y2 w' h1 h2 h3 h4).mono fun e w2 hh => And.intro hh.1 (since_of h hh.2))
    have P3 := hide (fun w' (h : Since w6 w') => (ptextkey_any y1 y2 o u w' (HG.out _ (HB6.out.trans (Below.mono h HB6.out.size))) h1 h2 h3 h4 h5 h6).mono fun e w2 hh => And.intro hh.1 (since_of h hh.2))
    have P4 := hide (fun w' (h : Since w6 w') => (reftextkey_any y1 y2 o u w' h1 h2 h3 h4 h5 h6).mono fun e w2 hh => And.intro hh.1 (since_of h hh.2))
    clear kA kP kQ HA6 HP6 HQ6 HY6 h1 h2 h3 h4 h5 h6 hm
    generalize txt (textId y1 y2) = T1 at *
    generalize txt (textKey y1 y2 o u) = T2 at *
    go_region_held (fun w' => Since w6 w') (assumption) (first
      | (go_at_call 19; refine (P1.out _ (by assumption)).mono ?_; rintro e w7 ⟨rfl, hs7⟩)
      | (go_at_call 20; refine (P2.out _ (by assumption)).mono ?_; rintro e w7 ⟨rfl, hs7⟩)
      | (go_at_call 21; refine (P3.out _ (by assumption)).mono ?_; rintro e w7 ⟨rfl, hs7⟩)
      | (go_at_call 22; refine (P4.out _ (by assumption)).mono ?_; rintro e w7 ⟨rfl, hs7⟩))
    all_goals go_wp2
    all_goals go_ret
    all_goals exact ⟨rfl, HB6.out.trans (Below.mono hs7 HB6.out.size)⟩
  · rw [hm]
    go_wp2_with fail
    clear a0 a1 a2 a3 b0 b1
    have kA := since_four HA6.out
    have kP := since_two HP6.out
    have kQ := since_two HQ6.out
    have c0 := fun w' h => (kA w' h).1
    have c1 := fun w' h => (kA w' h).2.1
    have c2 := fun w' h => (kA w' h).2.2.1
    have c3 := fun w' h => (kA w' h).2.2.2
    have p0 := fun w' h => (kP w' h).1
    have p1 := fun w' h => (kP w' h).2
    have q0 := fun w' h => (kQ w' h).1
    have q1 := fun w' h => (kQ w' h).2
    have hr0 := (Since.refl w6).drew
    have P1 := hide (fun w' (h : Since w6 w') => (ptext_any r s w' (HG.out _ (HB6.out.trans (Below.mono h HB6.out.size))) h1 h2 h3 h4).mono fun e w2 hh => And.intro hh.1 (since_of h hh.2))
    have P2 := hide (fun w' (h : Since w6 w') => (reftext_any r s w' h1 h2 h3 h4).mono fun e w2 hh => And.intro hh.1 (since_of h hh.2))
    have P3 := hide (fun w' (h : Since w6 w') => (ptextkey_any r s o u w' (HG.out _ (HB6.out.trans (Below.mono h HB6.out.size))) h1 h2 h3 h4 h5 h6).mono fun e w2 hh => And.intro hh.1 (since_of h hh.2))
    have P4 := hide (fun w' (h : Since w6 w') => (reftextkey_any r s o u w' h1 h2 h3 h4 h5 h6).mono fun e w2 hh => And.intro hh.1 (since_of h hh.2))
    clear kA kP kQ HA6 HP6 HQ6 HY6 h1 h2 h3 h4 h5 h6 hm
    generalize txt (textId r s) = T1 at *
    generalize txt (textKey r s o u) = T2 at *
    go_region_held (fun w' => Since w6 w') (assumption) (first
      | (go_at_call 19; refine (P1.out _ (by assumption)).mono ?_; rintro e w7 ⟨rfl, hs7⟩)
      | (go_at_call 20; refine (P2.out _ (by assumption)).mono ?_; rintro e w7 ⟨rfl, hs7⟩)
      | (go_at_call 21; refine (P3.out _ (by assumption)).mono ?_; rintro e w7 ⟨rfl, hs7⟩)
      | (go_at_call 22; refine (P4.out _ (by assumption)).mono ?_; rintro e w7 ⟨rfl, hs7⟩))
    all_goals go_wp2
    all_goals go_ret
    all_goals exact ⟨rfl, HB6.out.trans (Below.mono hs7 HB6.out.size)⟩
theorem texts_walk_s (r s o : Int) (u : Bool) (a : ByteArray) (w : World) (h1 : -9223372036854775808 ≤ r) (h2 : r ≤ 9223372036854775807) (h3 : -9223372036854775808 ≤ s) (h4 : s ≤ 9223372036854775807) (h5 : -9223372036854775808 ≤ o) (h6 : o ≤ 9223372036854775807) (hl : a.data.toList.length ≤ 281474976710656) (hg : Good w) :
    Calls Tryd.prog 5 #[keyOf r s o u, .string a] w fun e w' => e = .returned (.bool true) ∧ Below w.heap.size w w' := by
  have e : a = txt a.data.toList := by
    apply ByteArray.ext
    simp [txt]
  rw [e]
  exact texts_walk r s o u a.data.toList w h1 h2 h3 h4 h5 h6 hl hg
end Go.Proofs.YtkdnplaoondlbaaDoor
