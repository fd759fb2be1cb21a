/-
  The walk of IdentOrders.
-/
import Derived.Test.YtkdnplaoondlbaaDoorIdentLies
import Derived.Deep.DeepCutAuto
import Derived.Deep.Cut
import Derived.Deep.CutRange
import Derived.Deep.RegionWith
namespace Go.Proofs.YtkdnplaoondlbaaDoor
open Go.RowKit
set_option linter.unusedVariables false

theorem lessId_iff (r s r2 s2 : Int) : lessId r s r2 s2 = true ↔ (s < s2 ∨ (s = s2 ∧ r < r2)) := decide_eq_true_iff
theorem lessKey_iff (r s o : Int) (u : Bool) (r2 s2 o2 : Int) (u2 : Bool) : lessKey r s o u r2 s2 o2 u2 = true ↔
    ((s < s2 ∨ (s = s2 ∧ r < r2)) ∨ ((r = r2 ∧ s = s2) ∧ (o < o2 ∨ (o = o2 ∧ u = false ∧ u2 = true)))) := by
  unfold lessKey
  by_cases h : r = r2 ∧ s = s2
  · rw [if_pos h]
    obtain ⟨rfl, rfl⟩ := h
    simp only [Bool.or_eq_true, Bool.and_eq_true, decide_eq_true_eq, Bool.not_eq_true']
    constructor
    · rintro (h | ⟨⟨h1, h2⟩, h3⟩)
      · exact .inr ⟨by simp, .inl h⟩
      · exact .inr ⟨by simp, .inr ⟨h1, h2, h3⟩⟩
    · rintro (h | ⟨-, h | ⟨h1, h2, h3⟩⟩)
      · omega
      · exact .inl h
      · exact .inr ⟨⟨h1, h2⟩, h3⟩
  · rw [if_neg h, lessId_iff]
    constructor
    · exact .inl
    · rintro (h2 | ⟨h2, -⟩)
      · exact h2
      · exact absurd h2 h
theorem lessKey_self (r s o : Int) (u : Bool) : lessKey r s o u r s o u = false := by
  cases h : lessKey r s o u r s o u with
  | false => rfl
  | true =>
    rw [lessKey_iff] at h
    cases u <;> simp at h <;> omega
theorem lessKey_one {r s o : Int} {u : Bool} {r2 s2 o2 : Int} {u2 : Bool} (h : ¬ (r = r2 ∧ s = s2 ∧ o = o2 ∧ u = u2)) :
    (lessKey r s o u r2 s2 o2 u2 = true ∧ lessKey r2 s2 o2 u2 r s o u = false) ∨ (lessKey r s o u r2 s2 o2 u2 = false ∧ lessKey r2 s2 o2 u2 r s o u = true) := by
  have a := lessKey_iff r s o u r2 s2 o2 u2
  have b := lessKey_iff r2 s2 o2 u2 r s o u
  cases ha : lessKey r s o u r2 s2 o2 u2 <;> cases hb : lessKey r2 s2 o2 u2 r s o u
  · rw [ha] at a
    rw [hb] at b
    exfalso
    cases u <;> cases u2 <;> simp at a b h <;> omega
  · exact .inr ⟨rfl, rfl⟩
  · exact .inl ⟨rfl, rfl⟩
  · rw [ha] at a
    rw [hb] at b
    exfalso
    cases u <;> cases u2 <;> simp at a b <;> omega
theorem lessKey_trans {r s o : Int} {u : Bool} {r2 s2 o2 : Int} {u2 : Bool} {r3 s3 o3 : Int} {u3 : Bool} (h1 : lessKey r s o u r2 s2 o2 u2 = true) (h2 : lessKey r2 s2 o2 u2 r3 s3 o3 u3 = true) : lessKey r s o u r3 s3 o3 u3 = true := by
  rw [lessKey_iff] at *
  cases u <;> cases u2 <;> cases u3 <;> simp at h1 h2 ⊢ <;> omega

set_option maxRecDepth 100000 in
set_option maxHeartbeats 4000000 in
theorem orders_walk (r s o : Int) (u : Bool) (r2 s2 o2 : Int) (u2 : Bool) (r3 s3 o3 : Int) (u3 : Bool) (w : World) (hg : Good w) :
    Calls Tryd.prog 4 #[keyOf r s o u, keyOf r2 s2 o2 u2, keyOf r3 s3 o3 u3] w fun e w' => e = .returned (.bool true) ∧ Below w.heap.size w w' := by
  obtain ⟨W, hWW⟩ : ∃ W, W = ((w.alloc (.cells #[.int .i64 r, .int .i64 s, .int .i64 o, .bool u] 25)).alloc (.cells #[.int .i64 r2, .int .i64 s2, .int .i64 o2, .bool u2] 25)).alloc (.cells #[.int .i64 r3, .int .i64 s3, .int .i64 o3, .bool u3] 25) := ⟨_, rfl⟩
  have hA : Blk W w.heap.size 25 #[.int .i64 r, .int .i64 s, .int .i64 o, .bool u] := by rw [hWW]; exact ((Blk.new w _ _).alloc _).alloc _
  have hB : Blk W (w.heap.size + 1) 25 #[.int .i64 r2, .int .i64 s2, .int .i64 o2, .bool u2] := by
    have h := (Blk.new (w.alloc (.cells #[.int .i64 r, .int .i64 s, .int .i64 o, .bool u] 25)) 25 #[.int .i64 r2, .int .i64 s2, .int .i64 o2, .bool u2]).alloc (.cells #[.int .i64 r3, .int .i64 s3, .int .i64 o3, .bool u3] 25)
    rw [show (w.alloc (.cells #[.int .i64 r, .int .i64 s, .int .i64 o, .bool u] 25)).heap.size = w.heap.size + 1 by simp] at h
    rw [hWW]
    exact h
  have hC : Blk W (w.heap.size + 2) 25 #[.int .i64 r3, .int .i64 s3, .int .i64 o3, .bool u3] := by
    have h := Blk.new ((w.alloc (.cells #[.int .i64 r, .int .i64 s, .int .i64 o, .bool u] 25)).alloc (.cells #[.int .i64 r2, .int .i64 s2, .int .i64 o2, .bool u2] 25)) 25 #[.int .i64 r3, .int .i64 s3, .int .i64 o3, .bool u3]
    rw [show ((w.alloc (.cells #[.int .i64 r, .int .i64 s, .int .i64 o, .bool u] 25)).alloc (.cells #[.int .i64 r2, .int .i64 s2, .int .i64 o2, .bool u2] 25)).heap.size = w.heap.size + 2 by simp] at h
    rw [hWW]
    exact h
  have hBe : Below w.heap.size w W := by
    rw [hWW]
    exact (((Below.refl w.heap.size w).alloc (Nat.le_refl _) _).alloc (by simp) _).alloc (by simp; omega) _
  have HA := hide hA
  have HBK := hide hB
  have HCK := hide hC
  have HB := hide hBe
  have HWW := hide hWW
  clear hA hB hC hBe hWW
  have HG := hide hg.later
  clear hg
  unfold keyOf
  go_enter Tryd.func4, Tryd.ntmps4
  go_wp2_with fail
  rw [← HWW.out]
  refine (alive06 _ (HG.out _ HB.out)).mono ?_
  rintro e w1 ⟨rfl, hbl⟩
  have HB1 := hide (HB.out.trans (hbl.mono HB.out.size))
  have kA := key_cells HA.out hbl
  have kB := key_cells HBK.out hbl
  have KC := hide (key_cells HCK.out hbl)
  have a0 := fun w' h => (kA w' h).1
  have a1 := fun w' h => (kA w' h).2.1
  have a2 := fun w' h => (kA w' h).2.2.1
  have a3 := fun w' h => (kA w' h).2.2.2
  have b0 := fun w' h => (kB w' h).1
  have b1 := fun w' h => (kB w' h).2.1
  have b2 := fun w' h => (kB w' h).2.2.1
  have b3 := fun w' h => (kB w' h).2.2.2
  have KA := hide kA
  have KB := hide kB
  have P1 := hide (fun w' (h : Since w1 w') => (plesskey_any r s o u r2 s2 o2 u2 w').mono fun e w2 hh => And.intro hh.1 (since_of h hh.2))
  have P2 := hide (fun w' (h : Since w1 w') => (plesskey_any r2 s2 o2 u2 r s o u w').mono fun e w2 hh => And.intro hh.1 (since_of h hh.2))
  have hr0 := (Since.refl w1).drew
  clear kA kB hbl HA HBK HCK HB
  go_wp2_with fail
  go_cut [7, 8] (fun s7 s8 wx => s7 = .bool (lessKey r s o u r2 s2 o2 u2) ∧ s8 = .bool (lessKey r2 s2 o2 u2 r s o u) ∧ Hid (Since w1 wx))
  case first =>
    go_region_held (fun w' => Since w1 w') (assumption) (first
      | (go_at_call_of 13 ([Value.agg #[Value.int IntKind.i64 r2, Value.int IntKind.i64 s2, Value.int IntKind.i64 o2, Value.bool u2]]); refine (P1.out _ (by assumption)).mono ?_; rintro e w5 ⟨rfl, hs5⟩)
      | (go_at_call_of 13 ([Value.agg #[Value.int IntKind.i64 r, Value.int IntKind.i64 s, Value.int IntKind.i64 o, Value.bool u]]); refine (P2.out _ (by assumption)).mono ?_; rintro e w5 ⟨rfl, hs5⟩))
    all_goals (go_wp2_with fail)
    all_goals go_meet
    all_goals exact ⟨rfl, rfl, hide hs5⟩
  case rest =>
    obtain ⟨rfl, rfl, hs⟩ := hcut
    clear a0 a1 a2 a3 b0 b1 b2 b3 hr0 P1 P2
    obtain ⟨a0, a1, a2, a3⟩ := KA.out _ hs.out
    obtain ⟨b0, b1, b2, b3⟩ := KB.out _ hs.out
    obtain ⟨c0, c1, c2, c3⟩ := KC.out _ hs.out
    have KC := hide (fun w' (h : Since w1 w') => (show w'.cell? ⟨w.heap.size + 1 + 1, 0, none⟩ = some (.int .i64 r3) ∧ w'.cell? ⟨w.heap.size + 1 + 1, 1, none⟩ = some (.int .i64 s3) ∧ w'.cell? ⟨w.heap.size + 1 + 1, 2, none⟩ = some (.int .i64 o3) ∧ w'.cell? ⟨w.heap.size + 1 + 1, 3, none⟩ = some (.bool u3) from KC.out w' h))
    clear c0 c1 c2 c3
    obtain ⟨c0, c1, c2, c3⟩ := KC.out _ hs.out
    by_cases heq : r = r2 ∧ s = s2 ∧ o = o2 ∧ u = u2
    · obtain ⟨rfl, rfl, rfl, rfl⟩ := heq
      rw [lessKey_self]
      go_wp2
      go_ret
      exact ⟨rfl, HB1.out.trans (Below.mono hs.out HB1.out.size)⟩
    · have hf : ¬ r = r2 ∨ ¬ s = s2 ∨ ¬ o = o2 ∨ ¬ u = u2 := by
        by_cases h1 : r = r2
        · by_cases h2 : s = s2
          · by_cases h3 : o = o2
            · exact .inr (.inr (.inr fun h4 => heq ⟨h1, h2, h3, h4⟩))
            · exact .inr (.inr (.inl h3))
          · exact .inr (.inl h2)
        · exact .inl h1
      rcases lessKey_one heq with ⟨hab, hba⟩ | ⟨hab, hba⟩
      · rw [hab, hba]
        have HAB := hide hab
        clear hab hba heq
        rcases hf with hf | hf | hf | hf
        · go_wp2_with fail
          refine (plesskey_any r2 s2 o2 u2 r3 s3 o3 u3 _).mono ?_
          rintro e w2 ⟨rfl, hb2⟩
          have hs2 := hide (since_of hs.out hb2)
          obtain ⟨a0, a1, a2, a3⟩ := KA.out _ hs2.out
          obtain ⟨c0, c1, c2, c3⟩ := KC.out _ hs2.out
          cases hbc : lessKey r2 s2 o2 u2 r3 s3 o3 u3 with
          | false =>
            go_wp2
            go_ret
            exact ⟨rfl, HB1.out.trans (Below.mono hs2.out HB1.out.size)⟩
          | true =>
            have hac := lessKey_trans HAB.out hbc
            go_wp2_with fail
            refine (plesskey_any r s o u r3 s3 o3 u3 _).mono ?_
            rintro e w3 ⟨rfl, hb3⟩
            rw [hac]
            have hs3 := hide (since_of hs2.out hb3)
            go_wp2
            go_ret
            exact ⟨rfl, HB1.out.trans (Below.mono hs3.out HB1.out.size)⟩
        · go_wp2_with fail
          refine (plesskey_any r2 s2 o2 u2 r3 s3 o3 u3 _).mono ?_
          rintro e w2 ⟨rfl, hb2⟩
          have hs2 := hide (since_of hs.out hb2)
          obtain ⟨a0, a1, a2, a3⟩ := KA.out _ hs2.out
          obtain ⟨c0, c1, c2, c3⟩ := KC.out _ hs2.out
          cases hbc : lessKey r2 s2 o2 u2 r3 s3 o3 u3 with
          | false =>
            go_wp2
            go_ret
            exact ⟨rfl, HB1.out.trans (Below.mono hs2.out HB1.out.size)⟩
          | true =>
            have hac := lessKey_trans HAB.out hbc
            go_wp2_with fail
            refine (plesskey_any r s o u r3 s3 o3 u3 _).mono ?_
            rintro e w3 ⟨rfl, hb3⟩
            rw [hac]
            have hs3 := hide (since_of hs2.out hb3)
            go_wp2
            go_ret
            exact ⟨rfl, HB1.out.trans (Below.mono hs3.out HB1.out.size)⟩
        · go_wp2_with fail
          refine (plesskey_any r2 s2 o2 u2 r3 s3 o3 u3 _).mono ?_
          rintro e w2 ⟨rfl, hb2⟩
          have hs2 := hide (since_of hs.out hb2)
          obtain ⟨a0, a1, a2, a3⟩ := KA.out _ hs2.out
          obtain ⟨c0, c1, c2, c3⟩ := KC.out _ hs2.out
          cases hbc : lessKey r2 s2 o2 u2 r3 s3 o3 u3 with
          | false =>
            go_wp2
            go_ret
            exact ⟨rfl, HB1.out.trans (Below.mono hs2.out HB1.out.size)⟩
          | true =>
            have hac := lessKey_trans HAB.out hbc
            go_wp2_with fail
            refine (plesskey_any r s o u r3 s3 o3 u3 _).mono ?_
            rintro e w3 ⟨rfl, hb3⟩
            rw [hac]
            have hs3 := hide (since_of hs2.out hb3)
            go_wp2
            go_ret
            exact ⟨rfl, HB1.out.trans (Below.mono hs3.out HB1.out.size)⟩
        · go_wp2_with fail
          refine (plesskey_any r2 s2 o2 u2 r3 s3 o3 u3 _).mono ?_
          rintro e w2 ⟨rfl, hb2⟩
          have hs2 := hide (since_of hs.out hb2)
          obtain ⟨a0, a1, a2, a3⟩ := KA.out _ hs2.out
          obtain ⟨c0, c1, c2, c3⟩ := KC.out _ hs2.out
          cases hbc : lessKey r2 s2 o2 u2 r3 s3 o3 u3 with
          | false =>
            go_wp2
            go_ret
            exact ⟨rfl, HB1.out.trans (Below.mono hs2.out HB1.out.size)⟩
          | true =>
            have hac := lessKey_trans HAB.out hbc
            go_wp2_with fail
            refine (plesskey_any r s o u r3 s3 o3 u3 _).mono ?_
            rintro e w3 ⟨rfl, hb3⟩
            rw [hac]
            have hs3 := hide (since_of hs2.out hb3)
            go_wp2
            go_ret
            exact ⟨rfl, HB1.out.trans (Below.mono hs3.out HB1.out.size)⟩
      · rw [hab, hba]
        clear hab hba heq
        rcases hf with hf | hf | hf | hf
        · go_wp2
          go_ret
          exact ⟨rfl, HB1.out.trans (Below.mono hs.out HB1.out.size)⟩
        · go_wp2
          go_ret
          exact ⟨rfl, HB1.out.trans (Below.mono hs.out HB1.out.size)⟩
        · go_wp2
          go_ret
          exact ⟨rfl, HB1.out.trans (Below.mono hs.out HB1.out.size)⟩
        · go_wp2
          go_ret
          exact ⟨rfl, HB1.out.trans (Below.mono hs.out HB1.out.size)⟩
end Go.Proofs.YtkdnplaoondlbaaDoor
