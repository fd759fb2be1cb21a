/-
  The contract of ident.Text, whose numbers strconv.Itoa writes.
-/
import Derived.Test.YtdlmpdhbehpmpaaDoorIdentC
import Derived.Test.YtdlmpdhbehpmpaaDoorIdentText
import Derived.Test.YtdlmpdhbehpmpaaDoorItoa
import Derived.Test.YtdlmpdhbehpmpaaDoorLater
import Derived.Deep.RegionHeld3
namespace Go.Proofs.YtdlmpdhbehpmpaaDoor
open Go.RowKit
set_option linter.unusedVariables false

set_option maxHeartbeats 1000000 in
theorem ptext_any (r s : Int) (w : World) (hg : Good w) (h1 : -9223372036854775808 ≤ r) (h2 : r ≤ 9223372036854775807) (h3 : -9223372036854775808 ≤ s) (h4 : s ≤ 9223372036854775807) : Calls Tryd.prog 33 #[idOf r s] w fun e w' => e = .returned (.string (txt (textId r s))) ∧ Below w.heap.size w w' := by
  have l1 := itoa_len h1 h2
  have l2 := itoa_len h3 h4
  have e : txt (textId r s) = txt (Lib.itoa r) ++ txt [46] ++ txt (Lib.itoa s) := by rw [txt_app, txt_app]; simp [textId]
  have z1 : (txt (Lib.itoa r)).size ≤ 21 := by rw [txt_size]; exact l1
  have z2 : (txt (Lib.itoa s)).size ≤ 21 := by rw [txt_size]; exact l2
  have HA := hide (Blk.new w 23 #[.int .i64 r, .int .i64 s])
  have HB := hide ((Below.refl w.heap.size w).alloc (Nat.le_refl _) (.cells #[.int .i64 r, .int .i64 s] 23))
  have HG := hide (fun w' h => hg.later w' h)
  have PR := hide (fun w' hg => itoa_any r w' hg h1 h2)
  have PS := hide (fun w' hg => itoa_any s w' hg h3 h4)
  have E := hide e
  clear e l1 l2 h1 h2 h3 h4 hg
  generalize txt (Lib.itoa r) = R at *
  generalize txt (Lib.itoa s) = S at *
  have q1 : ¬ 9223372036854775807 < R.size + 1 := by omega
  have q2 : ¬ 9223372036854775807 < R.size + 1 + S.size := by omega
  clear z1 z2
  unfold idOf
  go_enter Tryd.func33, Tryd.ntmps33
  go_wp2_with fail
  obtain ⟨w1, hw1⟩ : ∃ w1, w1 = w.alloc (.cells #[.int .i64 r, .int .i64 s] 23) := ⟨_, rfl⟩
  rw [← hw1] at HA HB ⊢
  have hb : ∀ w', Since w1 w' → w'.cell? ⟨w.heap.size, 0, none⟩ = some (.int .i64 r) ∧ w'.cell? ⟨w.heap.size, 1, none⟩ = some (.int .i64 s) := fun w' h => by
    have k := HA.out.below h HA.out.lt
    exact ⟨(k.cell 0).trans rfl, (k.cell 1).trans rfl⟩
  have a0 := fun w' h => (hb w' h).1
  have a1 := fun w' h => (hb w' h).2
  have P1 := hide (fun w' (h : Since w1 w') => (PR.out w' (HG.out w' (HB.out.trans (Below.mono h HB.out.size)))).mono fun e w2 hh => And.intro hh.1 (h.next hh.2))
  have P2 := hide (fun w' (h : Since w1 w') => (PS.out w' (HG.out w' (HB.out.trans (Below.mono h HB.out.size)))).mono fun e w2 hh => And.intro hh.1 (h.next hh.2))
  have hr0 := (Since.refl w1).drew
  clear hb hw1 PR PS HA
  go_region_held (fun w' => Since w1 w') (assumption) (first
    | (go_at_call_of 31 r; refine (P1.out _ (by assumption)).mono ?_; rintro e w5 ⟨rfl, hs5⟩)
    | (go_at_call_of 31 s; refine (P2.out _ (by assumption)).mono ?_; rintro e w5 ⟨rfl, hs5⟩))
  all_goals go_wp2
  all_goals go_ret
  all_goals exact ⟨by rw [E.out]; rfl, HB.out.trans (Below.mono hs5 HB.out.size)⟩

end Go.Proofs.YtdlmpdhbehpmpaaDoor
