/-
  The walks of IdentLies and IdentOrders.
-/
import Derived.Test.YtkdnplaoondlbaaDoorIdentAlive
import Derived.Test.YtkdnplaoondlbaaDoorSince
import Derived.Deep.RegionHeld
namespace Go.Proofs.YtkdnplaoondlbaaDoor
open Go.RowKit
set_option linter.unusedVariables false

/-- The four cells of a key's block, in whatever world comes behind. -/
theorem key_cells {w w1 : World} {g : Nat} {t : TypeId} {a b c d : Value} (h : Blk w g t #[a, b, c, d]) (hs : Since w w1) : ∀ w', Since w1 w' →
    w'.cell? ⟨g, 0, none⟩ = some a ∧ w'.cell? ⟨g, 1, none⟩ = some b ∧ w'.cell? ⟨g, 2, none⟩ = some c ∧ w'.cell? ⟨g, 3, none⟩ = some d := fun w' h' => by
  have k := (h.below hs h.lt).below h' (h.below hs h.lt).lt
  exact ⟨(k.cell 0).trans rfl, (k.cell 1).trans rfl, (k.cell 2).trans rfl, (k.cell 3).trans rfl⟩
theorem since_of {w0 w w' : World} (h : Since w0 w) (hb : Below w.heap.size w w') : Since w0 w' := h.next hb

set_option maxRecDepth 100000 in
set_option maxHeartbeats 4000000 in
theorem lies_walk (r s o : Int) (u : Bool) (r2 s2 o2 : Int) (u2 : Bool) (w : World) (hg : Good w) :
    Calls Tryd.prog 3 #[keyOf r s o u, keyOf r2 s2 o2 u2] w fun e w' => e = .returned (.bool true) ∧ Below w.heap.size w w' := by
  have hW : ((w.alloc (.cells #[.int .i64 r, .int .i64 s, .int .i64 o, .bool u] 25)).alloc (.cells #[.int .i64 r2, .int .i64 s2, .int .i64 o2, .bool u2] 25)).heap.size = w.heap.size + 2 := by simp
  have hA : Blk ((w.alloc (.cells #[.int .i64 r, .int .i64 s, .int .i64 o, .bool u] 25)).alloc (.cells #[.int .i64 r2, .int .i64 s2, .int .i64 o2, .bool u2] 25)) w.heap.size 25 #[.int .i64 r, .int .i64 s, .int .i64 o, .bool u] := (Blk.new w _ _).alloc _
  have hB : Blk ((w.alloc (.cells #[.int .i64 r, .int .i64 s, .int .i64 o, .bool u] 25)).alloc (.cells #[.int .i64 r2, .int .i64 s2, .int .i64 o2, .bool u2] 25)) (w.heap.size + 1) 25 #[.int .i64 r2, .int .i64 s2, .int .i64 o2, .bool u2] := by
    have h := Blk.new (w.alloc (.cells #[.int .i64 r, .int .i64 s, .int .i64 o, .bool u] 25)) 25 #[.int .i64 r2, .int .i64 s2, .int .i64 o2, .bool u2]
    rwa [show (w.alloc (.cells #[.int .i64 r, .int .i64 s, .int .i64 o, .bool u] 25)).heap.size = w.heap.size + 1 by simp] at h
  have HA := hide hA
  have HBK := hide hB
  have HB := hide (((Below.refl w.heap.size w).alloc (Nat.le_refl _) (.cells #[.int .i64 r, .int .i64 s, .int .i64 o, .bool u] 25)).alloc (by simp) (.cells #[.int .i64 r2, .int .i64 s2, .int .i64 o2, .bool u2] 25))
  clear hA hB hW
  have HG := hide hg.later
  clear hg
  unfold keyOf
  go_enter Tryd.func3, Tryd.ntmps3
  go_wp2_with fail
  refine (alive06 _ (HG.out _ HB.out)).mono ?_
  rintro e w1 ⟨rfl, hbl⟩
  have HB1 := hide (HB.out.trans (hbl.mono HB.out.size))
  have kA := key_cells HA.out hbl
  have kB := key_cells HBK.out hbl
  have a0 := fun w' h => (kA w' h).1
  have a1 := fun w' h => (kA w' h).2.1
  have a2 := fun w' h => (kA w' h).2.2.1
  have a3 := fun w' h => (kA w' h).2.2.2
  have b0 := fun w' h => (kB w' h).1
  have b1 := fun w' h => (kB w' h).2.1
  have b2 := fun w' h => (kB w' h).2.2.1
  have b3 := fun w' h => (kB w' h).2.2.2
  have P1 := hide (fun w' (h : Since w1 w') => (pmay_any r s w').mono fun e w2 hh => And.intro hh.1 (since_of h hh.2))
  have P2 := hide (fun w' (h : Since w1 w') => (refmay_any r s w').mono fun e w2 hh => And.intro hh.1 (since_of h hh.2))
  have P3 := hide (fun w' (h : Since w1 w') => (pmaykey_any r s o u w').mono fun e w2 hh => And.intro hh.1 (since_of h hh.2))
  have P4 := hide (fun w' (h : Since w1 w') => (refmaykey_any r s o u w').mono fun e w2 hh => And.intro hh.1 (since_of h hh.2))
  have P5 := hide (fun w' (h : Since w1 w') => (pless_any r s r2 s2 w').mono fun e w2 hh => And.intro hh.1 (since_of h hh.2))
  have P6 := hide (fun w' (h : Since w1 w') => (refless_any r s r2 s2 w').mono fun e w2 hh => And.intro hh.1 (since_of h hh.2))
  have P7 := hide (fun w' (h : Since w1 w') => (plesskey_any r s o u r2 s2 o2 u2 w').mono fun e w2 hh => And.intro hh.1 (since_of h hh.2))
  have P8 := hide (fun w' (h : Since w1 w') => (reflesskey_any r s o u r2 s2 o2 u2 w').mono fun e w2 hh => And.intro hh.1 (since_of h hh.2))
  have P9 := hide (fun w' (h : Since w1 w') => (pother_any r s o u w').mono fun e w2 hh => And.intro hh.1 (since_of h hh.2))
  have P10 := hide (fun w' (h : Since w1 w') => (refother_any r s o u w').mono fun e w2 hh => And.intro hh.1 (since_of h hh.2))
  have hr0 := (Since.refl w1).drew
  clear kA kB hbl HA HBK HB
  unfold keyOf at P9 P10
  go_wp2_with fail
  go_region_held (fun w' => Since w1 w') (assumption) (first
    | (go_at_call 7; refine (P1.out _ (by assumption)).mono ?_; rintro e w5 ⟨rfl, hs5⟩)
    | (go_at_call 8; refine (P2.out _ (by assumption)).mono ?_; rintro e w5 ⟨rfl, hs5⟩)
    | (go_at_call 9; refine (P3.out _ (by assumption)).mono ?_; rintro e w5 ⟨rfl, hs5⟩)
    | (go_at_call 10; refine (P4.out _ (by assumption)).mono ?_; rintro e w5 ⟨rfl, hs5⟩)
    | (go_at_call 11; refine (P5.out _ (by assumption)).mono ?_; rintro e w5 ⟨rfl, hs5⟩)
    | (go_at_call 12; refine (P6.out _ (by assumption)).mono ?_; rintro e w5 ⟨rfl, hs5⟩)
    | (go_at_call 13; refine (P7.out _ (by assumption)).mono ?_; rintro e w5 ⟨rfl, hs5⟩)
    | (go_at_call 14; refine (P8.out _ (by assumption)).mono ?_; rintro e w5 ⟨rfl, hs5⟩)
    | (go_at_call 15; refine (P9.out _ (by assumption)).mono ?_; rintro e w5 ⟨rfl, hs5⟩)
    | (go_at_call 16; refine (P10.out _ (by assumption)).mono ?_; rintro e w5 ⟨rfl, hs5⟩))
  all_goals go_wp2
  all_goals go_ret
  all_goals exact ⟨rfl, HB1.out.trans (Below.mono hs5 HB1.out.size)⟩
end Go.Proofs.YtkdnplaoondlbaaDoor
