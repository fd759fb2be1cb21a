/-
  The statements' alive of layer 7: it is true.
-/
import Derived.Test.YtfidglkhpikdbaaStampP
import Derived.Deep.RegionHeld
namespace Go.Proofs.Ytfidglkhpikdbaa
open Go.RowKit
set_option linter.unusedVariables false

def chA : Chg := ⟨2, 1, 3, 0, 0, 0, 0, 0, 0⟩
def chB : Chg := ⟨0, 1, 4, 0, 0, 0, 0, 0, 0⟩
theorem ok_ab : ∀ x ∈ [chA, chB], x.ok := by
  intro x hx
  simp only [List.mem_cons, List.not_mem_nil, or_false] at hx
  rcases hx with rfl | rfl <;> simp [Chg.ok, I64, chA, chB]
/-- What Without leaves of the two. -/
theorem without_ab {w w' : World} {e : Ending} {S : World → Prop} (h : FreshC w (skip 0 0 [chA, chB]) w' e) (hs : Below w.heap.size w w' → S w') : ∃ A c, e = .returned (.slice A 1 c) ∧ S w' := by
  obtain ⟨A, c, he, _, hb⟩ := h
  exact ⟨A, c, he, hs hb⟩
theorem sorted_ab : sortC [chB, chA] = [chA, chB] := by decide
theorem skip_ab : skip 0 0 [chA, chB] = [chB] := by decide
theorem seek_ab : seek 0 1 0 [chA, chB] = 1 := by decide
theorem last_ab : lastT [chA, chB] = 4 := by decide
theorem less_ab : lessC chA chB = true := by decide
set_option maxHeartbeats 4000000 in
theorem alive07 (w : World) : Calls Try.prog 6 #[] w fun e w' => e = .returned (.bool true) ∧ Below w.heap.size w w' := by
  obtain ⟨W, hW⟩ : ∃ W, W = (w.alloc (.cells #[.int .i64 2, .int .i64 1, .int .i64 3, .int .i64 0, .int .i64 0, .int .i64 0, .int .i64 0, .int .i64 0, .int .i64 0] 25)).alloc (.cells #[.int .i64 0, .int .i64 1, .int .i64 4, .int .i64 0, .int .i64 0, .int .i64 0, .int .i64 0, .int .i64 0, .int .i64 0] 25) := ⟨_, rfl⟩
  have hWs : W.heap.size = w.heap.size + 1 + 1 := by rw [hW]; simp
  have hA : At W w.heap.size 0 chA := by
    rw [hW]
    exact (at_new w chA 25).below (B := w.heap.size + 1) (Below.alloc (Below.refl _ _) (by simp) _) (by omega)
  have hB : At W (w.heap.size + 1) 0 chB := by
    rw [hW]
    have := at_new (w.alloc (.cells #[.int .i64 2, .int .i64 1, .int .i64 3, .int .i64 0, .int .i64 0, .int .i64 0, .int .i64 0, .int .i64 0, .int .i64 0] 25)) chB 25
    rwa [show (w.alloc (.cells #[.int .i64 2, .int .i64 1, .int .i64 3, .int .i64 0, .int .i64 0, .int .i64 0, .int .i64 0, .int .i64 0, .int .i64 0] 25)).heap.size = w.heap.size + 1 by simp] at this
  have hR := rowK_new W [chB, chA] #[.int .i64 0, .int .i64 1, .int .i64 4, .int .i64 0, .int .i64 0, .int .i64 0, .int .i64 0, .int .i64 0, .int .i64 0, .int .i64 2, .int .i64 1, .int .i64 3, .int .i64 0, .int .i64 0, .int .i64 0, .int .i64 0, .int .i64 0, .int .i64 0] 2 25 rfl rfl (by omega)
  rw [hWs] at hR
  have HR := hide hR
  have HA := hide hA
  have HBk := hide hB
  have HBW := hide (show Below w.heap.size w W by rw [hW]; exact ((Below.refl _ w).alloc (Nat.le_refl _) _).alloc (by simp) _)
  have HWs := hide hWs
  have HW := hide hW
  clear hA hB hR hWs hW
  go_enter Try.func6, Try.ntmps6
  go_wp2_with fail
  rw [← HW.out]
  refine (ssorted_any _ _ 2 2 [chB, chA] _ HR.out (by omega)).mono ?_
  rintro e w1 ⟨A1, c1, rfl, hown, hb⟩
  rw [sorted_ab] at hown ⊢
  have hown : w1.ownsRow _ 25 9 (.slice A1 2 c1) 2 (chgs [chA, chB]) := hown
  have HS := hide (Since.trans (show Since W (W.alloc (.cells #[.int .i64 0, .int .i64 1, .int .i64 4, .int .i64 0, .int .i64 0, .int .i64 0, .int .i64 0, .int .i64 0, .int .i64 0, .int .i64 2, .int .i64 1, .int .i64 3, .int .i64 0, .int .i64 0, .int .i64 0, .int .i64 0, .int .i64 0, .int .i64 0] 25)) from (Since.refl W).alloc _) hb)
  have hr := RowK.of_own hown
  obtain ⟨b, o, x, rfl, -, hlt, hx, hat⟩ := chgs_at hr (i := 0) (by omega)
  obtain rfl : chA = x := by simpa using hx
  rw [Nat.zero_mul, Nat.add_zero] at hat
  have HRow := hide hr
  have hAl : w.heap.size < W.heap.size := by rw [HWs.out]; omega
  have hBl : w.heap.size + 1 < W.heap.size := by rw [HWs.out]; omega
  have kA := fun w' (h : Since w1 w') => (HA.out.later hAl (Since.trans HS.out h))
  have kB := fun w' (h : Since w1 w') => (HBk.out.later hBl (Since.trans HS.out h))
  have kL := fun w' (h : Since w1 w') => hat.later hlt h
  have a0 : ∀ w', Since w1 w' → w'.cell? ⟨w.heap.size, 0, none⟩ = some (.int .i64 2) := fun w' h => (kA w' h).1
  have a1 : ∀ w', Since w1 w' → w'.cell? ⟨w.heap.size, 1, none⟩ = some (.int .i64 1) := fun w' h => (kA w' h).2.1
  have a2 : ∀ w', Since w1 w' → w'.cell? ⟨w.heap.size, 2, none⟩ = some (.int .i64 3) := fun w' h => (kA w' h).2.2.1
  have a3 : ∀ w', Since w1 w' → w'.cell? ⟨w.heap.size, 3, none⟩ = some (.int .i64 0) := fun w' h => (kA w' h).2.2.2.1
  have a4 : ∀ w', Since w1 w' → w'.cell? ⟨w.heap.size, 4, none⟩ = some (.int .i64 0) := fun w' h => (kA w' h).2.2.2.2.1
  have a5 : ∀ w', Since w1 w' → w'.cell? ⟨w.heap.size, 5, none⟩ = some (.int .i64 0) := fun w' h => (kA w' h).2.2.2.2.2.1
  have a6 : ∀ w', Since w1 w' → w'.cell? ⟨w.heap.size, 6, none⟩ = some (.int .i64 0) := fun w' h => (kA w' h).2.2.2.2.2.2.1
  have a7 : ∀ w', Since w1 w' → w'.cell? ⟨w.heap.size, 7, none⟩ = some (.int .i64 0) := fun w' h => (kA w' h).2.2.2.2.2.2.2.1
  have a8 : ∀ w', Since w1 w' → w'.cell? ⟨w.heap.size, 8, none⟩ = some (.int .i64 0) := fun w' h => (kA w' h).2.2.2.2.2.2.2.2
  have b0 : ∀ w', Since w1 w' → w'.cell? ⟨w.heap.size + 1, 0, none⟩ = some (.int .i64 0) := fun w' h => (kB w' h).1
  have b1 : ∀ w', Since w1 w' → w'.cell? ⟨w.heap.size + 1, 1, none⟩ = some (.int .i64 1) := fun w' h => (kB w' h).2.1
  have b2 : ∀ w', Since w1 w' → w'.cell? ⟨w.heap.size + 1, 2, none⟩ = some (.int .i64 4) := fun w' h => (kB w' h).2.2.1
  have b3 : ∀ w', Since w1 w' → w'.cell? ⟨w.heap.size + 1, 3, none⟩ = some (.int .i64 0) := fun w' h => (kB w' h).2.2.2.1
  have b4 : ∀ w', Since w1 w' → w'.cell? ⟨w.heap.size + 1, 4, none⟩ = some (.int .i64 0) := fun w' h => (kB w' h).2.2.2.2.1
  have b5 : ∀ w', Since w1 w' → w'.cell? ⟨w.heap.size + 1, 5, none⟩ = some (.int .i64 0) := fun w' h => (kB w' h).2.2.2.2.2.1
  have b6 : ∀ w', Since w1 w' → w'.cell? ⟨w.heap.size + 1, 6, none⟩ = some (.int .i64 0) := fun w' h => (kB w' h).2.2.2.2.2.2.1
  have b7 : ∀ w', Since w1 w' → w'.cell? ⟨w.heap.size + 1, 7, none⟩ = some (.int .i64 0) := fun w' h => (kB w' h).2.2.2.2.2.2.2.1
  have b8 : ∀ w', Since w1 w' → w'.cell? ⟨w.heap.size + 1, 8, none⟩ = some (.int .i64 0) := fun w' h => (kB w' h).2.2.2.2.2.2.2.2
  have l0 : ∀ w', Since w1 w' → w'.cell? ⟨b, o, none⟩ = some (.int .i64 2) := fun w' h => (kL w' h).1
  have l1 : ∀ w', Since w1 w' → w'.cell? ⟨b, o + 1, none⟩ = some (.int .i64 1) := fun w' h => (kL w' h).2.1
  have l2 : ∀ w', Since w1 w' → w'.cell? ⟨b, o + 2, none⟩ = some (.int .i64 3) := fun w' h => (kL w' h).2.2.1
  have l3 : ∀ w', Since w1 w' → w'.cell? ⟨b, o + 3, none⟩ = some (.int .i64 0) := fun w' h => (kL w' h).2.2.2.1
  have l4 : ∀ w', Since w1 w' → w'.cell? ⟨b, o + 4, none⟩ = some (.int .i64 0) := fun w' h => (kL w' h).2.2.2.2.1
  have l5 : ∀ w', Since w1 w' → w'.cell? ⟨b, o + 5, none⟩ = some (.int .i64 0) := fun w' h => (kL w' h).2.2.2.2.2.1
  have l6 : ∀ w', Since w1 w' → w'.cell? ⟨b, o + 6, none⟩ = some (.int .i64 0) := fun w' h => (kL w' h).2.2.2.2.2.2.1
  have l7 : ∀ w', Since w1 w' → w'.cell? ⟨b, o + 7, none⟩ = some (.int .i64 0) := fun w' h => (kL w' h).2.2.2.2.2.2.2.1
  have l8 : ∀ w', Since w1 w' → w'.cell? ⟨b, o + 8, none⟩ = some (.int .i64 0) := fun w' h => (kL w' h).2.2.2.2.2.2.2.2
  have hr0 := (Since.refl w1).drew
  have P1 := hide (fun w' (h : Since w1 w') => (sless_any chA chB w').mono fun e w2 hh => And.intro hh.1 (Since.next h hh.2))
  have P2 := hide (fun w' (h : Since w1 w') => (sfind_any _ _ 2 c1 [chA, chB] 0 1 w' (HRow.out.below (by omega) h (fun _ _ h => h))).mono fun e w2 hh => And.intro hh.1 (Since.next h hh.2))
  have P3 := hide (fun w' (h : Since w1 w') => (slast_any _ _ 2 2 [chA, chB] _ (rowK_new w' [chA, chB] #[.int .i64 2, .int .i64 1, .int .i64 3, .int .i64 0, .int .i64 0, .int .i64 0, .int .i64 0, .int .i64 0, .int .i64 0, .int .i64 0, .int .i64 1, .int .i64 4, .int .i64 0, .int .i64 0, .int .i64 0, .int .i64 0, .int .i64 0, .int .i64 0] 2 25 rfl rfl (by omega)) ok_ab).mono fun e w2 hh => And.intro hh.1 (Since.next (h.alloc _) hh.2))
  have P4 := hide (fun w' (h : Since w1 w') => (swithout_any _ _ 2 c1 [chA, chB] 0 w' (HRow.out.below (by omega) h (fun _ _ h => h)) (by omega)).mono fun e w2 hh => without_ab hh (Since.next h))
  rw [less_ab] at P1
  rw [seek_ab] at P2
  rw [last_ab] at P3
  clear kA kB kL hr hown hb hat hx hlt hAl hBl HR HA HBk HW
  go_wp2_with fail
  go_region_held (fun w' => Since w1 w') (first | assumption | exact Since.alloc (by assumption) _) (first
    | (go_at_call 7; refine (P1.out _ (by assumption)).mono ?_; rintro e w5 ⟨rfl, hs5⟩)
    | (go_at_call 15; refine (P2.out _ (by assumption)).mono ?_; rintro e w5 ⟨rfl, hs5⟩)
    | (go_at_call 17; refine (P3.out _ (by assumption)).mono ?_; rintro e w5 ⟨rfl, hs5⟩)
    | (go_at_call 11; refine (P4.out _ (by assumption)).mono ?_; rintro e w5 ⟨A5, c5, rfl, hs5⟩))
  all_goals go_wp2
  all_goals go_ret
  all_goals exact ⟨rfl, HBW.out.trans (Below.mono (Since.trans HS.out hs5) HBW.out.size)⟩
end Go.Proofs.Ytfidglkhpikdbaa
