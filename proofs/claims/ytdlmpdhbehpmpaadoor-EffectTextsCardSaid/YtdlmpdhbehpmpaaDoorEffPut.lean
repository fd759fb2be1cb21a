/-
  The reference's contracts of layer 10: an effect's octets.
-/
import Derived.Test.YtdlmpdhbehpmpaaDoorEffMay
import Derived.Test.YtdlmpdhbehpmpaaDoorChangeRef
import Derived.Handy
namespace Go.Proofs.YtdlmpdhbehpmpaaDoor
open Go.RowKit
set_option linter.unusedVariables false

theorem two_row (w : World) (x y : Int) : Row (w.alloc (.cells #[.int .u8 x, .int .u8 y] 5)) (fun _ => True) (some ⟨w.heap.size, 0, none⟩) 2 2 (octs [x, y]) :=
  ⟨rfl, by omega, by omega, .inr ⟨w.heap.size, 0, rfl, trivial, fun j hj => by
    rw [Nat.zero_add, (Blk.new w 5 #[.int .u8 x, .int .u8 y]).cell j, List.getElem?_toArray]
    rfl⟩⟩
theorem Eff.At.five {w w' : World} {B b : Nat} {x : Eff} (h : Eff.At w b 0 x) (hb : Below B w w') (hlt : b < B) : w'.cell? ⟨b, 0, none⟩ = some (.int .i64 x.k) ∧ w'.cell? ⟨b, 1, none⟩ = some (.int .i64 x.a) ∧ w'.cell? ⟨b, 2, none⟩ = some (.int .i64 x.n) ∧ w'.cell? ⟨b, 3, none⟩ = some (.int .i64 x.p) ∧ w'.cell? ⟨b, 4, none⟩ = some (.int .i64 x.q) := by
  have := h.below hb hlt
  simpa only [Eff.At, Nat.zero_add] using this

set_option maxHeartbeats 4000000 in
theorem refpute_any (x : Eff) (hx : codeE x = 0) (hn : I64 x.n) (w : World) : Calls Tryd.prog 12 #[x.val] w fun e w' => Fresh w (bytesE x) w' e := by
  obtain ⟨k, a, n, p, q⟩ := x
  have hm := codeE_zero.1 hx
  have hBY := hide (show bytesE ⟨k, a, n, p, q⟩ = [k, a] ++ inOcts (IntKind.u64.wrap n) 8 ++ [p] ++ inOcts q 2 from rfl)
  have HLB := hide (bytesE_len ⟨k, a, n, p, q⟩)
  generalize bytesE ⟨k, a, n, p, q⟩ = BY at *
  simp only at hm hn
  obtain ⟨k0, k1, a0, a1, p0, p1, q0, q1⟩ := hm
  clear hx
  obtain ⟨i5, hi, hz0, hz1, hz2⟩ := info_parts info5
  have hmm : 0 ≤ IntKind.u64.wrap n ∧ IntKind.u64.wrap n ≤ 18446744073709551615 := by rw [IntKind.wrap_u64]; omega
  obtain ⟨m0, m1⟩ := hmm
  have hk8 : IntKind.u8.wrap k = k := by rw [IntKind.wrap_u8]; omega
  have ha8 : IntKind.u8.wrap a = a := by rw [IntKind.wrap_u8]; omega
  have hp8 : IntKind.u8.wrap p = p := by rw [IntKind.wrap_u8]; omega
  have hq8 : IntKind.u64.wrap q = q := by rw [IntKind.wrap_u64]; omega
  obtain ⟨W, hW⟩ : ∃ W, W = (w.alloc (.cells #[.int .i64 k, .int .i64 a, .int .i64 n, .int .i64 p, .int .i64 q] 25)) := ⟨_, rfl⟩
  have HWs := hide (show W.heap.size = w.heap.size + 1 by rw [hW]; simp)
  have HA := hide (show Eff.At W w.heap.size 0 ⟨k, a, n, p, q⟩ by rw [hW]; exact eff_at_new w ⟨k, a, n, p, q⟩ _)
  have HBW := hide (show Below w.heap.size w W by rw [hW]; exact (Below.refl _ w).alloc (Nat.le_refl _) _)
  have HW := hide hW
  have CE := hide (fun w' (hb : Below W.heap.size W w') => HA.out.five hb (by rw [HWs.out]; omega))
  clear hW
  unfold Eff.val
  obtain ⟨c0, c1, c2, c3, c4⟩ := CE.out W (Below.refl _ W)
  rw [HW.out] at c0 c1 c2 c3 c4
  try simp only at c0 c1 c2 c3 c4
  go_enter Tryd.func12, Tryd.ntmps12
  go_wp2_with fail
  rw [← HW.out]
  have hs : w.heap.size + 1 = W.heap.size := HWs.out.symm
  refine (refput_yes _ _ 2 2 [k, a] (IntKind.u64.wrap n) 8 _ (by first | exact two_row W k a | (rw [hs]; exact two_row W k a)) (by intro n hn; simp only [List.mem_cons, List.not_mem_nil, or_false] at hn; omega) (by omega) m0 m1 (by omega) (by omega)).mono ?_
  rintro e w1 hf
  obtain ⟨A1, d1, rfl, hown, hbl⟩ := hf.row (k := 10) (by simp [inOcts_len])
  have HB := hide (((Below.refl W.heap.size W).alloc (Nat.le_refl _) (.cells #[.int .u8 k, .int .u8 a] 5)).trans (hbl.mono (by simp)))
  have HO := hide (own_mono hown (show W.heap.size ≤ _ by simp))
  clear hown hbl hf c0 c1 c2 c3 c4
  obtain ⟨c0, c1, c2, c3, c4⟩ := CE.out _ HB.out
  try simp only at c0 c1 c2 c3 c4
  go_wp2_with (at_builtin; refine wpList_append_own_at _ rfl _ _ 26 rfl W.heap.size 5 i5 (.int .u8 0) 1 1 Tryd.underlying26 hi hz0 hz1 hz2 rfl (by decide) _ 10 _ rfl (HO.out.alloc _) ⟨w1.heap.size, 0, none⟩ 1 1 [.int .u8 p] rfl rfl (cell_one_new _ _ _) (by simp [Value.oneCell']) ?h1 ?h2 ?h3 ?_)
  case h1 => unfold maxLen; omega
  case h2 => omega
  case h3 => have := HB.out.size; simp; omega
  intro v2 w2 hown hgr _ _
  obtain ⟨A2, d2, rfl⟩ := own_form hown
  rw [← octs_append'] at hown
  have HB := hide ((HB.out.alloc HB.out.size (.cells #[.int .u8 p] 5)).grown hgr (by have := HB.out.size; simp; omega) (own_at HO.out))
  have HO := hide hown
  clear hown hgr c0 c1 c2 c3 c4
  obtain ⟨c0, c1, c2, c3, c4⟩ := CE.out _ HB.out
  try simp only at c0 c1 c2 c3 c4
  have HQ := hide (show Octs ([k, a] ++ inOcts (IntKind.u64.wrap n) 8 ++ [p]) from ((Octs.append (by intro n hn; simp only [List.mem_cons, List.not_mem_nil, or_false] at hn; omega) (inOcts_octs _ _)).append (by intro n hn; simp only [List.mem_cons, List.not_mem_nil, or_false] at hn; omega)))
  go_wp2_with fail
  refine (refput_yes _ A2 11 d2 _ q 2 _ (Row.of_own HO.out) HQ.out (by omega) (by omega) (by omega) (by omega) (by omega)).mono ?_
  rintro e w3 hf
  obtain ⟨A3, d3, rfl, hown, hbl⟩ := hf.row (k := 13) (by simp [inOcts_len])
  have HO := hide (own_mono hown HB.out.size)
  have HB := hide (HB.out.trans (hbl.mono HB.out.size))
  clear hown hbl hf c0 c1 c2 c3 c4
  go_wp2
  go_ret
  have ho := own_mono HO.out (base' := w.heap.size) (by rw [HWs.out]; omega)
  have hl := HLB.out
  rw [hBY.out]
  refine ⟨A3, d3, ?_, ?_, HBW.out.trans (HB.out.mono (by rw [HWs.out]; omega))⟩
  · simp [inOcts_len]
  · rw [show ([k, a] ++ inOcts (IntKind.u64.wrap n) 8 ++ [p] ++ inOcts q 2).length = 13 by simp [inOcts_len]]; exact ho
end Go.Proofs.YtdlmpdhbehpmpaaDoor
