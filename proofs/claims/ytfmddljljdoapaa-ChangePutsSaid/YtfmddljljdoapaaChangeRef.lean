/-
  The reference's contracts of layer 9: a change's octets.
-/
import Derived.Test.YtfmddljljdoapaaChangeMay
import Derived.Test.YtfmddljljdoapaaAppK
import Derived.Handy
namespace Go.Proofs.Ytfmddljljdoapaa
open Go.RowKit
set_option linter.unusedVariables false

theorem Fresh.row {w w' : World} {m : List Int} {e : Ending} (h : Fresh w m w' e) {k : Nat} (hk : m.length = k) : ∃ A c, e = .returned (.slice A k c) ∧ w'.ownsRow w.heap.size 5 1 (.slice A k c) k (octs m) ∧ Below w.heap.size w w' := by
  subst hk; exact h

theorem own_at {w : World} {base : Nat} {e : TypeId} {size : Nat} {v : Value} {n : Nat} {xs : List Value} (h : w.ownsRow base e size v n xs) : ∀ g, v.ownBlock = some g → base ≤ g := fun g hg => (h.lt g hg).1
theorem three_new (w : World) (x y z : Value) (t : TypeId) : ∀ j u, [x, y, z][j]? = some u → (w.alloc (.cells #[x, y, z] t)).cell? ((⟨w.heap.size, 0, none⟩ : Addr).add j) = some u := cells_new w #[x, y, z] t

set_option maxHeartbeats 4000000 in
theorem refputc_any (x : Chg) (hx : mayC x = true) (hn : I64 x.n) (w : World) : Calls Try.prog 11 #[x.val] w fun e w' => Fresh w (bytesC x) w' e := by
  obtain ⟨r, s, t, k, a, b, n, p, q⟩ := x
  have hm := mayC_ hx
  have hBY := hide (show bytesC ⟨r, s, t, k, a, b, n, p, q⟩ = inOcts r 1 ++ inOcts s 2 ++ inOcts t 4 ++ [k, a, b] ++ inOcts (IntKind.u64.wrap n) 8 ++ [p] ++ inOcts q 2 ++ [67] from rfl)
  have HOB := hide (bytesC_octs hx)
  have HLB := hide (bytesC_len ⟨r, s, t, k, a, b, n, p, q⟩)
  generalize bytesC ⟨r, s, t, k, a, b, n, p, q⟩ = BY at *
  simp only at hm hn
  obtain ⟨⟨r0, r1, s0, s1⟩, t0, t1, k0, k1, a0, a1, b0, b1, p0, p1, q0, q1⟩ := hm
  clear hx
  obtain ⟨i5, hi, hz0, hz1, hz2⟩ := info_parts info5
  have hmm : 0 ≤ IntKind.u64.wrap n ∧ IntKind.u64.wrap n ≤ 18446744073709551615 := by rw [IntKind.wrap_u64]; omega
  obtain ⟨m0, m1⟩ := hmm
  obtain ⟨W, hW⟩ : ∃ W, W = w.alloc (.cells #[.int .i64 r, .int .i64 s, .int .i64 t, .int .i64 k, .int .i64 a, .int .i64 b, .int .i64 n, .int .i64 p, .int .i64 q] 25) := ⟨_, rfl⟩
  have HWs := hide (show W.heap.size = w.heap.size + 1 by rw [hW]; simp)
  have HA := hide (show At W w.heap.size 0 ⟨r, s, t, k, a, b, n, p, q⟩ by rw [hW]; exact at_new w ⟨r, s, t, k, a, b, n, p, q⟩ _)
  have HBW := hide (show Below w.heap.size w W by rw [hW]; exact (Below.refl _ w).alloc (Nat.le_refl _) _)
  have HW := hide hW
  clear hW
  unfold Chg.val
  have cells : ∀ w', Below W.heap.size W w' → w'.cell? ⟨w.heap.size, 0, none⟩ = some (.int .i64 r) ∧ w'.cell? ⟨w.heap.size, 1, none⟩ = some (.int .i64 s) ∧ w'.cell? ⟨w.heap.size, 2, none⟩ = some (.int .i64 t) ∧ w'.cell? ⟨w.heap.size, 3, none⟩ = some (.int .i64 k) ∧ w'.cell? ⟨w.heap.size, 4, none⟩ = some (.int .i64 a) ∧ w'.cell? ⟨w.heap.size, 5, none⟩ = some (.int .i64 b) ∧ w'.cell? ⟨w.heap.size, 6, none⟩ = some (.int .i64 n) ∧ w'.cell? ⟨w.heap.size, 7, none⟩ = some (.int .i64 p) ∧ w'.cell? ⟨w.heap.size, 8, none⟩ = some (.int .i64 q) := by
    intro w' hb
    have := HA.out.below hb (by rw [HWs.out]; omega)
    unfold At at this
    simpa only [Nat.zero_add] using this
  have CE := hide cells
  clear cells
  go_enter Try.func11, Try.ntmps11
  go_wp2_with fail
  rw [← HW.out]
  obtain ⟨c0, c1, c2, c3, c4, c5, c6, c7, c8⟩ := CE.out W (Below.refl _ W)
  refine (refput_yes _ none 0 0 [] r 1 _ (Row.nil _ (fun _ => True) none) (fun n hn => by cases hn) (by omega) (by omega) (by omega) (by omega) (by omega)).mono ?_
  rintro e w1 hf
  obtain ⟨A1, d1, rfl, hown, hbl⟩ := hf.row (k := 1) (by simp [inOcts_len])
  rw [List.nil_append] at hown
  have HO := hide hown
  have HB := hide hbl
  clear hown hbl hf c0 c1 c2 c3 c4 c5 c6 c7 c8
  obtain ⟨c0, c1, c2, c3, c4, c5, c6, c7, c8⟩ := CE.out _ HB.out
  go_wp2_with fail
  refine (refput_yes _ A1 1 d1 _ s 2 _ (Row.of_own HO.out) (inOcts_octs _ _) (by omega) (by omega) (by omega) (by omega) (by omega)).mono ?_
  rintro e w2 hf
  obtain ⟨A2, d2, rfl, hown, hbl⟩ := hf.row (k := 3) (by simp [inOcts_len])
  have HO := hide (own_mono hown HB.out.size)
  have HB := hide (HB.out.trans (hbl.mono HB.out.size))
  clear hown hbl hf c0 c1 c2 c3 c4 c5 c6 c7 c8
  obtain ⟨c0, c1, c2, c3, c4, c5, c6, c7, c8⟩ := CE.out _ HB.out
  go_wp2_with fail
  refine (refput_yes _ A2 3 d2 _ t 4 _ (Row.of_own HO.out) ((inOcts_octs _ _).append (inOcts_octs _ _)) (by omega) (by omega) (by omega) (by omega) (by omega)).mono ?_
  rintro e w3 hf
  obtain ⟨A3, d3, rfl, hown, hbl⟩ := hf.row (k := 7) (by simp [inOcts_len])
  have HO := hide (own_mono hown HB.out.size)
  have HB := hide (HB.out.trans (hbl.mono HB.out.size))
  clear hown hbl hf c0 c1 c2 c3 c4 c5 c6 c7 c8
  obtain ⟨c0, c1, c2, c3, c4, c5, c6, c7, c8⟩ := CE.out _ HB.out
  go_wp2_with (at_builtin; refine wpList_append_own_at _ rfl _ _ 27 rfl W.heap.size 5 i5 (.int .u8 0) 1 1 Try.underlying27 hi hz0 hz1 hz2 rfl (by decide) _ 7 _ rfl (HO.out.alloc _) ⟨w3.heap.size, 0, none⟩ 3 3 [.int .u8 k, .int .u8 a, .int .u8 b] rfl rfl (three_new _ _ _ _ _) (by simp [Value.oneCell']) ?h1 ?h2 ?h3 ?_)
  case h1 => unfold maxLen; omega
  case h2 => omega
  case h3 => have := HB.out.size; simp; omega
  intro v4 w4 hown hgr _ _
  obtain ⟨A4, d4, rfl⟩ := own_form hown
  rw [show [Value.int .u8 k, .int .u8 a, .int .u8 b] = octs [k, a, b] from rfl, octs_append] at hown
  have HB := hide ((HB.out.alloc HB.out.size (.cells #[.int .u8 k, .int .u8 a, .int .u8 b] 5)).grown hgr (by have := HB.out.size; simp; omega) (own_at HO.out))
  have HO := hide hown
  clear hown hgr c0 c1 c2 c3 c4 c5 c6 c7 c8
  obtain ⟨c0, c1, c2, c3, c4, c5, c6, c7, c8⟩ := CE.out _ HB.out
  have HQ := hide (show Octs (inOcts r 1 ++ inOcts s 2 ++ inOcts t 4 ++ [k, a, b]) from (((inOcts_octs _ _).append (inOcts_octs _ _)).append (inOcts_octs _ _)).append (by intro n hn; simp only [List.mem_cons, List.not_mem_nil, or_false] at hn; omega))
  go_wp2_with fail
  refine (refput_yes _ A4 10 d4 _ (IntKind.u64.wrap n) 8 _ (Row.of_own HO.out) HQ.out (by omega) m0 m1 (by omega) (by omega)).mono ?_
  rintro e w5 hf
  obtain ⟨A5, d5, rfl, hown, hbl⟩ := hf.row (k := 18) (by simp [inOcts_len])
  have HO := hide (own_mono hown HB.out.size)
  have HB := hide (HB.out.trans (hbl.mono HB.out.size))
  clear hown hbl hf c0 c1 c2 c3 c4 c5 c6 c7 c8
  obtain ⟨c0, c1, c2, c3, c4, c5, c6, c7, c8⟩ := CE.out _ HB.out
  go_wp2_with (at_builtin; refine wpList_append_own_at _ rfl _ _ 27 rfl W.heap.size 5 i5 (.int .u8 0) 1 1 Try.underlying27 hi hz0 hz1 hz2 rfl (by decide) _ 18 _ rfl (HO.out.alloc _) ⟨w5.heap.size, 0, none⟩ 1 1 [.int .u8 p] rfl rfl (cell_one_new _ _ _) (by simp [Value.oneCell']) ?h1 ?h2 ?h3 ?_)
  case h1 => unfold maxLen; omega
  case h2 => omega
  case h3 => have := HB.out.size; simp; omega
  intro v6 w6 hown hgr _ _
  obtain ⟨A6, d6, rfl⟩ := own_form hown
  rw [← octs_append'] at hown
  have HB := hide ((HB.out.alloc HB.out.size (.cells #[.int .u8 p] 5)).grown hgr (by have := HB.out.size; simp; omega) (own_at HO.out))
  have HO := hide hown
  clear hown hgr c0 c1 c2 c3 c4 c5 c6 c7 c8
  obtain ⟨c0, c1, c2, c3, c4, c5, c6, c7, c8⟩ := CE.out _ HB.out
  have HQ := hide (show Octs (inOcts r 1 ++ inOcts s 2 ++ inOcts t 4 ++ [k, a, b] ++ inOcts (IntKind.u64.wrap n) 8 ++ [p]) from (HQ.out.append (inOcts_octs _ _)).append (by intro n hn; simp only [List.mem_cons, List.not_mem_nil, or_false] at hn; omega))
  go_wp2_with fail
  refine (refput_yes _ A6 19 d6 _ q 2 _ (Row.of_own HO.out) HQ.out (by omega) (by omega) (by omega) (by omega) (by omega)).mono ?_
  rintro e w7 hf
  obtain ⟨A7, d7, rfl, hown, hbl⟩ := hf.row (k := 21) (by simp [inOcts_len])
  have HO := hide (own_mono hown HB.out.size)
  have HB := hide (HB.out.trans (hbl.mono HB.out.size))
  clear hown hbl hf c0 c1 c2 c3 c4 c5 c6 c7 c8
  go_wp2_with (at_builtin; refine wpList_append_own_at _ rfl _ _ 27 rfl W.heap.size 5 i5 (.int .u8 0) 1 1 Try.underlying27 hi hz0 hz1 hz2 rfl (by decide) _ 21 _ rfl (HO.out.alloc _) ⟨w7.heap.size, 0, none⟩ 1 1 [.int .u8 67] rfl rfl (cell_one_new _ _ _) (by simp [Value.oneCell']) ?h1 ?h2 ?h3 ?_)
  case h1 => unfold maxLen; omega
  case h2 => omega
  case h3 => have := HB.out.size; simp; omega
  intro v8 w8 hown hgr _ _
  obtain ⟨A8, d8, rfl⟩ := own_form hown
  rw [← octs_append', show (inOcts r 1 ++ (inOcts s 2 ++ (inOcts t 4 ++ k :: a :: b :: (inOcts (IntKind.u64.wrap n) 8 ++ p :: inOcts q 2))) ++ [67]) = BY by rw [hBY.out]; simp] at hown
  have HB := hide ((HB.out.alloc HB.out.size (.cells #[.int .u8 67] 5)).grown hgr (by have := HB.out.size; simp; omega) (own_at HO.out))
  have HO := hide hown
  clear hown hgr
  go_wp2
  go_ret
  have ho := own_mono HO.out (base' := w.heap.size) (by rw [HWs.out]; omega)
  have hl := HLB.out
  refine ⟨A8, d8, ?_, ?_, HBW.out.trans (HB.out.mono (by rw [HWs.out]; omega))⟩
  · rw [hl]; rfl
  · rw [hl]; exact ho
end Go.Proofs.Ytfmddljljdoapaa
