/-
  The program's contracts of layer 11: New, Clone.
-/
import Derived.Test.YthoedknnchaiaaaDiskPA
import Derived.Test.YthoedknnchaiaaaAppK
import Derived.Laws.MakeOwn
namespace Go.Proofs.Ythoedknnchaiaaa
open Go.RowKit
set_option linter.unusedVariables false

theorem clampd_any (n lo hi : Int) (w : World) :
    Calls Try.prog 31 #[.int .i64 n, .int .i64 lo, .int .i64 hi] w fun e w' => e = .returned (.int .i64 (near n lo hi)) ∧ w = w' := by
  by_cases h1 : n < lo
  · have e : near n lo hi = lo := by unfold near; rw [if_pos h1]
    go_enter Try.func31, Try.ntmps31
    go_wp2
    go_ret
    exact ⟨by first | rfl | (rw [e]; rfl), rfl⟩
  · by_cases h2 : hi < n
    · have e : near n lo hi = hi := by unfold near; rw [if_neg h1, if_pos h2]
      go_enter Try.func31, Try.ntmps31
      go_wp2
      go_ret
      exact ⟨by first | rfl | (rw [e]; rfl), rfl⟩
    · have e : near n lo hi = n := by unfold near; rw [if_neg h1, if_neg h2]
      go_enter Try.func31, Try.ntmps31
      go_wp2
      go_ret
      exact ⟨by first | rfl | (rw [e]; rfl), rfl⟩

theorem info52 : (Try.prog.info? 80).map (fun i => (i.zero, i.size, i.bytes)) = some (some (.agg zero32), 32, 32) := by kernel_rfl
theorem made_secs (m : Nat) : (madeCells (Value.agg zero32).cells (m * 32)).size = m * 32 ∧ (madeCells (Value.agg zero32).cells (m * 32)).toList = octs (List.replicate (m * 32) 0) := by
  refine ⟨size_madeCells _ _, ?_⟩
  have hr : zero32 = Array.replicate 32 (.int .u8 0) := rfl
  have hc : ∀ r, r < 32 → (Value.agg zero32).cells[r]! = .int .u8 0 := fun r h => by
    show zero32[r]! = _
    rw [hr]
    simp [h]
  unfold madeCells octs
  rw [List.map_replicate, Array.toList_map, Array.toList_range]
  apply List.ext_getElem?
  intro i
  rw [List.getElem?_map, List.getElem?_replicate]
  by_cases hi : i < m * 32
  · rw [if_pos hi, List.getElem?_range hi, Option.map_some]
    exact congrArg some (hc _ (Nat.mod_lt _ (by decide)))
  · rw [if_neg hi, List.getElem?_eq_none (by simp; omega)]
    rfl
theorem dnew_any (n : Int) (w : World) (hn : I64' n) : Calls Try.prog 28 #[.int .i64 n] w fun e w' => DNew Dsk (near n 0 256).toNat w w' e := by
  obtain ⟨h0, h1⟩ := near_in (n := n) (lo := 0) (hi := 256) (by omega)
  obtain ⟨m, hm⟩ := Int.eq_ofNat_of_zero_le h0
  have hmb : m ≤ 256 := by omega
  obtain ⟨i5, hi, hz0, hz1, hz2⟩ := info_parts info52
  have hmk := fun W => run_make (P := Try.prog) W 72 80 i5 (.agg zero32) Try.underlying72 hi hz0 .i64 .i64 (m : Int) (m : Int) (by omega) (by omega) (by rw [hz2]; omega) (by omega)
  rw [hz1, Int.toNat_natCast] at hmk
  obtain ⟨hz3, hz4⟩ := made_secs m
  obtain ⟨Z, hZ⟩ : ∃ Z, Z = madeCells (Value.agg zero32).cells (m * 32) := ⟨_, rfl⟩
  rw [← hZ] at hmk hz3 hz4
  have HZ := hide (And.intro hz3 hz4)
  have HC := hide (clampd_any n 0 256)
  rw [hm] at HC
  rw [hm, Int.toNat_natCast]
  clear hi hz0 hz1 hz2 hz3 hz4 hZ h0 h1 hm
  go_enter Try.func28, Try.ntmps28
  go_wp2_with fail
  refine (HC.out _).mono ?_
  rintro e w' ⟨rfl, rfl⟩
  go_wp2
  go_ret
  have hb := Blk.new (w.alloc (.cells Z 80)) 74 #[.bool true, .slice (some ⟨w.heap.size, 0, none⟩) m m, .int .i64 (-1), .bool false, .int .i64 0]
  have hs : Secs ((w.alloc (.cells Z 80)).alloc (.cells #[.bool true, .slice (some ⟨w.heap.size, 0, none⟩) m m, .int .i64 (-1), .bool false, .int .i64 0] 74)) w.heap.size m m (Dk.fresh m).b :=
    ⟨Z, (Blk.new w _ _).alloc _, Nat.le_refl _, by omega, HZ.out.1, by rw [HZ.out.2, List.take_of_length_le (by rw [octs_len, List.length_replicate]; exact Nat.le_refl _)]; show octs (List.replicate (m * 32) 0) = octs (List.replicate (32 * m) 0); rw [Nat.mul_comm]⟩
  rw [show (w.alloc (.cells Z 80)).heap.size = w.heap.size + 1 by simp] at hb
  refine ⟨w.heap.size + 1, fun b => b = w.heap.size + 1 ∨ b = w.heap.size, rfl, ⟨w.heap.size, m, m, ⟨hb, hs, by omega⟩, fun _ => Iff.rfl⟩, ?_, ((Below.refl _ w).alloc (Nat.le_refl _) _).alloc (by simp) _⟩
  rintro n (rfl | rfl)
  · omega
  · exact Nat.le_refl _

theorem clone_secs {w : World} {s m c : Nat} {b : List Int} (h : Secs w s m c b) (hm : m ≤ 256) : Calls Try.prog 64 #[.slice (some ⟨s, 0, none⟩) m c] w fun e w' => ∃ s' c', e = .returned (.slice (some ⟨s', 0, none⟩) m c') ∧ w.heap.size ≤ s' ∧ Secs w' s' m c' b ∧ Below w.heap.size w w' := by
  obtain ⟨i5, hi, hz0, hz1, hz2⟩ := info_parts info52
  have hq := fun W => Lib.run_eql_slice_nil (P := Try.prog) W 72 80 (some ⟨s, 0, none⟩) m c 0 0 Try.underlying72
  have hl := h.len
  have hown : (w.alloc (.cells #[] 80)).ownsRow w.heap.size 80 32 (.slice (some ⟨w.heap.size, 0, none⟩) 0 0) 0 [] := World.ownsRow_lit w #[] 0 (Nat.le_refl _) (by unfold maxLen; omega) rfl
  obtain ⟨cur, g1, g2, g3, g4, g5⟩ := h
  have hrow : RowK (w.alloc (.cells #[] 80)) (fun _ => True) 32 (some ⟨s, 0, none⟩) m c (octs b) :=
    ⟨by rw [octs_len, hl], g2, g3, .inr ⟨s, 0, rfl, trivial, fun j hj => by rw [Nat.zero_add, (g1.alloc _).cell j, ← g5, List.getElem?_take, if_pos hj, Array.getElem?_toList]⟩⟩
  have HO := hide hown
  have HR := hide hrow
  clear hown hrow g1 g5 g4 hl
  go_enter Try.func64, Try.ntmps64
  go_wp2_with (at_builtin; refine wpList_append_rowK _ rfl _ _ 72 rfl w.heap.size 80 i5 (.agg zero32) 32 32 Try.underlying72 hi hz0 hz1 hz2 rfl (by decide) _ 0 [] rfl HO.out _ _ m c (octs b) rfl HR.out (octs_one b) ?c1 ?c2 ?c3 ?_)
  case c1 => unfold maxLen; omega
  case c2 => omega
  case c3 => simp
  intro v' w1 hown' hgrow hwh
  have hgb : w1.heap.size ≥ w.heap.size ∧ Below w.heap.size w w1 := by
    have hb : Below w.heap.size w w1 := ((Below.refl _ w).alloc (Nat.le_refl _) _).grown hgrow (by simp) (by simp [Value.ownBlock])
    exact ⟨hb.size, hb⟩
  obtain ⟨s', c', rfl, hs', hsec⟩ : ∃ s' c', v' = .slice (some ⟨s', 0, none⟩) m c' ∧ w.heap.size ≤ s' ∧ Secs w1 s' m c' b := by
    rcases hown'.2 with ⟨rfl, hm0⟩ | ⟨g, cap, cu, rfl, e1, e2, e3, e4, e5, e6⟩
    · rcases hwh with h | h
      · simp [Value.ownBlock] at h
      · simp [Value.ownBlock] at h
    · unfold maxLen at e4
      exact ⟨g, cap, rfl, e1, cu, e2, by omega, e4, e5, e6⟩
  have HB := hide hgb.2
  have HSE := hide hsec
  clear hgb hsec hown' hgrow hwh HO HR
  go_wp2
  go_ret
  exact ⟨s', c', rfl, hs', HSE.out, HB.out⟩

theorem dclone_any {P : Nat → Prop} {d m : Nat} {k : Dk} (w : World) (h : Dsk w P d k) (hk : k.ok m) : Calls Try.prog 43 #[.pointer (some ⟨d, 0, none⟩)] w fun e w' => DMade Dsk k w w' e := by
  obtain ⟨s, m', sc, hd, hP⟩ := h
  obtain rfl := hd.secs hk
  have hm := hk.2.1
  have hb := hd.1
  have q0 : w.cell? ⟨d, 0, none⟩ = some (.bool true) := (hb.cell 0).trans rfl
  have q1 : w.cell? ⟨d, 1, none⟩ = some (.slice (some ⟨s, 0, none⟩) m sc) := (hb.cell 1).trans rfl
  have q2 : w.cell? ⟨d, 2, none⟩ = some (.int .i64 k.fuel) := (hb.cell 2).trans rfl
  have q3 : w.cell? ⟨d, 3, none⟩ = some (.bool k.dead) := (hb.cell 3).trans rfl
  have q4 : w.cell? ⟨d, 4, none⟩ = some (.int .i64 k.written) := (hb.cell 4).trans rfl
  have q5 : ∀ o, (w.alloc o).cell? ⟨d, 1, none⟩ = some (.slice (some ⟨s, 0, none⟩) m sc) := fun o => ((hb.alloc o).cell 1).trans rfl
  have HS := hide hd.2.1
  have HDLT := hide hd.lt.1
  clear hd hk hP
  have HB := hide hb
  clear hb
  obtain ⟨b, fuel, dead, written⟩ := k
  simp only at q2 q3 q4
  go_enter Try.func43, Try.ntmps43
  go_wp2_with fail
  refine (real_at w d true q0).mono ?_
  rintro e w' ⟨rfl, rfl⟩
  go_wp2_with fail
  have hs2 : Secs (w.alloc (.cells #[.bool true, .slice (some ⟨s, 0, none⟩) m sc, .int .i64 fuel, .bool dead, .int .i64 written] 74)) s m sc b := HS.out.keep (Below.heap_alloc w _ s HS.out.lt)
  refine (clone_secs hs2 hm).mono ?_
  rintro e w2 ⟨s', c', rfl, hs', hsec, hbl⟩
  have hb2 := (Blk.new w 74 #[.bool true, .slice (some ⟨s, 0, none⟩) m sc, .int .i64 fuel, .bool dead, .int .i64 written]).below hbl (by simp)
  have p1 := hb2.cell 1
  have f1 := hb2.frozen 1
  have HB2 := hide hb2
  have HSEC := hide hsec
  have HSL := hide (show w.heap.size < s' by simp at hs'; omega)
  have HBL := hide (((Below.refl w.heap.size w).alloc (Nat.le_refl _) _).trans (hbl.mono (by simp)))
  clear hb2 hsec hbl hs2 hs'
  go_wp2
  go_ret
  refine ⟨w.heap.size, fun b => b = w.heap.size ∨ b = s', rfl, ⟨s', m, c', ⟨HB2.out.store 1 _, HSEC.out.keep ?_, Nat.ne_of_lt HSL.out⟩, fun _ => Iff.rfl⟩, ?_, ?_⟩
  · exact Below.heap_setCell w2 ⟨w.heap.size, 1, none⟩ _ s' (Nat.ne_of_gt HSL.out)
  · rintro n (rfl | rfl)
    · exact Nat.le_refl _
    · exact Nat.le_of_lt HSL.out
  · exact HBL.out.setCell (Nat.le_refl _) _
end Go.Proofs.Ythoedknnchaiaaa
