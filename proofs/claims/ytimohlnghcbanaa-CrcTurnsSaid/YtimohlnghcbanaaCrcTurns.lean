/-
  The walk of CrcTurns.
-/
import Derived.Test.YtimohlnghcbanaaCrcAlive
import Derived.Test.YtimohlnghcbanaaOctN
import Derived.RegionTactic
namespace Go.Proofs.Ytimohlnghcbanaa
open Go.RowKit
set_option linter.unusedVariables false

/-- Go's way round a wheel of K places. -/
theorem wheel (a K : Int) (hk : 0 < K) (hK : K ≤ 4611686018427387904) : ∃ p : Nat, (p : Int) < K ∧ a.tmod K % K = (p : Int) ∧ -K < a.tmod K ∧ a.tmod K < K := by
  have h1 := Int.tmod_lt_of_pos a hk
  have h2 := Int.lt_tmod_of_pos a hk
  have h3 := Int.emod_nonneg (a.tmod K) (show K ≠ 0 by omega)
  have h4 := Int.emod_lt_of_pos (a.tmod K) hk
  exact ⟨(a.tmod K % K).toNat, by omega, by omega, h2, h1⟩

theorem crc_set {l : List Int} {p : Nat} {y : Int} (hl : Octs l) (hp : p < l.length) (hy : 0 ≤ y ∧ y < 256) (hn : y ≠ l.getD p 0) : crc (l.set p y) ≠ crc l := by
  have hz := hl.getD p
  have e : l = l.take p ++ l.getD p 0 :: l.drop (p + 1) := by
    rw [List.getD_eq_getElem?_getD, List.getElem?_eq_getElem hp]
    simp
  intro h
  rw [List.set_eq_take_append_cons_drop, if_pos hp] at h
  conv at h => rhs; rw [e]
  exact crc_turn (hl.take p) (hl.drop (p + 1)) hy hz hn h
theorem set_left {l m : List Int} {p : Nat} {y : Int} (hp : p < l.length) : (l ++ m).set p y = l.set p y ++ m := by
  rw [List.set_append, if_pos hp]
theorem set_right {l m : List Int} {p : Nat} {y : Int} (hp : l.length ≤ p) : (l ++ m).set p y = l ++ m.set (p - l.length) y := by
  rw [List.set_append, if_neg (by omega)]

theorem turns_walk (A : Option Addr) (n c : Nat) (l : List Int) (a1 a2 : Int) (w : World) (h : Row w (· < w.heap.size) A n c (octs l)) (ho : Octs l) (hn : n ≤ 140737488351232) :
    Calls Try.prog 5 #[.slice A n c, .int .i64 a1, .int .i64 a2] w fun e w' => e = .returned (.bool true) ∧ Below w.heap.size w w' := by
  obtain rfl : n = l.length := by rw [← h.1, octs_len]
  obtain ⟨i5, hi, hz0, hz1, hz2⟩ := info_parts info5
  have H := hide h
  have HO := hide ho
  have hM := crc_lt (l := l)
  generalize hMM : crc l = M at *
  have HM := hide hMM.symm
  clear h ho hMM
  obtain ⟨q, hq8, hq, hb3, hb4⟩ := wheel a2 8 (by omega) (by omega)
  obtain ⟨p, hpk, hp, hb1, hb2⟩ := wheel a1 ((l.length : Int) + 4) (by omega) (by omega)
  go_enter Try.func5, Try.ntmps5
  go_wp2_with fail
  refine (alive03 _).mono ?_
  rintro e w1 ⟨rfl, hbl⟩
  have HB1 := hide hbl
  have H1 := hide (H.out.below hbl (fun _ h _ => h))
  clear hbl
  go_wp2_with fail
  refine (put_any _ _ _ _ l M _ HM.out H1.out HO.out (by omega)).mono ?_
  rintro e w2 ⟨A2, c2, rfl, hown, hbl⟩
  have HL := hide (show (l ++ inOcts (M : Int) 4).length = l.length + 4 by rw [List.length_append, inOcts_len])
  rw [HL.out] at hown ⊢
  have HOW := hide hown
  have HB2 := hide (HB1.out.trans (hbl.mono HB1.out.size))
  clear hown hbl
  have hown0 : (w2.alloc (.cells #[] 5)).ownsRow w.heap.size 5 1 (.slice (some ⟨w2.heap.size, 0, none⟩) 0 0) 0 [] :=
    ⟨rfl, .inr ⟨w2.heap.size, 0, #[], rfl, HB2.out.size, heap_alloc_new w2 _, Nat.le_refl _, by unfold maxLen; omega, rfl, rfl⟩⟩
  have HO0 := hide hown0
  clear hown0
  go_wp2_with (at_builtin; refine wpList_append_row _ rfl _ _ 24 rfl w.heap.size 5 i5 (.int .u8 0) 1 Try.underlying24 hi hz0 hz1 hz2 rfl _ 0 [] rfl HO0.out _ A2 (l.length + 4) c2 (octs (l ++ inOcts (M : Int) 4)) rfl ((Row.of_own HOW.out).alloc _) (octs_one _) ?h1 ?h2 ?h3 ?_)
  case h1 => unfold maxLen; omega
  case h2 => omega
  case h3 => have := HB2.out.size; simp; omega
  intro v1 w3 hown1 hgr1 _
  have hown1 : w3.ownsRow w.heap.size 5 1 v1 (l.length + 4) (octs (l ++ inOcts (M : Int) 4)) := by simpa using hown1
  obtain ⟨hlen, hown1⟩ := hown1
  rcases hown1 with ⟨-, h0⟩ | ⟨g, cap, cur, rfl, hg, hh, hcap, hcm, hsz, htk⟩
  · omega
  have HB3 := hide (((HB2.out.alloc HB2.out.size _).grown hgr1 (by have := HB2.out.size; simp; omega) (fun g' hg' => by
    have e : w2.heap.size = g' := by simpa [Value.ownBlock] using hg'
    rw [← e]
    exact HB2.out.size)) : Below w.heap.size w w3)
  have hz : Octs (l ++ inOcts (M : Int) 4) := HO.out.append (inOcts_octs _ _)
  have hpl : p < (l ++ inOcts (M : Int) 4).length := by rw [HL.out]; omega
  have hcur : cur[p]? = some (.int .u8 ((l ++ inOcts (M : Int) 4).getD p 0)) := by
    rw [← octs_at _ _ hpl, ← htk, ← Array.getElem?_toList, List.getElem?_take, if_pos (by omega)]
  have hcell := (Blk.cell (show Blk w3 g 5 cur from hh) p).trans hcur
  have hfr := Blk.frozen (show Blk w3 g 5 cur from hh) p
  have hzb := hz.getD p
  generalize hgz : (l ++ inOcts (M : Int) 4).getD p 0 = z at *
  obtain ⟨hy0, hy1, hyn⟩ := turn_oct z q hzb (by omega)
  have hpn4 : p < l.length + 4 := by omega
  have hrow := fun y => row_set (w := w3) (n := l.length + 4) (p := p) (t := 5) (y := y) hh (by simpa using htk) HL.out hpn4 hcap (by unfold maxLen at hcm; omega) (by simpa using hsz)
  have hb4 := fun y : Int => HB3.out.setCell (p := ⟨g, p, none⟩) hg (.int .u8 y)
  have hr1 := fun y : Int => H.out.below (hb4 y) (fun _ h _ => h)
  have hsz4 := fun y : Int => (show w.heap.size ≤ (w3.setCell ⟨g, p, none⟩ (.int .u8 y)).drew.heap.size from (hb4 y).size)
  have HR4 := hide (fun y => (hrow y).drew)
  have HB4 := hide (fun y => (hb4 y).drew)
  have H4 := hide (fun y => (hr1 y).drew)
  have HG := hide hg
  have HZ0 := hide hgz
  have HZO := hide hz
  clear hh htk hsz hcur hg hown1 hgr1 hlen hgz hrow hb4 hr1 hsz4 hz
  go_wp2_with fail
  go_region
  generalize bits .xor .u8 z (2 ^ q % 256) = y at *
  have HR4 := hide (HR4.out y)
  have HB4 := hide (HB4.out y)
  have H4 := hide (H4.out y)
  generalize (w3.setCell ⟨g, p, none⟩ (.int .u8 y)).drew = w4 at *
  clear hcell hfr HO0 HOW HB3
  have hcb : cap ≤ 9223372036854775807 := by unfold maxLen at hcm; omega
  by_cases hpn : p < l.length
  · have hset : (l ++ inOcts (M : Int) 4).set p y = l.set p y ++ inOcts (M : Int) 4 := set_left hpn
    have hzl : l.getD p 0 = z := by
      rw [← HZ0.out, List.getD_eq_getElem?_getD, List.getD_eq_getElem?_getD, List.getElem?_append_left hpn]
    have hne : crc (l.set p y) ≠ M := by rw [HM.out]; exact crc_set HO.out hpn ⟨hy0, hy1⟩ (by rw [hzl]; exact hyn)
    have hSl := crc_lt (l := l.set p y)
    generalize hS : crc (l.set p y) = S at *
    have htake : ((l ++ inOcts (M : Int) 4).set p y).take l.length = l.set p y := by
      rw [hset]
      exact List.take_left' (by simp)
    have hdrop : ((l ++ inOcts (M : Int) 4).set p y).drop l.length = inOcts (M : Int) 4 := by
      rw [hset]
      exact List.drop_left' (by simp)
    have HCK := hide (check_go (some ⟨g, 0, none⟩) l.length cap ((l ++ inOcts (M : Int) 4).set p y) S false w4
      (HR4.out.within.mono fun _ h => h.2) (octs_set HZO.out ⟨hy0, hy1⟩ p) (by omega) (by rw [htake]; exact hS.symm)
      (by rw [hdrop, num_inOcts _ _ (by omega) (by omega)]; exact (decide_eq_false (fun e => hne (by omega))).symm))
    have HRT := hide (show Row w4 (· = g) (some ⟨g, 0, none⟩) l.length cap (octs (l.set p y)) by have := HR4.out.head (k := l.length) (by omega); rwa [htake] at this)
    have HOT := hide (octs_set HO.out ⟨hy0, hy1⟩ p)
    have HSS := hide hS.symm
    clear hset htake hdrop hS
    go_wp2_with fail
    refine HCK.out.mono ?_
    clear HCK
    rintro e w5 ⟨-, hf⟩
    obtain ⟨rfl, hbl5⟩ := hf (by trivial)
    have HB5 := hide (HB4.out.trans (hbl5.mono HB4.out.size))
    have H5 := hide (H4.out.below hbl5 (fun _ _ h => h))
    have HRT := hide (HRT.out.below hbl5 (fun _ _ h => h))
    clear hbl5 hf
    go_wp2_with fail
    refine (sum_one _ _ _ _ (l.set p y) S _ _ HSS.out HRT.out HOT.out).mono ?_
    rintro e w' ⟨rfl, rfl⟩
    have HB6 := hide (HB5.out.alloc HB5.out.size (.cells #[.slice (some ⟨g, 0, none⟩) l.length cap] 24))
    have H6 := hide (H5.out.alloc (.cells #[.slice (some ⟨g, 0, none⟩) l.length cap] 24))
    generalize w5.alloc (.cells #[.slice (some ⟨g, 0, none⟩) l.length cap] 24) = w6 at *
    go_wp2_with fail
    refine (sum_one _ _ _ _ l M _ _ HM.out H6.out HO.out).mono ?_
    rintro e w' ⟨rfl, rfl⟩
    have HB7 := hide (HB6.out.alloc HB6.out.size (.cells #[.slice A l.length c] 24))
    have hns : ((S : Int) != (M : Int)) = true := by simp only [bne_iff_ne, ne_eq]; omega
    go_wp2
    go_ret
    exact ⟨rfl, HB7.out⟩
  · have hpn' : l.length ≤ p := by omega
    have hset : (l ++ inOcts (M : Int) 4).set p y = l ++ (inOcts (M : Int) 4).set (p - l.length) y := set_right hpn'
    have hzl : (inOcts (M : Int) 4).getD (p - l.length) 0 = z := by
      rw [← HZ0.out, List.getD_eq_getElem?_getD, List.getD_eq_getElem?_getD, List.getElem?_append_right hpn']
    have htake : ((l ++ inOcts (M : Int) 4).set p y).take l.length = l := by
      rw [hset]
      exact List.take_left' rfl
    have hdrop : ((l ++ inOcts (M : Int) 4).set p y).drop l.length = (inOcts (M : Int) 4).set (p - l.length) y := by
      rw [hset]
      exact List.drop_left' rfl
    have hne : num ((inOcts (M : Int) 4).set (p - l.length) y) ≠ (M : Int) := by
      intro e
      rw [← num_inOcts (M : Int) 4 (by omega) (by omega)] at e
      have e2 := num_inj 4 _ _ (by simp [inOcts_len]) (by simp [inOcts_len]) (octs_set (inOcts_octs _ _) ⟨hy0, hy1⟩ _) (inOcts_octs _ _) e
      have e3 := congrArg (fun k => k.getD (p - l.length) 0) e2
      simp only [List.getD_eq_getElem?_getD, List.getElem?_set] at e3 hzl
      rw [if_pos trivial, if_pos (by rw [inOcts_len]; omega), hzl] at e3
      exact hyn e3
    have HCK := hide (check_go (some ⟨g, 0, none⟩) l.length cap ((l ++ inOcts (M : Int) 4).set p y) M false w4
      (HR4.out.within.mono fun _ h => h.2) (octs_set HZO.out ⟨hy0, hy1⟩ p) (by omega) (by rw [htake]; exact HM.out)
      (by rw [hdrop]; exact (decide_eq_false hne).symm))
    clear hset htake hdrop hne hzl
    go_wp2_with fail
    refine HCK.out.mono ?_
    clear HCK
    rintro e w5 ⟨-, hf⟩
    obtain ⟨rfl, hbl5⟩ := hf (by trivial)
    have HB5 := hide (HB4.out.trans (hbl5.mono HB4.out.size))
    clear hbl5 hf
    go_wp2
    go_ret
    exact ⟨rfl, HB5.out⟩
end Go.Proofs.Ytimohlnghcbanaa
