/-
  The contracts of crc.Sum, Put and Check.
-/
import Derived.Test.YthoedknnchaiaaaCrc
import Derived.Test.YthoedknnchaiaaaOctC
import Derived.Test.YthoedknnchaiaaaParts
import Derived.BigQuiet
namespace Go.Proofs.Ythoedknnchaiaaa
open Go.RowKit
set_option linter.unusedVariables false

theorem sum_any (A : Option Addr) (n c : Nat) (ls : List (List Int)) (w : World) (h : Parts w A n ls) :
    Calls Try.prog 83 #[.slice A n c] w fun e w' => e = .returned (.int .u32 ((crc ls.flatten : Nat) : Int)) ∧ w = w' := by
  obtain rfl : n = ls.length := h.1.symm
  have HP := hide h
  have hb : ls.length ≤ 9223372036854775807 := h.2.1
  clear h
  go_enter Try.func83, Try.ntmps83
  go_wp2
  go_loop [3, 8] (fun v i => ∃ (m j : Nat), j ≤ ls.length ∧ m < 4294967296 ∧ v = .int .u32 (m : Int) ∧ i = .int .i64 j ∧ Hid (m = crc (ls.take j).flatten)) (fun _ i => ls.length - (intOf i).toNat)
  case atStart => exact ⟨0, 0, Nat.zero_le _, by omega, rfl, rfl, hide (show 0 = crc (ls.take 0).flatten by rw [List.take_zero, List.flatten_nil, crc_nil])⟩
  case round =>
    obtain ⟨m, j, hj, hm', rfl, rfl, hmr⟩ := hrel
    by_cases hlt : j < ls.length
    · obtain ⟨b, o, a, c2, rfl, hcell, hrow, hoc⟩ := HP.out.at_ hlt
      have hk : more m (ls.getD j []) = crc (ls.take (j + 1)).flatten := by
        rw [join_take ls j hlt, ← more_crc (HP.out.octs_take j), ← hmr.out]
      have HK := hide hk
      have HR := hide hrow
      have HO := hide hoc
      clear hrow hoc hk
      generalize ls.getD j [] = l at *
      go_wp2_with fail
      refine (more_any _ m _ _ _ l _ hm' HR.out HO.out).mono ?_
      rintro e w' ⟨rfl, rfl⟩
      go_wp2
      go_round
      case rel => exact ⟨more m l, j + 1, by omega, more_lt, rfl, by go_num, HK⟩
      case measure => simp [intOf]; omega
    · obtain rfl : j = ls.length := by omega
      have hmr' := hmr.out
      rw [List.take_length] at hmr'
      clear hmr
      have HM := hide hmr'
      clear hmr'
      go_wp2
      go_ret
      refine ⟨?_, rfl⟩
      rw [← HM.out]
      rfl

theorem sum_eq (A : Option Addr) (n c : Nat) (ls : List (List Int)) (M : Nat) (w : World) (hM : M = crc ls.flatten) (h : Parts w A n ls) :
    Calls Try.prog 83 #[.slice A n c] w fun e w' => e = .returned (.int .u32 (M : Int)) ∧ w = w' := by
  rw [hM]
  exact sum_any A n c ls w h
theorem ref_eq (P : Nat → Prop) (A : Option Addr) (n c : Nat) (l : List Int) (M : Nat) (w : World) (hM : M = crc l) (h : Row w P A n c (octs l)) (ho : Octs l) :
    Calls Try.prog 71 #[.slice A n c] w fun e w' => e = .returned (.int .u32 (M : Int)) ∧ w = w' := by
  rw [hM]
  exact ref_sum P A n c l w h ho

theorem sum_one (P : Nat → Prop) (A : Option Addr) (n c : Nat) (l : List Int) (M : Nat) (t : TypeId) (w : World) (hM : M = crc l) (h : Row w P A n c (octs l)) (ho : Octs l) :
    Calls Try.prog 83 #[.slice (some ⟨w.heap.size, 0, none⟩) 1 1] (w.alloc (.cells #[.slice A n c] t)) fun e w' => e = .returned (.int .u32 (M : Int)) ∧ w.alloc (.cells #[.slice A n c] t) = w' := by
  rw [hM]
  exact (sum_any _ _ _ [l] _ (parts_one h ho t)).mono fun e w' ⟨h1, h2⟩ => ⟨by rw [h1, List.flatten_singleton], h2⟩

theorem put_any (P : Nat → Prop) (A : Option Addr) (n c : Nat) (l : List Int) (M : Nat) (w : World) (hM : M = crc l) (h : Row w P A n c (octs l)) (ho : Octs l) (hn : n ≤ 140737488355000) :
    Calls Try.prog 75 #[.slice A n c] w fun e w' => Fresh w (l ++ inOcts (M : Int) 4) w' e := by
  have HR := hide h
  have HO := hide ho
  have HC := crc_lt (l := l)
  rw [← hM] at HC
  have HM := hide hM
  clear h ho hM
  go_enter Try.func75, Try.ntmps75
  go_wp2_with fail
  refine (sum_one P _ _ _ l M _ _ HM.out HR.out HO.out).mono ?_
  rintro e w' ⟨rfl, rfl⟩
  go_wp2_with fail
  refine (put_yes P _ _ _ l (M : Int) 4 _ (HR.out.alloc _) HO.out hn (by omega) (by omega) (by omega) (by omega)).mono ?_
  rintro e w1 ⟨A', c', rfl, hown, hb⟩
  generalize hm : l ++ inOcts (M : Int) 4 = m at *
  have HOW := hide (own_mono hown (show w.heap.size ≤ (w.alloc (.cells #[.slice A n c] 32)).heap.size by simp))
  have HB := hide (((Below.refl _ w).alloc (Nat.le_refl _) _).trans (hb.mono (by simp)))
  clear hown hb
  go_wp2
  go_ret
  show Fresh w (l ++ inOcts (M : Int) 4) _ _
  rw [hm]
  exact ⟨A', c', rfl, HOW.out, HB.out⟩

theorem check_short (A : Option Addr) (n c : Nat) (w : World) (hn : n < 4) :
    Calls Try.prog 78 #[.slice A n c] w fun e w' => e = .returned (.tuple #[.slice none 0 0, .bool false]) ∧ w = w' := by
  go_enter Try.func78, Try.ntmps78
  go_wp2
  go_ret2
  exact ⟨rfl, rfl⟩

/-- b[i:] -/
theorem back_run (w : World) (A : Option Addr) (n c i : Nat) (hi : i ≤ n) (hc : n ≤ c) (hic : i < c) :
    (Instr.slice 32 (.slice A n c) (some (.int .i64 (i : Int))) none none).run Try.prog w = .ok (.slice (A.map (·.add i)) (n - i) (c - i)) w := by
  have h := run_slice_l (P := Try.prog) (w := w) 32 A n c (by kernel_rfl) .i64 (i : Int) (by omega) (by omega)
  rw [h]
  have hs : (sizeOf (Try.prog.elem 32)).run Try.prog w = .ok 1 w := by kernel_rfl
  rw [hs]
  cases A <;> simp [Result.andThen, sliced, Nat.ne_of_gt hic]
theorem Row.tail {w : World} {P : Nat → Prop} {A : Option Addr} {n c : Nat} {l : List Int} (h : Row w P A n c (octs l)) {k : Nat} (hk : k ≤ n) (hc : k < c) :
    Row w P (A.map (·.add k)) (n - k) (c - k) (octs (l.drop k)) := by
  have := h.back hk
  rwa [if_neg (by omega), octs_drop] at this
theorem Row.head {w : World} {P : Nat → Prop} {A : Option Addr} {n c : Nat} {l : List Int} (h : Row w P A n c (octs l)) {k : Nat} (hk : k ≤ n) : Row w P A k c (octs (l.take k)) := by
  have := h.front hk
  rwa [octs_take] at this
theorem Row.drewN {w : World} {P : Nat → Prop} {A : Option Addr} {n c : Nat} {xs : List Value} (h : Row w P A n c xs) (q : Nat) : Row (w.drewN q) P A n c xs := h

/-- The octets without their sum, in memory of their own. -/
def Checked (w : World) (l : List Int) (w' : World) (e : Ending) : Prop :=
  ∃ A c, e = .returned (.tuple #[.slice A l.length c, .bool true]) ∧ w'.ownsRow w.heap.size 5 1 (.slice A l.length c) l.length (octs l) ∧ Below w.heap.size w w'
theorem check_go (A : Option Addr) (m c : Nat) (l : List Int) (S : Nat) (ok : Bool) (w : World) (h : Row w (· < w.heap.size) A (m + 4) c (octs l)) (ho : Octs l) (hn : m ≤ 140737488355000)
    (hS : S = crc (l.take m)) (hok : ok = decide (num (l.drop m) = (S : Int))) :
    Calls Try.prog 78 #[.slice A (m + 4) c] w fun e w' => (ok = true → Checked w (l.take m) w' e) ∧ (ok = false → e = .returned (.tuple #[.slice none 0 0, .bool false]) ∧ Below w.heap.size w w') := by
  have hl : l.length = m + 4 := by rw [← h.1, octs_len]
  have hc : m + 4 ≤ c := h.2.1
  have hcb : c ≤ 9223372036854775807 := h.2.2.1
  have H1 := hide (h.head (k := m) (by omega))
  have H2 := hide (show Row w (· < w.heap.size) (A.map (·.add m)) 4 (c - m) (octs (l.drop m)) by have := h.tail (k := m) (by omega) (by omega); rwa [show m + 4 - m = 4 by omega] at this)
  have hs1 : ∀ W, (Instr.slice 32 (.slice A (m + 4) c) none (some (.int .i64 (m : Int))) none).run Try.prog W = .ok (.slice A m c) W := fun W => front_run W A (m + 4) c m (by omega)
  have hs2 : ∀ W, (Instr.slice 32 (.slice A (m + 4) c) (some (.int .i64 (m : Int))) none none).run Try.prog W = .ok (.slice (A.map (·.add m)) 4 (c - m)) W := fun W => by
    have := back_run W A (m + 4) c m (by omega) (by omega) (by omega)
    rwa [show m + 4 - m = 4 by omega] at this
  have O1 := hide (ho.take m)
  have O2 := hide (ho.drop m)
  have L2 := hide (show (l.drop m).length = 4 by rw [List.length_drop, hl]; omega)
  have L1 := hide (show (l.take m).length = m by rw [List.length_take, hl]; omega)
  have HS := hide hS
  have HK := hide hok
  have HT := hide (num_lt (l.drop m) (ho.drop m))
  have hSlt : S < 4294967296 := by rw [hS]; exact crc_lt
  clear h ho hS hok hl
  generalize l.take m = l1 at *
  generalize l.drop m = l2 at *
  go_enter Try.func78, Try.ntmps78
  go_wp2_with fail
  go_quiet (fail)
  have H1 := hide (show Row (w.drewN nq) (· < w.heap.size) A m c (octs l1) from H1.out)
  have H2 := hide (show Row (w.drewN nq) (· < w.heap.size) (A.map (·.add m)) 4 (c - m) (octs l2) from H2.out)
  have HB := hide (below_drewN (Below.refl w.heap.size w) nq)
  have HZ := hide (show (w.drewN nq).heap.size = w.heap.size from rfl)
  generalize w.drewN nq = w1 at *
  go_wp2_with fail
  refine (new_any _ _ _ _ l2 _ H2.out O2.out (by omega)).mono ?_
  rintro e w2 ⟨g, rfl, hg, hr, hb⟩
  have HR := hide hr
  have HB2 := hide (HB.out.trans (hb.mono (by rw [HZ.out]; exact Nat.le_refl _)))
  have H1 := hide (H1.out.below hb (fun b hb _ => by have := HZ.out; omega))
  have HG := hide (show w.heap.size ≤ g by rw [← HZ.out]; exact hg)
  clear hr hb hg
  go_wp2_with fail
  refine (take_yes _ g _ 4 _ HR.out (by rw [L2.out]; omega) (by omega) (by omega)).mono ?_
  rintro e w3 ⟨rfl, -, ht⟩
  have HE := hide (show l2.take 4 = l2 from List.take_of_length_le (by rw [L2.out]; omega))
  rw [HE.out]
  have HB3 := hide (HB2.out.trans (ht.below HB2.out.size (fun k hk e => by have := HG.out; omega)))
  have H1 := hide (H1.out.touch ht (fun b hb _ e => by have := HG.out; omega))
  clear ht
  generalize hN : num l2 = N at *
  go_wp2_with fail
  refine (sum_one _ _ _ _ l1 S _ _ HS.out H1.out O1.out).mono ?_
  rintro e w' ⟨rfl, rfl⟩
  by_cases hq : N = (S : Int)
  · have HKT := hide (show ok = true by rw [HK.out]; exact decide_eq_true hq)
    clear HK
    subst hq
    go_wp2_with fail
    refine (clone_any _ _ _ _ l1 _ (H1.out.alloc _) (by omega)).mono ?_
    rintro e w4 ⟨A', c', rfl, hown, hb⟩
    have hB4 : Below w.heap.size w w4 := (HB3.out.alloc HB3.out.size _).trans (hb.mono (by have := HB3.out.size; simp; omega))
    have HO4 := hide (own_mono hown (show w.heap.size ≤ _ by have := HB3.out.size; simp; omega))
    have HB4 := hide hB4
    clear hown hb hB4
    go_wp2
    go_ret2
    refine ⟨fun _ => ⟨A', c', ?_, ?_, HB4.out⟩, fun h => ?_⟩
    · rw [L1.out]; rfl
    · rw [L1.out]; exact HO4.out
    · rw [HKT.out] at h; cases h
  · have HKT := hide (show ok = false by rw [HK.out]; exact decide_eq_false hq)
    clear HK
    have hq' : (N != (S : Int)) = true := by simpa using hq
    have HB4 := hide (HB3.out.alloc HB3.out.size (.cells #[.slice A m c] 32))
    clear hq
    go_wp2
    go_ret2
    refine ⟨fun h => ?_, fun _ => ⟨rfl, HB4.out⟩⟩
    rw [HKT.out] at h
    cases h
end Go.Proofs.Ythoedknnchaiaaa
