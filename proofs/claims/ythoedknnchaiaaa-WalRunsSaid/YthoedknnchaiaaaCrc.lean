/-
  The contracts of package crc's functions and of the reference's sum.
-/
import Derived.Test.YthoedknnchaiaaaOctPut
import Derived.Test.YthoedknnchaiaaaCrcM
import Derived.Laws.BitsAllLaws
namespace Go.Proofs.Ythoedknnchaiaaa
open Go.RowKit
set_option linter.unusedVariables false

theorem and_one (n : Nat) (h : n < 4294967296) : bits .and .u32 (n : Int) 1 = ((n % 2 : Nat) : Int) := by
  rw [show (1 : Int) = ((1 : Nat) : Int) from rfl, u32_and_nat n 1 h (by omega), Nat.and_one_is_mod]
theorem xor_poly (n : Nat) (h : n < 4294967296) : bits .xor .u32 (n : Int) 3988292384 = ((n ^^^ 3988292384 : Nat) : Int) :=
  u32_xor_nat n 3988292384 h (by omega)
theorem not32 (n : Nat) (h : n < 4294967296) : bits .xor .u32 IntKind.u32.max (n : Int) = ((4294967295 - n : Nat) : Int) := by
  rw [show IntKind.u32.max = ((4294967295 : Nat) : Int) from rfl, u32_xor_nat 4294967295 n (by omega) h]
  have e : 4294967295 ^^^ n = 4294967295 - n := by
    apply Nat.eq_of_testBit_eq
    intro i
    rw [show 4294967295 - n = 2 ^ 32 - (n + 1) by omega, Nat.testBit_two_pow_sub_succ h, Nat.testBit_xor, show 4294967295 = 2 ^ 32 - 1 from rfl, Nat.testBit_two_pow_sub_one]
    by_cases hi : i < 32
    · simp [hi]
    · simp [hi, Nat.testBit_lt_two_pow (i := i) (Nat.lt_of_lt_of_le h (show 4294967296 ≤ 2 ^ i from Nat.pow_le_pow_right (n := 2) (i := 32) (j := i) (by omega) (by omega)))]
  rw [e]
theorem xor_oct (m : Nat) (z : Int) (h : m < 4294967296) (hz : 0 ≤ z ∧ z < 256) : bits .xor .u32 (m : Int) z = ((m ^^^ z.toNat : Nat) : Int) := by
  rw [u32_xor _ _ (by omega) (by omega) hz.1 (by omega), Int.toNat_natCast]

theorem shift_any (n : Nat) (w : World) (hn : n < 4294967296) :
    Calls Try.prog 90 #[.int .u32 (n : Int)] w fun e w' => e = .returned (.int .u32 ((steps 8 n : Nat) : Int)) ∧ w = w' := by
  go_enter Try.func90, Try.ntmps90
  go_wp2
  go_loop [0, 4] (fun v i => ∃ (m j : Nat), j ≤ 8 ∧ m < 4294967296 ∧ v = .int .u32 (m : Int) ∧ i = .int .i64 j ∧ Hid (steps (8 - j) m = steps 8 n)) (fun _ i => 8 - (intOf i).toNat)
  case atStart => exact ⟨n, 0, by omega, hn, rfl, rfl, hide rfl⟩
  case round =>
    obtain ⟨m, j, hj, hm, rfl, rfl, hs⟩ := hrel
    by_cases hlt : j < 8
    · have e8 : steps (8 - (j + 1)) (step m) = steps 8 n := by
        rw [← hs.out, show 8 - j = 8 - (j + 1) + 1 by omega]
        rfl
      have hsl := step_lt hm
      by_cases h2 : m % 2 = 1
      · have ha := and_one m hm
        rw [h2] at ha
        have hx := xor_poly (m / 2) (by omega)
        rw [show (m / 2) ^^^ 3988292384 = step m by unfold step; rw [if_pos h2]] at hx
        generalize step m = M at *
        have E8 := hide e8
        have HX := hide hx
        clear e8 hx
        go_wp2
        go_round
        case rel => exact ⟨M, j + 1, by omega, hsl, by rw [← HX.out]; rfl, by go_num, E8⟩
        case measure => simp [intOf]; omega
      · have ha := and_one m hm
        rw [show m % 2 = 0 by omega] at ha
        rw [show step m = m / 2 by unfold step; rw [if_neg h2]] at e8 hsl
        have E8 := hide e8
        clear e8
        go_wp2
        go_round
        case rel => exact ⟨m / 2, j + 1, by omega, hsl, by go_num, by go_num, E8⟩
        case measure => simp [intOf]; omega
    · have hs' : m = steps 8 n := by
        have e := hs.out
        rw [show 8 - j = 0 by omega] at e
        exact e
      go_wp2
      go_ret
      exact ⟨by rw [← hs']; rfl, rfl⟩

theorem reg_take (n : Nat) (l : List Int) (j : Nat) (h : j < l.length) : reg n (l.take (j + 1)) = steps 8 (reg n (l.take j) ^^^ (l.getD j 0).toNat) := by
  rw [List.take_add_one, List.getElem?_eq_getElem h, List.getD_eq_getElem?_getD, List.getElem?_eq_getElem h]
  exact reg_snoc n _ _

theorem more_any (P : Nat → Prop) (s : Nat) (A : Option Addr) (n c : Nat) (l : List Int) (w : World) (hs : s < 4294967296) (h : Row w P A n c (octs l)) (ho : Octs l) :
    Calls Try.prog 87 #[.int .u32 (s : Int), .slice A n c] w fun e w' => e = .returned (.int .u32 ((more s l : Nat) : Int)) ∧ w = w' := by
  obtain rfl : n = l.length := by rw [← h.1, octs_len]
  have HR := hide h
  have HO := hide ho
  have hb : l.length ≤ 9223372036854775807 := Nat.le_trans h.le h.cap
  have hnot := not32 s hs
  have hlt' : 4294967295 - s < 4294967296 := by omega
  have hm : more s l = 4294967295 - reg (4294967295 - s) l := rfl
  generalize 4294967295 - s = s' at *
  generalize more s l = M at *
  clear h ho
  go_enter Try.func87, Try.ntmps87
  go_wp2
  go_loop [5, 12] (fun v i => ∃ (m j : Nat), j ≤ l.length ∧ m < 4294967296 ∧ v = .int .u32 (m : Int) ∧ i = .int .i64 j ∧ Hid (m = reg s' (l.take j))) (fun _ i => l.length - (intOf i).toNat)
  case atStart => exact ⟨s', 0, Nat.zero_le _, hlt', rfl, rfl, hide rfl⟩
  case round =>
    obtain ⟨m, j, hj, hm', rfl, rfl, hmr⟩ := hrel
    by_cases hlt : j < l.length
    · obtain ⟨b, o, rfl, -, -, hc⟩ := HR.out.some_ (by omega)
      have hcell := (hc j hlt).trans (octs_at l j hlt)
      have h2 := HO.out.getD j
      have hk := reg_take s' l j hlt
      rw [← hmr.out] at hk
      have HK := hide hk
      clear hc hk
      generalize l.getD j 0 = z at *
      have hx := hide (xor_oct m z hm' h2)
      have hy : m ^^^ z.toNat < 4294967296 := xor_lt32 hm' (oct_lt h2)
      go_wp2_with fail
      rw [hx.out]
      refine (shift_any _ _ hy).mono ?_
      rintro e w' ⟨rfl, rfl⟩
      go_wp2
      go_round
      case rel => exact ⟨steps 8 (m ^^^ z.toNat), j + 1, by omega, steps_lt 8 hy, rfl, by go_num, hide HK.out.symm⟩
      case measure => simp [intOf]; omega
    · obtain rfl : j = l.length := by omega
      have hmr' := hmr.out
      rw [List.take_length] at hmr'
      have hf := not32 m hm'
      clear hmr
      have HM := hide hmr'
      clear hmr'
      go_wp2
      go_ret
      refine ⟨?_, rfl⟩
      rw [← HM.out]
      rfl

theorem bit_int (q x k : Nat) : (q : Int) % 2 = ((q % 2 : Nat) : Int) ∧ ((x : Int) / 2 ^ k).tmod 2 = ((x / 2 ^ k % 2 : Nat) : Int) := by
  refine ⟨by omega, ?_⟩
  have e : (x : Int) / 2 ^ k = ((x / 2 ^ k : Nat) : Int) := by simp
  rw [e, Int.tmod_eq_emod_of_nonneg (Int.natCast_nonneg _)]
  omega
theorem bit_eq (q x k : Nat) (h : q % 2 = x / 2 ^ k % 2) : ((q : Int) % 2 != ((x : Int) / 2 ^ k).tmod 2) = false := by
  rw [(bit_int q x k).1, (bit_int q x k).2, h]
  simp
theorem bit_ne (q x k : Nat) (h : ¬ q % 2 = x / 2 ^ k % 2) : ((q : Int) % 2 != ((x : Int) / 2 ^ k).tmod 2) = true := by
  rw [(bit_int q x k).1, (bit_int q x k).2]
  simp only [bne_iff_ne, ne_eq]
  omega

theorem ref_sum (P : Nat → Prop) (A : Option Addr) (n c : Nat) (l : List Int) (w : World) (h : Row w P A n c (octs l)) (ho : Octs l) :
    Calls Try.prog 71 #[.slice A n c] w fun e w' => e = .returned (.int .u32 ((crc l : Nat) : Int)) ∧ w = w' := by
  obtain rfl : n = l.length := by rw [← h.1, octs_len]
  have HR := hide h
  have HO := hide ho
  have hb : l.length ≤ 9223372036854775807 := Nat.le_trans h.le h.cap
  have hm : crc l = 4294967295 - reg 4294967295 l := rfl
  generalize crc l = M at *
  clear h ho
  go_enter Try.func71, Try.ntmps71
  go_wp2
  go_loop [3, 4] (fun v i => ∃ (m j : Nat), j ≤ l.length ∧ m < 4294967296 ∧ v = .int .u32 (m : Int) ∧ i = .int .i64 j ∧ Hid (m = reg 4294967295 (l.take j))) (fun _ i => l.length - (intOf i).toNat)
  case atStart => exact ⟨4294967295, 0, Nat.zero_le _, by omega, rfl, rfl, hide rfl⟩
  case round =>
    obtain ⟨m, j, hj, hm', rfl, rfl, hmr⟩ := hrel
    by_cases hlt : j < l.length
    · obtain ⟨b, o, rfl, -, -, hc⟩ := HR.out.some_ (by omega)
      have hcell := (hc j hlt).trans (octs_at l j hlt)
      have h2 := HO.out.getD j
      have hk := reg_take 4294967295 l j hlt
      rw [← hmr.out] at hk
      generalize l.getD j 0 = z at *
      obtain ⟨x, rfl⟩ := Int.eq_ofNat_of_zero_le h2.1
      have hx : x < 256 := by omega
      rw [Int.toNat_natCast] at hk
      have HK := hide hk
      clear hc hk
      go_wp2
      go_loop [3, 5] (fun v i => ∃ (q k : Nat), k ≤ 8 ∧ q < 4294967296 ∧ v = .int .u32 (q : Int) ∧ i = .int .i64 k ∧ Hid (steps (8 - k) (q ^^^ x / 2 ^ k) = steps 8 (m ^^^ x))) (fun _ i => 8 - (intOf i).toNat)
      case atStart => exact ⟨m, 0, by omega, hm', rfl, rfl, hide (by simp)⟩
      case round =>
        obtain ⟨q, k, hk, hq, rfl, rfl, hs⟩ := hrel
        by_cases hk8 : k < 8
        · have hgo := rstep_go q x k hk8
          rw [hs.out] at hgo
          have hrl := rstep_lt hq (x / 2 ^ k % 2)
          by_cases hbit : q % 2 = x / 2 ^ k % 2
          · have hne := bit_eq q x k hbit
            rw [show rstep q (x / 2 ^ k % 2) = q / 2 by unfold rstep; rw [if_pos hbit]] at hgo hrl
            have HG := hide hgo.symm
            clear hgo hs HK hbit
            go_wp2
            go_round
            case rel => exact ⟨q / 2, k + 1, by omega, hrl, by go_num, by go_num, HG⟩
            case measure => simp [intOf]; omega
          · have hne := bit_ne q x k hbit
            have hx := xor_poly (q / 2) (by omega)
            rw [show (q / 2) ^^^ 3988292384 = rstep q (x / 2 ^ k % 2) by unfold rstep; rw [if_neg hbit]] at hx
            generalize rstep q (x / 2 ^ k % 2) = Z at *
            have HG := hide hgo.symm
            have HX := hide hx
            clear hgo hs HK hbit hx
            go_wp2
            go_round
            case rel => exact ⟨Z, k + 1, by omega, hrl, by rw [← HX.out]; rfl, by go_num, HG⟩
            case measure => simp [intOf]; omega
        · have e8 : q = steps 8 (m ^^^ x) := by
            have e := hs.out
            rw [show 8 - k = 0 by omega, show k = 8 by omega, Nat.div_eq_of_lt hx, Nat.xor_zero] at e
            exact e
          rw [← HK.out] at e8
          clear hs HK
          have H8 := hide e8
          clear e8
          go_wp2
          go_round
          case rel => exact ⟨q, j + 1, by omega, hq, rfl, by go_num, H8⟩
          case measure => simp [intOf]; omega
    · obtain rfl : j = l.length := by omega
      have hmr' := hmr.out
      rw [List.take_length] at hmr'
      clear hmr
      have HM := hide hmr'
      clear hmr'
      have HMM := hide hm
      clear hm
      go_wp2
      go_ret
      refine ⟨?_, rfl⟩
      show Ending.returned (.int .u32 (4294967295 - (m : Int))) = _
      rw [HMM.out, ← HM.out]
      congr 2
      omega
end Go.Proofs.Ythoedknnchaiaaa
