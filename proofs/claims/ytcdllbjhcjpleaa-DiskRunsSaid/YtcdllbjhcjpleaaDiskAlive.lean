/-
  Calls that lead to a disk and to octets: begin, few; alive.
-/
import Derived.Test.YtcdllbjhcjpleaaDiskP
import Derived.Test.YtcdllbjhcjpleaaDiskW
import Derived.BigQuiet
namespace Go.Proofs.Ytcdllbjhcjpleaa
open Go.RowKit
set_option linter.unusedVariables false

theorem front_run11 (w : World) (A : Option Addr) (n c k : Nat) (hk : k ≤ c) :
    (Instr.slice 22 (.slice A n c) none (some (.int .i64 (k : Int))) none).run Try.prog w = .ok (.slice A k c) w := by
  have h := run_slice_h (P := Try.prog) (w := w) 22 A n c (by kernel_rfl) .i64 (k : Int) (by omega) (by omega)
  rw [h]
  have hs : (sizeOf (Try.prog.elem 22)).run Try.prog w = .ok 4 w := by kernel_rfl
  rw [hs]
  cases A <;> simp [Result.andThen, sliced, Addr.add_zero']
theorem few11_any (A : Option Addr) (n c : Nat) (w : World) (hc : n ≤ c) (hcb : c ≤ 9223372036854775807) : Calls Try.prog 11 #[.slice A n c] w fun e w' => e = .returned (.slice A (min n 50) c) ∧ w = w' := by
  rcases Nat.lt_or_ge 50 n with h | h
  · have hs1 : ∀ W, (Instr.slice 22 (.slice A n c) none (some (.int .i64 50)) none).run Try.prog W = .ok (.slice A 50 c) W := fun W => front_run11 W A n c 50 (by omega)
    have e : min n 50 = 50 := by omega
    have h' : (50 : Int) < (n : Int) := by omega
    have E := hide e
    clear e
    go_enter Try.func11, Try.ntmps11
    go_wp2
    go_ret
    exact ⟨by rw [E.out]; rfl, rfl⟩
  · have e : min n 50 = n := by omega
    have h' : ¬ ((50 : Int) < (n : Int)) := by omega
    rw [e]
    clear e
    go_enter Try.func11, Try.ntmps11
    go_wp2
    go_ret
    exact ⟨rfl, rfl⟩

/-- Octets, all 0. -/
theorem made_zero (n : Nat) : (madeCells #[.int .u8 0] n).size = n ∧ (madeCells #[.int .u8 0] n).toList = octs (List.replicate n 0) := by
  refine ⟨by simp [size_madeCells], ?_⟩
  apply List.ext_getElem?
  intro j
  by_cases h : j < n
  · simp [madeCells, octs, h, Nat.mod_one]
  · simp [madeCells, octs, h]

/-- New octets. -/
def Begun (m : Nat) (w w' : World) (e : Ending) : Prop :=
  ∃ g a cur, e = .returned (.pointer (some ⟨g, 0, none⟩)) ∧ w.heap.size ≤ g ∧ w.heap.size ≤ a ∧ Bk w' g a (32 * m) cur (Dk.fresh m) ∧ Below w.heap.size w w'
theorem begin_any (n : Int) (m : Nat) (w : World) (hm : near n 0 256 = (m : Int)) (hmb : m ≤ 256) :
    Calls Try.prog 8 #[.int .i64 n] w fun e w' => Begun m w w' e := by
  obtain ⟨i5, hi, hz0, hz1, hz2⟩ := info_parts info5
  have hmk := fun W => run_make (P := Try.prog) W 33 5 i5 (.int .u8 0) Try.underlying33 hi hz0 .i64 .i64 (32 * (m : Int)) (32 * (m : Int)) (by omega) (by omega) (by rw [hz2]; omega) (by omega)
  have hw : IntKind.i64.wrap (32 * (m : Int)) = 32 * (m : Int) := by rw [IntKind.wrap_i64]; omega
  rw [hz1, Nat.mul_one, show (32 * (m : Int)).toNat = 32 * m by omega] at hmk
  obtain ⟨cur, hcur⟩ : ∃ cur, cur = madeCells #[.int .u8 0] (32 * m) := ⟨_, rfl⟩
  have hz := made_zero (32 * m)
  have hmk' : ∀ W : World, (Instr.makeSlice 33 (.int .i64 (32 * (m : Int))) (.int .i64 (32 * (m : Int)))).run Try.prog W = .ok (.slice (some ⟨W.heap.size, 0, none⟩) (32 * m) (32 * m)) (W.alloc (.cells cur 5)) := fun W => by rw [hcur]; exact hmk W
  rw [← hcur] at hz
  have HZ := hide hz
  have HM := hide hmb
  clear hmk hz hcur hmb
  go_enter Try.func8, Try.ntmps8
  go_wp2_with fail
  refine (near_any n 0 256 _).mono ?_
  rintro e w' ⟨rfl, rfl⟩
  rw [hm]
  go_wp2
  go_ret
  refine ⟨w.heap.size + 1, w.heap.size, cur, ?_, by omega, Nat.le_refl _, ?_, ?_⟩
  · simp
  · have h0 : (Dk.fresh m).b.length = 32 * m := List.length_replicate
    refine ⟨?_, ?_, by omega, by rw [h0]; exact Nat.le_refl _, by have := HM.out; omega, HZ.out.1, ?_⟩
    · rw [h0]
      have h := Blk.new (w.alloc (.cells cur 5)) 35 #[.slice (some ⟨w.heap.size, 0, none⟩) (32 * m) (32 * m), .int .i64 (-1), .bool false, .int .i64 0]
      rw [show (w.alloc (.cells cur 5)).heap.size = w.heap.size + 1 by simp] at h
      exact h
    · exact (Blk.new w 5 cur).alloc _
    · rw [h0, ← HZ.out.1, List.take_of_length_le (by simp), HZ.out.2]
      rfl
  · exact ((Below.refl _ w).alloc (Nat.le_refl _) _).alloc (by simp) _

/-- A row of k ones, as far as it is laid. -/
def Ones (w : World) (a i : Nat) : Prop := ∃ cur, Blk w a 5 cur ∧ cur.toList = octs (List.replicate i 1 ++ List.replicate (32 - i) 0)
theorem ones_step {i : Nat} (h : i < 32) : (octs (List.replicate i 1 ++ List.replicate (32 - i) 0)).set i (.int .u8 1) = octs (List.replicate (i + 1) 1 ++ List.replicate (32 - (i + 1)) 0) := by
  have e : 32 - i = (32 - (i + 1)) + 1 := by omega
  rw [e, List.replicate_succ (n := 32 - (i + 1)), List.replicate_succ' (n := i)]
  simp [octs]
def ones : List Int := List.replicate 32 1
def kA : Dk := (Dk.fresh 3).arm 40
def kB : Dk := kA.write 0 ones
def kC : Dk := kB.write 1 ones
def kD : Dk := kC.revive
theorem k_facts : kA.wrote 0 ones = true ∧ kB.wrote 1 ones = false ∧ decide (kC.has 0) = false ∧ decide (kD.has 1) = true ∧ kD.read 1 = List.replicate 8 1 ++ List.replicate 24 0 ∧ kD.written = 40 ∧ kC.read 0 = [] := by decide +kernel
theorem ones_octs : Octs ones := fun n hn => by rw [List.eq_of_mem_replicate hn]; omega
theorem kA_ok : kA.ok 3 := Dk.ok_arm (Dk.ok_fresh (by decide)) (by decide)
theorem kB_ok : kB.ok 3 := Dk.ok_write kA_ok 0 ones_octs
theorem kC_ok : kC.ok 3 := Dk.ok_write kB_ok 1 ones_octs
theorem kD_ok : kD.ok 3 := Dk.ok_revive kC_ok
/-- The disk is as k says; the ones lie at block r. -/
def Liv (w0 : World) (r d : Nat) (k : Dk) (w : World) : Prop :=
  ∃ P, Dsk w P d k ∧ (∀ n, P n → w0.heap.size ≤ n) ∧ ¬ P r ∧ Row w (· = r) (some ⟨r, 0, none⟩) 32 32 (octs ones) ∧ r < w.heap.size ∧ w0.heap.size ≤ r ∧ Below w0.heap.size w0 w
theorem Liv.later {w0 w w' : World} {r d : Nat} {k : Dk} (h : Liv w0 r d k w) (hb : Below w.heap.size w w') : Liv w0 r d k w' := by
  obtain ⟨P, h1, h2, h3, h4, h5, h6, h7⟩ := h
  exact ⟨P, dsk_keep h1 fun b _ hb' => hb.block b hb', h2, h3, h4.below hb fun b _ h => h, Nat.lt_of_lt_of_le h5 hb.size, h6, h7.trans (hb.mono h7.size)⟩
theorem Liv.call {w0 w : World} {r d : Nat} {k k2 : Dk} {v : Value} {f : FuncId} {args : Array Value} (h : Liv w0 r d k w)
    (hc : ∀ P, Dsk w P d k → (∀ n, n = r → n < w.heap.size → ¬ P n) → Row w (· = r) (some ⟨r, 0, none⟩) 32 32 (octs ones) → Calls Try.prog f args w fun e w' => DDid Dsk P d k2 v w w' e) :
    Calls Try.prog f args w fun e w' => e = .returned v ∧ Hid (Liv w0 r d k2 w') := by
  obtain ⟨P, h1, h2, h3, h4, h5, h6, h7⟩ := h
  refine (hc P h1 (fun n hn _ hp => h3 (hn ▸ hp)) h4).mono ?_
  rintro e w' ⟨he, P', g1, g2, g3⟩
  refine ⟨he, P', g1, fun n hn => (g2 n hn).elim (h2 n) fun h => Nat.le_trans h7.size h, fun hp => (g2 r hp).elim h3 fun h => by omega, ?_, Nat.lt_of_lt_of_le h5 g3.size, h6, ?_⟩
  · exact h4.touch g3 fun b hb _ hp => h3 (hb ▸ hp)
  · exact ⟨g3.os.trans h7.os, g3.tape.trans h7.tape, g3.output.trans h7.output, Nat.le_trans h7.size g3.size, fun n hn => (g3.block n (Nat.lt_of_lt_of_le hn h7.size) fun hp => by have := h2 n hp; omega).trans (h7.block n hn)⟩

set_option maxHeartbeats 4000000 in
set_option maxRecDepth 10000 in
theorem alive11 (w : World) : Calls Try.prog 6 #[] w fun e w' => e = .returned (.bool true) ∧ Below w.heap.size w w' := by
  obtain ⟨i5, hi, hz0, hz1, hz2⟩ := info_parts info5
  have hmk := fun W => run_make (P := Try.prog) W 33 5 i5 (.int .u8 0) Try.underlying33 hi hz0 .i64 .i64 32 32 (by omega) (by omega) (by rw [hz2]; omega) (by omega)
  rw [hz1, show (32 : Int).toNat * 1 = 32 from rfl, show (32 : Int).toNat = 32 from rfl] at hmk
  have hz := made_zero 32
  obtain ⟨cur, hcur⟩ : ∃ cur, cur = madeCells #[.int .u8 0] 32 := ⟨_, rfl⟩
  have hmk' : ∀ W : World, (Instr.makeSlice 33 (.int .i64 32) (.int .i64 32)).run Try.prog W = .ok (.slice (some ⟨W.heap.size, 0, none⟩) 32 32) (W.alloc (.cells cur 5)) := fun W => by rw [hcur]; exact hmk W
  rw [← hcur] at hz
  have HZ := hide hz
  clear hmk hz hcur
  go_enter Try.func6, Try.ntmps6
  go_wp2_with fail
  refine (dnew_any 3 w ⟨by omega, by omega⟩).mono ?_
  rintro e w1 ⟨d, P, rfl, hd, hp, hb⟩
  have hd : Dsk w1 P d (Dk.fresh 3) := hd
  have HD1 := hide hd
  have HP := hide hp
  have HB1 := hide hb
  clear hd hp hb
  have HO := hide (show Ones (w1.alloc (.cells cur 5)) w1.heap.size 0 from ⟨cur, Blk.new _ _ _, HZ.out.2⟩)
  have HB2 := hide (HB1.out.alloc HB1.out.size (.cells cur 5))
  have HD2 := hide (show Dsk (w1.alloc (.cells cur 5)) P d (Dk.fresh 3) from dsk_keep HD1.out fun b _ hb => Below.heap_alloc w1 _ _ hb)
  have hwl : w.heap.size ≤ w1.heap.size := HB1.out.size
  have hPn := hide (show ¬ P w1.heap.size from fun h => Nat.lt_irrefl _ (dsk_lt HD1.out _ h))
  go_wp2
  go_loopw [3] (fun s3 wr => ∃ i : Nat, i ≤ 32 ∧ s3 = .int .i64 i ∧ Hid (Ones wr w1.heap.size i) ∧ Hid (Dsk wr P d (Dk.fresh 3)) ∧ Hid (Below w.heap.size w wr)) (fun s3 _ => 32 - (intOf s3).toNat)
  case atStart => exact ⟨0, by omega, rfl, HO, HD2, HB2⟩
  case round =>
    obtain ⟨i, hi32, rfl, ho, hdr, hbr⟩ := hrel
    obtain ⟨c2, hc2, hl2⟩ := ho.out
    have hs2 : c2.size = 32 := by have := congrArg List.length hl2; simp [octs] at this; omega
    by_cases hlt : i < 32
    · have qc : wr.cell? ⟨w1.heap.size, i, none⟩ = some (c2[i]'(by omega)) := by rw [hc2.cell i, Array.getElem?_eq_getElem (by omega)]
      generalize c2[i]'(by omega) = old at qc
      have qf := hc2.frozen i
      have H1 := hide (show Ones (wr.setCell ⟨w1.heap.size, i, none⟩ (.int .u8 1)) w1.heap.size (i + 1) from ⟨_, hc2.store i (.int .u8 1), by rw [Array.toList_setIfInBounds, hl2, ones_step hlt]⟩)
      have H2 := hide (show Dsk (wr.setCell ⟨w1.heap.size, i, none⟩ (.int .u8 1)) P d (Dk.fresh 3) from dsk_keep hdr.out fun b hPb _ => Below.heap_setCell wr ⟨w1.heap.size, i, none⟩ _ b fun h => hPn.out ((show b = w1.heap.size from h) ▸ hPb))
      have H3 := hide (hbr.out.setCell (p := ⟨w1.heap.size, i, none⟩) hwl (.int .u8 1))
      clear hc2 hl2 hs2
      go_wp2
      go_round
      case rel => exact ⟨i + 1, by omega, by go_num, H1, H2, H3⟩
      case measure => simp [intOf]; omega
    · obtain rfl : i = 32 := by omega
      have HR := hide (show Row wr (· = w1.heap.size) (some ⟨w1.heap.size, 0, none⟩) 32 32 (octs ones) from ⟨by rw [octs_len]; rfl, Nat.le_refl _, by omega, .inr ⟨_, 0, rfl, rfl, fun j hj => by
        rw [Nat.zero_add, hc2.cell j, ← Array.getElem?_toList, hl2]
        rfl⟩⟩)
      have HV := hide (show Liv w w1.heap.size d (Dk.fresh 3) wr from ⟨P, hdr.out, HP.out, hPn.out, HR.out, hc2.lt, hwl, hbr.out⟩)
      clear hc2 hl2 hs2 ho hdr hbr HO HB2 HD2 HD1 HP HB1 hPn HR hwl
      generalize w1.heap.size = r at *
      obtain ⟨f1, f2, f3, f4, f5, f6, f7⟩ := k_facts
      go_wp2_with fail
      refine (HV.out.call (k2 := kA) fun P h _ _ => darm_any 40 _ h (Dk.ok_fresh (by decide)) ⟨by omega, by omega⟩).mono ?_
      rintro e w2 ⟨rfl, HV⟩
      go_wp2_with fail
      refine (HV.out.call (k2 := kB) (v := .bool true) fun P h hq hr => f1 ▸ dwrite_any 0 _ _ _ ones _ h kA_ok ⟨by omega, by omega⟩ hr ones_octs hq).mono ?_
      rintro e w3 ⟨rfl, HV⟩
      go_wp2_with fail
      refine (HV.out.call (k2 := kC) (v := .bool false) fun P h hq hr => f2 ▸ dwrite_any 1 _ _ _ ones _ h kB_ok ⟨by omega, by omega⟩ hr ones_octs hq).mono ?_
      rintro e w4 ⟨rfl, HV⟩
      go_wp2_with fail
      obtain ⟨P2, hd2, -⟩ := HV.out
      refine (dread_any 0 _ hd2 kC_ok ⟨by omega, by omega⟩).mono ?_
      rintro e w5 ⟨A5, c5, rfl, -, hb5⟩
      rw [f3, f7]
      have HV := hide (HV.out.later hb5)
      clear hd2 hb5
      go_wp2_with fail
      refine (HV.out.call (k2 := kD) fun P h _ _ => drevive_any _ h kC_ok).mono ?_
      rintro e w6 ⟨rfl, HV⟩
      go_wp2_with fail
      obtain ⟨P3, hd3, -⟩ := HV.out
      refine (dread_any 1 _ hd3 kD_ok ⟨by omega, by omega⟩).mono ?_
      rintro e w7 ⟨A7, c7, rfl, hown, hb7⟩
      have HV := hide (HV.out.later hb7)
      rw [f5] at hown
      rw [f4, f5]
      have hrow := Row.of_own hown
      have hl32 : (List.replicate 8 (1 : Int) ++ List.replicate 24 0).length = 32 := by simp
      rw [hl32] at hrow ⊢
      obtain ⟨b7, o7, rfl, -, -, hc7⟩ := hrow.some_ (by decide)
      have y7 : w7.cell? ⟨b7, o7 + 7, none⟩ = some (.int .u8 1) := hc7 7 (by decide)
      have y8 : w7.cell? ⟨b7, o7 + 8, none⟩ = some (.int .u8 0) := hc7 8 (by decide)
      have F6 := hide f6
      clear hown hrow hl32 hc7 hd3 hb7 f1 f2 f3 f4 f5 f6 f7
      go_wp2_with fail
      obtain ⟨P4, hd4, -⟩ := HV.out
      refine (dwritten_any _ hd4 kD_ok).mono ?_
      rintro e w8 ⟨rfl, hb8⟩
      rw [F6.out]
      have HV := hide (HV.out.later hb8)
      clear hd4 hb8
      go_wp2
      go_ret
      obtain ⟨_, _, _, _, _, _, _, hbo⟩ := HV.out
      exact ⟨rfl, hbo⟩
end Go.Proofs.Ytcdllbjhcjpleaa
