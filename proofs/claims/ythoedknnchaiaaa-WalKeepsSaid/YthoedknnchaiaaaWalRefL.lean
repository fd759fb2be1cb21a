/-
  The reference's disk: its Write.
-/
import Derived.Test.YthoedknnchaiaaaWalT
import Derived.Test.YthoedknnchaiaaaLater
import Derived.Deep.DeepCutAuto
import Derived.Deep.Cut
import Derived.Deep.CutRange
namespace Go.Proofs.Ythoedknnchaiaaa
open Go.RowKit
set_option linter.unusedVariables false

/-- The reference's disk k at block g, its octets at block a. -/
def Rk (w : World) (g a c : Nat) (cur : Array Value) (k : Dk) : Prop :=
  Blk w g 62 #[.slice (some ⟨a, 0, none⟩) k.b.length c, .int .i64 k.fuel, .bool k.dead, .int .i64 k.written] ∧ Blk w a 5 cur ∧ a ≠ g ∧ k.b.length ≤ c ∧ c ≤ 9223372036854775807 ∧ cur.size = c ∧ cur.toList.take k.b.length = octs k.b
theorem Rk.keep {w w' : World} {g a c : Nat} {cur : Array Value} {k : Dk} (h : Rk w g a c cur k) (hg : w'.heap[g]? = w.heap[g]?) (ha : w'.heap[a]? = w.heap[a]?) : Rk w' g a c cur k :=
  ⟨hg.trans h.1, ha.trans h.2.1, h.2.2⟩
theorem Rk.row {w : World} {g a c : Nat} {cur : Array Value} {k : Dk} (h : Rk w g a c cur k) : Row w (· = a) (some ⟨a, 0, none⟩) k.b.length c (octs k.b) := by
  obtain ⟨h1, h2, h3, h4, h5, h6, h7⟩ := h
  refine ⟨octs_len _, h4, h5, .inr ⟨a, 0, rfl, rfl, fun j hj => ?_⟩⟩
  rw [Nat.zero_add, h2.cell j, ← h7, List.getElem?_take, if_pos hj]
  simp
/-- How the octets lie while so many of x's are laid. -/
def RLaid (w : World) (g a c : Nat) (L : Nat) (b : List Int) (p : Nat) (x : List Int) (v1 v2 v3 : Value) (i : Nat) : Prop :=
  ∃ cur, Blk w g 62 #[.slice (some ⟨a, 0, none⟩) L c, v1, v2, v3] ∧ Blk w a 5 cur ∧ cur.size = c ∧ cur.toList.take L = octs (lay b p (x.take i))
/-- What a call on the reference's disk leaves. -/
def RDid (g a c : Nat) (k : Dk) (v : Value) (w w' : World) (e : Ending) : Prop := e = .returned v ∧ (∃ cur, Rk w' g a c cur k) ∧ Touch (fun n => n = g ∨ n = a) w w'

set_option maxHeartbeats 2000000 in
set_option maxRecDepth 100000 in
theorem refwrite_any {Q : Nat → Prop} {g a c m : Nat} {cur : Array Value} {k : Dk} (s : Nat) (A : Option Addr) (cx : Nat) (x : List Int) (w : World) (hB : Rk w g a c cur k) (hk : k.ok m) (hs : s < m) (hx : Row w Q A 32 cx (octs x)) (hxo : Octs x) (hq : ∀ b, Q b → b < w.heap.size → b ≠ g ∧ b ≠ a) :
    Calls Try.prog 56 #[.pointer (some ⟨g, 0, none⟩), .int .i64 (s : Int), .slice A 32 cx] w fun e w' => RDid g a c (k.write (s : Int) x) (.bool (k.wrote (s : Int) x)) w w' e := by
  obtain ⟨hb0, hc0, hag, hLc, hc63, hcs, hct⟩ := hB
  have hlen := hk.1
  have hm256 := hk.2.1
  have hfu := hk.2.2.2.1
  have hwri := hk.2.2.2.2
  have hx32 : x.length = 32 := by have := hx.1; rwa [octs_len] at this
  have c0 := (hb0.cell 0).trans rfl
  have c1 := (hb0.cell 1).trans rfl
  have c2 := (hb0.cell 2).trans rfl
  have c3 := (hb0.cell 3).trans rfl
  by_cases hdead : k.dead = true
  · have hno : ¬ k.may (s : Int) x := fun h => by have := h.1.2.2; rw [hdead] at this; cases this
    have e1 : k.write (s : Int) x = k := by unfold Dk.write; rw [if_neg hno]
    have e2 : k.wrote (s : Int) x = false := by unfold Dk.wrote; rw [decide_eq_false hno]; rfl
    have HR := hide (show Rk w g a c cur k from ⟨hb0, hc0, hag, hLc, hc63, hcs, hct⟩)
    rw [e1, e2]
    rw [hdead] at c2
    clear e1 e2 hno hb0 hc0 hct hcs hx
    go_enter Try.func56, Try.ntmps56
    go_wp2
    go_ret
    exact ⟨rfl, ⟨cur, HR.out⟩, Touch.refl _ _⟩
  · have hd0 : k.dead = false := by simpa using hdead
    have hm : k.may (s : Int) x := ⟨⟨by omega, by omega, hd0⟩, hx32⟩
    have hwo : k.wrote (s : Int) x = !k.dies := by unfold Dk.wrote; rw [decide_eq_true hm]; rfl
    have hwe : k.write (s : Int) x = ⟨lay k.b (32 * s) (x.take k.front), k.rest, k.dies, IntKind.i64.wrap (k.written + (k.front : Int))⟩ := by unfold Dk.write; rw [if_pos hm, Int.toNat_natCast]
    obtain ⟨xg, xo, rfl, hxq, hxlt, hxc⟩ := hx.some_ (by omega)
    have hqx := hq xg hxq hxlt
    have hfr := k.front_le
    rw [hd0] at hb0 c2
    have HXC := hide hxc
    have HWE := hide hwe
    have HWO := hide hwo
    have HCT := hide hct
    have HB0 := hide hb0
    have HC0 := hide hc0
    obtain ⟨F, hF⟩ : ∃ F, k.front = F := ⟨_, rfl⟩
    obtain ⟨dd, hdd⟩ : ∃ dd, k.dies = dd := ⟨_, rfl⟩
    have HFd := hide (show F = if dd = true then k.fuel.toNat else 32 by rw [← hF, ← hdd]; rfl)
    have HREST := hide (show k.rest = if dd = true then -1 else if 0 ≤ k.fuel then k.fuel - 32 else k.fuel by rw [← hdd]; rfl)
    have HDD := hide (show dd = decide (0 ≤ k.fuel ∧ k.fuel < 32) by rw [← hdd]; rfl)
    rw [hF] at hfr HWE
    rw [hdd] at HWO HWE
    have hgl := hb0.lt
    have hal := hc0.lt
    have f2 := hb0.frozen 2
    clear hwe hwo hct hm hdead hF hdd hxc hx hb0 hc0 hwri
    go_enter Try.func56, Try.ntmps56
    go_upto_region 4 with fail
    go_cut [7, 27] from 9 (fun s7 s27 wc => s7 = .int .i64 32 ∧ s27 = .bool dd ∧ wc = w)
    case first =>
      cases dd with
      | true =>
        have hd := of_decide_eq_true HDD.out.symm
        have hd1 := hd.1
        have hd2 := hd.2
        go_wp2_with fail
        go_meet
        case rel => exact ⟨rfl, rfl, rfl⟩
      | false =>
        have hd := of_decide_eq_false HDD.out.symm
        by_cases h0 : 0 ≤ k.fuel
        · have h1 : ¬ k.fuel < 32 := fun h => hd ⟨h0, h⟩
          go_wp2_with fail
          go_meet
          case rel => exact ⟨rfl, rfl, rfl⟩
        · go_wp2_with fail
          go_meet
          case rel => exact ⟨rfl, rfl, rfl⟩
    case rest =>
     obtain ⟨rfl, rfl, hwc⟩ := hcut
     have hwc := hwc.symm
     subst hwc
     go_upto_if 27 with fail
     go_cut [7] from 9 (fun s7 wx => s7 = .int .i64 (F : Int) ∧ Hid (RLaid wx g a c k.b.length k.b (32 * s) x (.int .i64 k.fuel) (.bool dd) (.int .i64 k.written) 0) ∧ Hid (Touch (fun n => n = g ∨ n = a) w wx))
     case first =>
      have HL0 := hide (show ∀ wc, Blk wc g 62 #[.slice (some ⟨a, 0, none⟩) k.b.length c, .int .i64 k.fuel, .bool dd, .int .i64 k.written] → Blk wc a 5 cur → RLaid wc g a c k.b.length k.b (32 * s) x (.int .i64 k.fuel) (.bool dd) (.int .i64 k.written) 0 from fun wc h1 h2 =>
        ⟨cur, h1, h2, hcs, by rw [List.take_zero, lay_nil]; exact HCT.out⟩)
      cases dd with
      | true =>
        have hd := of_decide_eq_true HDD.out.symm
        have e : ((k.fuel.toNat : Nat) : Int) = k.fuel := by omega
        go_wp2_with fail
        go_meet
        case rel =>
          refine ⟨?_, ?_, ?_⟩
          · have e2 := HFd.out
            simp only [if_true] at e2
            rw [e2, e]
          · exact HL0.out _ (HB0.out.store 2 (.bool true)) (HC0.out.far (p := ⟨g, 2, none⟩) hag _)
          · exact (Touch.refl _ _).setCell (p := ⟨g, 2, none⟩) (fun _ => Or.inl rfl) _
      | false =>
        have e : F = 32 := by rw [HFd.out, if_neg (by decide)]
        subst e
        go_wp2_with fail
        go_meet
        case rel => exact ⟨rfl, HL0.out _ HB0.out HC0.out, Touch.refl _ _⟩
     case rest =>
       obtain ⟨rfl, hinit, HT⟩ := hcut
       clear c0 c1 c2 c3 f2 HB0 HC0 HCT
       go_wp2_with fail
       go_loopw [8] (fun s8 wr => ∃ i : Nat, i ≤ F ∧ s8 = .int .i64 i ∧ Hid (RLaid wr g a c k.b.length k.b (32 * s) x (.int .i64 k.fuel) (.bool dd) (.int .i64 k.written) i) ∧ Hid (Touch (fun n => n = g ∨ n = a) w wr)) (fun s8 _ => F - (intOf s8).toNat)
       case atStart => exact ⟨0, Nat.zero_le _, rfl, hinit, HT⟩
       case round =>
         clear hinit HT
         obtain ⟨i, hi, rfl, hla, htk⟩ := hrel
         by_cases hlt : i < F
         · obtain ⟨cur2, hg2, ha2, hs2, ht2⟩ := hla.out
           have hi32 : i < 32 := by omega
           have hq1 : 32 * s + i < cur2.size := by omega
           have g0 := (hg2.cell 0).trans rfl
           have xi : wr.cell? ⟨xg, xo + i, none⟩ = some (.int .u8 (x.getD i 0)) := by
             rw [World.cell?_of_block (a := ⟨xg, xo + i, none⟩) (htk.out.block xg hxlt fun h => h.elim hqx.1 hqx.2), HXC.out i hi32, octs_at _ _ (by omega)]
           obtain ⟨q, hq2⟩ : ∃ q : Nat, q = 32 * s + i := ⟨_, rfl⟩
           have w1 : IntKind.i64.wrap (32 * (s : Int)) = 32 * (s : Int) := by rw [IntKind.wrap_i64]; omega
           have w2' : IntKind.i64.wrap (32 * (s : Int) + (i : Int)) = (q : Int) := by rw [IntKind.wrap_i64]; omega
           have hqL : (q : Int) < (k.b.length : Int) := by omega
           have hqL2 : q < k.b.length := by omega
           have hq0 : (0 : Int) ≤ (q : Int) := by omega
           have qc : wr.cell? ⟨a, q, none⟩ = some (cur2[q]'(by omega)) := by rw [ha2.cell q, Array.getElem?_eq_getElem (by omega)]
           have qf := ha2.frozen q
           have hi0' : (0 : Int) ≤ (i : Int) := by omega
           generalize cur2[q]'(by omega) = old at qc
           have HL1 := hide (show RLaid (wr.drew.setCell ⟨a, q, none⟩ (.int .u8 (x.getD i 0))) g a c k.b.length k.b (32 * s) x (.int .i64 k.fuel) (.bool dd) (.int .i64 k.written) (i + 1) from
             ⟨cur2.setIfInBounds q (.int .u8 (x.getD i 0)), hg2.far (p := ⟨a, q, none⟩) (fun h => hag h.symm) _, ha2.store q _, by rw [Array.size_setIfInBounds]; exact hs2, by
               rw [cur_set _ ht2, lay_succ (by omega) (by omega), hq2]⟩)
           have HT1 := hide (htk.out.drew.setCell (p := ⟨a, q, none⟩) (fun _ => .inr rfl) (.int .u8 (x.getD i 0)))
           generalize x.getD i 0 = xv at *
           clear hla hg2 ha2 ht2 htk hq2 hq1
           go_wp2_with fail
           go_region
           go_wp2
           go_round
           case rel => exact ⟨i + 1, hlt, by go_num, HL1, HT1⟩
           case measure => simp [intOf]; omega
         · obtain rfl : F = i := by omega
           obtain ⟨cur2, hg2, ha2, hs2, ht2⟩ := hla.out
           clear hla hi hlt
           have hww0 := hide (show ∃ W, IntKind.i64.wrap (k.written + (F : Int)) = W from ⟨_, rfl⟩)
           obtain ⟨W, hww⟩ := hww0.out
           have hww2 : wrap64 (k.written + (F : Int)) = W := (IntWalk.i64_left _).symm.trans hww
           rw [hww] at HWE
           clear hww0
           have g2 := (hg2.cell 2).trans rfl
           have g3 := (hg2.cell 3).trans rfl
           have g1 := (hg2.cell 1).trans rfl
           have q3 := hg2.frozen 3
           have b5 := hg2.store 3 (.int .i64 W)
           have a5 := ha2.far (p := ⟨g, 3, none⟩) hag (.int .i64 W)
           have t5 := htk.out.setCell (p := ⟨g, 3, none⟩) (fun _ => .inl rfl) (.int .i64 W)
           have HT2 := hide ht2
           have hlx : (lay k.b (32 * s) (x.take F)).length = k.b.length := lay_len (by rw [List.length_take]; omega)
           cases dd with
           | true =>
             have b6 := b5.store 1 (.int .i64 (-1))
             have a6 := a5.far (p := ⟨g, 1, none⟩) hag (.int .i64 (-1))
             have t6 := t5.setCell (p := ⟨g, 1, none⟩) (fun _ => .inl rfl) (.int .i64 (-1))
             have z2 := (b5.cell 2).trans rfl
             have z1 := (b5.cell 1).trans rfl
             have p1 := b5.frozen 1
             have hre := HREST.out
             rw [if_pos rfl] at hre
             have FIN := hide (show RDid g a c (k.write (s : Int) x) (.bool (k.wrote (s : Int) x)) w _ (.returned (.bool false)) from
               ⟨by rw [HWO.out]; rfl, ⟨cur2, by rw [HWE.out, hre]; refine ⟨?_, a6, hag, by simp only; omega, hc63, hs2, by simp only; rw [hlx]; exact HT2.out⟩; simp only; rw [hlx]; exact b6⟩, t6⟩)
             clear b5 a5 t5 b6 a6 t6 hg2 ha2 ht2 htk hre hlx
             go_wp2
             go_ret
             exact FIN.out
           | false =>
             have hre := HREST.out
             rw [if_neg (by decide)] at hre
             have eF := hide (show (F : Int) = 32 by have e := HFd.out; rw [if_neg (by decide)] at e; omega)
             have z2 := (b5.cell 2).trans rfl
             have z1 := (b5.cell 1).trans rfl
             have p1 := b5.frozen 1
             by_cases h0 : 0 ≤ k.fuel
             · rw [if_pos h0, ← eF.out] at hre
               have hfu1 := hfu.2
               have b6 := b5.store 1 (.int .i64 (k.fuel - (F : Int)))
               have a6 := a5.far (p := ⟨g, 1, none⟩) hag (.int .i64 (k.fuel - (F : Int)))
               have t6 := t5.setCell (p := ⟨g, 1, none⟩) (fun _ => .inl rfl) (.int .i64 (k.fuel - (F : Int)))
               have FIN := hide (show RDid g a c (k.write (s : Int) x) (.bool (k.wrote (s : Int) x)) w _ (.returned (.bool true)) from
                 ⟨by rw [HWO.out]; rfl, ⟨cur2, by rw [HWE.out, hre]; refine ⟨?_, a6, hag, by simp only; omega, hc63, hs2, by simp only; rw [hlx]; exact HT2.out⟩; simp only; rw [hlx]; exact b6⟩, t6⟩)
               clear b5 a5 t5 b6 a6 t6 hg2 ha2 ht2 htk hre hlx
               go_wp2
               go_ret
               exact FIN.out
             · rw [if_neg h0] at hre
               have FIN := hide (show RDid g a c (k.write (s : Int) x) (.bool (k.wrote (s : Int) x)) w _ (.returned (.bool true)) from
                 ⟨by rw [HWO.out]; rfl, ⟨cur2, by rw [HWE.out, hre]; refine ⟨?_, a5, hag, by simp only; omega, hc63, hs2, by simp only; rw [hlx]; exact HT2.out⟩; simp only; rw [hlx]; exact b5⟩, t5⟩)
               clear b5 a5 t5 hg2 ha2 ht2 htk hre hlx
               go_wp2
               go_ret
               exact FIN.out
end Go.Proofs.Ythoedknnchaiaaa

/-
  The reference's log: its half, its lay.
-/
namespace Go.Proofs.Ythoedknnchaiaaa
open Go.RowKit
set_option linter.unusedVariables false

theorem lay_lay (b x : List Int) (p t : Nat) (h : p + x.length ≤ b.length) : lay (lay b p (x.take t)) p x = lay b p x := by
  have l1 : (x.take t).length ≤ x.length := by rw [List.length_take]; omega
  have l2 : (lay b p (x.take t)).length = b.length := lay_len (by omega)
  apply List.ext_getElem?
  intro i
  rw [lay_get (by omega), lay_get (by omega), lay_get h]
  by_cases h1 : p ≤ i ∧ i < p + x.length
  · rw [if_pos h1, if_pos h1]
  · rw [if_neg h1, if_neg h1, if_neg (by omega)]
theorem layS_stop (p at_ : Nat) (x : List Int) (k : Dk) (j : Nat) (h : (layS p at_ x k j).2 = false) : ∀ d, layS p at_ x k (j + d) = layS p at_ x k j := by
  intro d
  induction d with
  | zero => rfl
  | succ d ih => rw [← Nat.add_assoc, layS, ih, if_neg (by rw [h]; decide)]
/-- What is laid of a sector, whatever of it lay already. -/
theorem secOf_again {k kj : Dk} {p at_ t : Nat} {x : List Int} (h : p + at_ + x.length ≤ k.b.length) (hb : kj.b = lay k.b (p + at_) (x.take t)) (i : Nat) : secOf kj.b p at_ x i = secOf k.b p at_ x i := by
  unfold secOf
  rw [hb, lay_lay _ _ _ _ h]
theorem secOf_at {b x : List Int} {p at_ i kk : Nat} (h : p + at_ + x.length ≤ b.length) (hk : kk < 32) : (secOf b p at_ x i)[kk]? = if p + at_ ≤ 32 * i + kk ∧ 32 * i + kk < p + at_ + x.length then x[32 * i + kk - (p + at_)]? else b[32 * i + kk]? := by
  unfold secOf
  rw [List.getElem?_take, if_pos hk, List.getElem?_drop, lay_get h]

theorem refhalf_any {g a c l n : Nat} {cur : Array Value} {k : Dk} (o : Bool) (v2 v3 v4 v5 : Value) (w : World) (hB : Rk w g a c cur k) (hk : k.ok (2 * n + 1)) (hl : Blk w l 64 #[.pointer (some ⟨g, 0, none⟩), .int .i64 (n : Int), v2, v3, v4, v5]) :
    Calls Try.prog 55 #[.pointer (some ⟨l, 0, none⟩), .bool o] w fun e w' => e = .returned (.int .i64 ((half k n o : Nat) : Int)) ∧ w' = w := by
  have hn := hk.2.1
  have hlen := hk.1
  have r0 := (hB.row).2.2.2
  have c0 := (hB.1.cell 0).trans rfl
  have l0 := (hl.cell 0).trans rfl
  have l1 := (hl.cell 1).trans rfl
  have ho := hk.2.2.1
  have hx0 : 0 ≤ k.b.getD 0 0 ∧ k.b.getD 0 0 ≤ 255 := by
    have : k.b.getD 0 0 ∈ k.b := by
      rw [List.getD_eq_getElem?_getD, List.getElem?_eq_getElem (by omega)]
      exact List.getElem_mem _
    have := ho _ this
    omega
  have a0 : w.cell? ⟨a, 0, none⟩ = some (.int .u8 (k.b.getD 0 0)) := by
    rcases r0 with h | ⟨b, o', e, hb, hc⟩
    · omega
    · injection e with e
      injection e with e1 e2
      subst e1 e2
      have := hc 0 (by omega)
      rw [Nat.zero_add] at this
      rw [this, octs_at _ _ (by omega)]
  have hpos : (0 : Int) < (k.b.length : Int) := by omega
  have HH := hide (show half k n o = 32 * (if decide (k.b.getD 0 0 % 2 = 1) != o then 1 + n else 1) from rfl)
  generalize hH : half k n o = H at *
  clear hH r0 ho hB hl
  generalize k.b.getD 0 0 = y at *
  have hmod : y.tmod 2 = y % 2 := Int.tmod_eq_emod_of_nonneg hx0.1
  have hwu : IntKind.u8.wrap (y % 2) = y % 2 := by have : IntKind.u8.wrap (y % 2) = y % 2 := by simp [IntKind.wrap, IntKind.bits, IntKind.signed]; omega
                                                   exact this
  have hn2 : n ≤ 128 := by omega
  by_cases hy : y % 2 = 1
  · have HH2 := hide (show H = 32 * (if true != o then 1 + n else 1) by rw [HH.out, decide_eq_true hy])
    cases o
    · have HH3 := hide (show ((H : Nat) : Int) = 32 * (1 + (n : Int)) by have := HH2.out; simp at this; omega)
      go_enter Try.func55, Try.ntmps55
      go_wp2
      go_ret
      exact ⟨by rw [HH3.out]; rfl, rfl⟩
    · have HH3 := hide (show ((H : Nat) : Int) = 32 by have := HH2.out; simp at this; omega)
      go_enter Try.func55, Try.ntmps55
      go_wp2
      go_ret
      exact ⟨by rw [HH3.out]; rfl, rfl⟩
  · have HH2 := hide (show H = 32 * (if false != o then 1 + n else 1) by rw [HH.out, decide_eq_false hy])
    have hy0 : y % 2 = 0 := by omega
    cases o
    · have HH3 := hide (show ((H : Nat) : Int) = 32 by have := HH2.out; simp at this; omega)
      go_enter Try.func55, Try.ntmps55
      go_wp2
      go_ret
      exact ⟨by rw [HH3.out]; rfl, rfl⟩
    · have HH3 := hide (show ((H : Nat) : Int) = 32 * (1 + (n : Int)) by have := HH2.out; simp at this; omega)
      go_enter Try.func55, Try.ntmps55
      go_wp2
      go_ret
      exact ⟨by rw [HH3.out]; rfl, rfl⟩

theorem secOf_octs {b x : List Int} (hb : Octs b) (hx : Octs x) (p at_ i : Nat) : Octs (secOf b p at_ x i) := (((lay_octs _ hb hx).drop _)).take _
theorem layS_ok {k : Dk} {m : Nat} {p at_ : Nat} {x : List Int} (h : k.ok m) (hx : Octs x) : ∀ j, (layS p at_ x k j).1.ok m := by
  intro j
  induction j with
  | zero => exact h
  | succ j ih =>
    rw [layS]
    split
    · exact Dk.ok_write ih _ (secOf_octs h.2.2.1 hx _ _ _)
    · exact ih
theorem layS_alive (k : Dk) (m P at_ : Nat) (x : List Int) (h : k.ok m) (hd : k.dead = false) (hb : 32 * P + at_ + x.length ≤ k.b.length) (j : Nat) (hj : j ≤ cnt at_ x) (h2 : (layS (32 * P) at_ x k j).2 = true) :
    (layS (32 * P) at_ x k j).1.dead = false ∧ ∃ t, (layS (32 * P) at_ x k j).1.b = lay k.b (32 * P + at_) (x.take t) := by
  have e := layS_spec k m P at_ x h hd hb j hj
  rw [e] at h2 ⊢
  split at h2
  · cases h2
  · rename_i h3
    rw [if_neg h3]
    exact ⟨rfl, _, rfl⟩

theorem made_zs (n : Nat) : (madeCells #[.int .u8 0] n).size = n ∧ (madeCells #[.int .u8 0] n).toList = octs (zs n) := by
  refine ⟨by simp [size_madeCells], ?_⟩
  apply List.ext_getElem?
  intro j
  by_cases h : j < n
  · simp [madeCells, octs, zs, h, Nat.mod_one]
  · simp [madeCells, octs, zs, h]
theorem fill_step {l : List Int} {kk : Nat} {v : Int} (h : l[kk]? = some v) (hk : kk < 32) : (l.take kk ++ zs (32 - kk)).set kk v = l.take (kk + 1) ++ zs (32 - (kk + 1)) := by
  obtain ⟨h1, rfl⟩ := List.getElem?_eq_some_iff.1 h
  have hl : (l.take kk).length = kk := by rw [List.length_take]; omega
  rw [List.set_append_right _ _ (by omega), hl, Nat.sub_self, show 32 - kk = 32 - (kk + 1) + 1 by omega]
  show l.take kk ++ (List.replicate (32 - (kk + 1) + 1) 0).set 0 _ = _
  rw [List.replicate_succ, List.set_cons_zero, List.take_succ_eq_append_getElem h1, List.append_assoc]
  rfl
theorem fill_cells {cz : Array Value} {ys : List Int} (h : cz.toList = octs ys) (kk : Nat) (v : Int) : (cz.setIfInBounds kk (.int .u8 v)).toList = octs (ys.set kk v) := by
  rw [Array.toList_setIfInBounds, h]
  simp [octs, List.map_set]
theorem make32 : ∃ Z : Array Value, Z.size = 32 ∧ Z.toList = octs (zs 32) ∧ ∀ W : World, (Instr.makeSlice 32 (.int .i64 32) (.int .i64 32)).run Try.prog W = .ok (.slice (some ⟨W.heap.size, 0, none⟩) 32 32) (W.alloc (.cells Z 5)) := by
  obtain ⟨i5, hi, hz0, hz1, hz2⟩ := info_parts info5
  have hmk := fun W => run_make (P := Try.prog) W 32 5 i5 (.int .u8 0) Try.underlying32 hi hz0 .i64 .i64 32 32 (by omega) (by omega) (by rw [hz2]; omega) (by omega)
  rw [hz1, show (32 : Int).toNat * 1 = 32 from rfl, show (32 : Int).toNat = 32 from rfl] at hmk
  exact ⟨madeCells #[.int .u8 0] 32, (made_zs 32).1, (made_zs 32).2, hmk⟩

set_option maxHeartbeats 4000000 in
set_option maxRecDepth 100000 in
theorem reflay_any {Q : Nat → Prop} {g a c l n : Nat} {cur : Array Value} {k : Dk} (P at_ : Nat) (A : Option Addr) (nx cx : Nat) (x : List Int) (v2 v3 v4 v5 : Value) (w : World) (hB : Rk w g a c cur k) (hk : k.ok (2 * n + 1)) (hd : k.dead = false)
    (hl : Blk w l 64 #[.pointer (some ⟨g, 0, none⟩), .int .i64 (n : Int), v2, v3, v4, v5]) (hlg : l ≠ g ∧ l ≠ a) (hx : Row w Q A nx cx (octs x)) (hxo : Octs x) (hq : ∀ b, Q b → b < w.heap.size → b ≠ g ∧ b ≠ a) (hb : 32 * P + at_ + x.length ≤ k.b.length) :
    Calls Try.prog 54 #[.pointer (some ⟨l, 0, none⟩), .int .i64 ((32 * P : Nat) : Int), .int .i64 (at_ : Int), .slice A nx cx] w fun e w' => RDid g a c (k.laid (32 * P) at_ x) (.bool (k.laidOk at_ x)) w w' e := by
  have hxl : x.length = nx := by have := hx.1; rwa [octs_len] at this
  rcases Nat.eq_zero_or_pos nx with h0 | h0
  · have hx0 : x = [] := List.eq_nil_of_length_eq_zero (by omega)
    subst hx0 h0
    have e1 : k.laid (32 * P) at_ [] = k := by unfold Dk.laid; rw [if_pos (.inl rfl)]
    have e2 : k.laidOk at_ [] = true := rfl
    rw [e1, e2]
    have HB := hide hB
    clear hB hl hx e1 e2
    go_enter Try.func54, Try.ntmps54
    go_wp2
    go_ret
    exact ⟨rfl, ⟨cur, HB.out⟩, Touch.refl _ _⟩
  · have hne : x ≠ [] := fun h => by subst h; simp at hxl; omega
    have hfin := layS_laid k _ P at_ x hk hd hb hne
    have hlen := hk.1
    have hm := hk.2.1
    obtain ⟨xg, xo, rfl, hxq, hxlt, hxc⟩ := hx.some_ h0
    have hqx := hq xg hxq hxlt
    have HXC := hide hxc
    have HK := hide hk
    have HL := hide hl
    have HBB := hide hb
    have HXO := hide hxo
    have hnx : 0 < (nx : Int) := by omega
    have hne0 : ((nx : Int) == 0) = false := by rw [beq_eq_false_iff_ne]; omega
    obtain ⟨p, hp⟩ : ∃ p, p = 32 * P := ⟨_, rfl⟩
    have hpd : ((p : Nat) : Int).tdiv 32 = (P : Int) := by rw [Int.tdiv_eq_ediv_of_nonneg (by omega)]; omega
    have had : ((at_ : Nat) : Int).tdiv 32 = ((at_ / 32 : Nat) : Int) := by rw [Int.tdiv_eq_ediv_of_nonneg (by omega)]; omega
    have hpn : p ≤ 9000 := by omega
    have han : at_ + nx ≤ 9000 := by omega
    have hPn : P ≤ 300 := by omega
    have hwP : IntKind.i64.wrap (P : Int) = (P : Int) := by rw [IntKind.wrap_i64]; omega
    have HP := hide hp
    rw [← hp]
    obtain ⟨q0, hq0⟩ : ∃ q0, q0 = at_ / 32 := ⟨_, rfl⟩
    rw [← hq0] at had
    have hq0n : q0 ≤ 300 := by omega
    have hwq : IntKind.i64.wrap (q0 : Int) = (q0 : Int) := by rw [IntKind.wrap_i64]; omega
    have HQ0 := hide hq0
    obtain ⟨N, hN⟩ : ∃ N, N = cnt at_ x := ⟨_, rfl⟩
    have HN := hide hN
    have HNC := hide (show N = (at_ + nx + 31) / 32 - at_ / 32 by rw [hN, ← hxl]; rfl)
    have hNn : N ≤ 600 := by have := HNC.out; omega
    rw [← hN] at hfin
    have HFIN := hide hfin
    have HB0 := hide (show ∃ cj, Rk w g a c cj (layS (32 * P) at_ x k 0).1 from ⟨cur, hB⟩)
    have HS0 := hide (show (layS (32 * P) at_ x k 0).2 = true from rfl)
    clear hx hxc hp hq0 hN hfin hB hk hl hb hxo
    go_enter Try.func54, Try.ntmps54
    go_wp2_with fail
    go_loopw [9] (fun s9 wr => ∃ (j q : Nat), j ≤ N ∧ s9 = .int .i64 (q : Int) ∧ Hid (q = q0 + j) ∧ Hid ((layS (32 * P) at_ x k j).2 = true) ∧ Hid (∃ cj, Rk wr g a c cj (layS (32 * P) at_ x k j).1) ∧ Hid (Touch (fun n => n = g ∨ n = a) w wr)) (fun s9 _ => q0 + N - (intOf s9).toNat)
    case atStart => exact ⟨0, q0, Nat.zero_le _, rfl, rfl, HS0, HB0, Touch.refl _ _⟩
    case round =>
      clear HS0 HB0
      obtain ⟨j, q, hj, rfl, HQ, HS, HR, HT⟩ := hrel
      by_cases hlt : j < N
      · have hqlt : (q : Int) * 32 < (at_ : Int) + (nx : Int) := by have := HQ.out; have := HNC.out; have := HQ0.out; omega
        have hqn : q ≤ 900 := by have := HQ.out; omega
        obtain ⟨cj, hR⟩ := HR.out
        have hKJ := layS_ok (p := 32 * P) (at_ := at_) (x := x) HK.out HXO.out j
        obtain ⟨hdj, t, hbj⟩ := layS_alive k _ P at_ x HK.out hd HBB.out j (by have := HN.out; omega) HS.out
        have hnext := layS.eq_2 (32 * P) at_ x k j
        rw [if_pos HS.out, show 32 * P / 32 + at_ / 32 + j = P + q by have := HQ.out; have := HQ0.out; omega] at hnext
        have hsec := secOf_again (k := k) (kj := (layS (32 * P) at_ x k j).1) (p := 32 * P) (at_ := at_) HBB.out hbj (P + q)
        rw [← hsec] at hnext
        have hkl := hKJ.1
        have hsat : ∀ kk, kk < 32 → (secOf (layS (32 * P) at_ x k j).1.b (32 * P) at_ x (P + q))[kk]? = if 32 * P + at_ ≤ 32 * (P + q) + kk ∧ 32 * (P + q) + kk < 32 * P + at_ + x.length then x[32 * (P + q) + kk - (32 * P + at_)]? else (layS (32 * P) at_ x k j).1.b[32 * (P + q) + kk]? := fun kk hkk => secOf_at (by have := HBB.out; omega) hkk
        have hso := secOf_octs hKJ.2.2.1 HXO.out (32 * P) at_ (P + q)
        have hsl : (secOf (layS (32 * P) at_ x k j).1.b (32 * P) at_ x (P + q)).length = 32 := by
          unfold secOf
          rw [List.length_take, List.length_drop, lay_len (by have := HBB.out; omega)]
          have := HQ.out; have := HNC.out; have := HQ0.out; have := HBB.out
          omega
        have hbound : 32 * (P + q) + 32 ≤ 32 * (2 * n + 1) := by
          have := HQ.out; have := HNC.out; have := HQ0.out; have := HBB.out
          omega
        generalize hkj : (layS (32 * P) at_ x k j).1 = kj at *
        generalize hsc : secOf kj.b (32 * P) at_ x (P + q) = sec at *
        have HNEXT := hide hnext
        have HSAT := hide hsat
        have HSO := hide hso
        have HSL := hide hsl
        have HKJ := hide hKJ
        have HRJ := hide hR
        have HBD := hide hbound
        clear hnext hsat hso hsl hKJ hR hsec hbj hkj hsc hbound HR hdj
        obtain ⟨Z, hZ1, hZ2, hZ3⟩ := make32
        have HZ := hide (And.intro hZ1 hZ2)
        clear hZ1 hZ2
        go_wp2_with fail
        have HR2 := hide (show Rk (wr.alloc (.cells Z 5)) g a c cj kj from HRJ.out.keep (Below.heap_alloc wr _ g HRJ.out.1.lt) (Below.heap_alloc wr _ a HRJ.out.2.1.lt))
        have HT2 := hide (HT.out.alloc (.cells Z 5))
        have hsg : wr.heap.size ≠ g ∧ wr.heap.size ≠ a := ⟨by have := HRJ.out.1.lt; omega, by have := HRJ.out.2.1.lt; omega⟩
        have hxs : xg < wr.heap.size := Nat.lt_of_lt_of_le hxlt HT.out.size
        have hls : l < wr.heap.size := Nat.lt_of_lt_of_le HL.out.lt HT.out.size
        have HB2 := hide (Blk.new wr 5 Z)
        have hsgw : w.heap.size ≤ wr.heap.size := HT.out.size
        generalize wr.alloc (.cells Z 5) = w2 at *
        generalize hsge : wr.heap.size = sg at *
        clear hsge hZ3
        go_loopw [11] (fun s11 wz => ∃ kk : Nat, kk ≤ 32 ∧ s11 = .int .i64 (kk : Int) ∧ Hid (∃ cz, Blk wz sg 5 cz ∧ cz.size = 32 ∧ cz.toList = octs (sec.take kk ++ zs (32 - kk))) ∧ Hid (Rk wz g a c cj kj) ∧ Hid (Touch (fun n => n = g ∨ n = a) w wz)) (fun s11 _ => 32 - (intOf s11).toNat)
        case atStart => exact ⟨0, Nat.zero_le _, rfl, ⟨Z, HB2.out, HZ.out.1, by rw [List.take_zero, List.nil_append]; exact HZ.out.2⟩, HR2, HT2⟩
        case round =>
          clear HB2 HR2 HT2
          obtain ⟨kk, hkk, rfl, HC, HR3, HT3⟩ := hrel
          by_cases hk32 : kk < 32
          · obtain ⟨cz, bz, sz, tz⟩ := HC.out
            have l0 := ((HL.out.touch HT3.out (fun h => h.elim hlg.1 hlg.2)).cell 0).trans rfl
            have g0 := (HR3.out.1.cell 0).trans rfl
            obtain ⟨y, hy⟩ : ∃ y, y = 32 * (P + q) + kk := ⟨_, rfl⟩
            have hyL : y < kj.b.length := by have := HKJ.out.1; have := HBD.out; omega
            have ea : ((p : Int) + (q : Int) * 32 + (kk : Int)).toNat = y := by have := HP.out; omega
            have pa : (0 : Int) ≤ (p : Int) + (q : Int) * 32 + (kk : Int) := by omega
            have ba : (p : Int) + (q : Int) * 32 + (kk : Int) < (kj.b.length : Int) := by have := HP.out; omega
            have rr := HR3.out.row
            have hcy : wr.cell? ⟨a, y, none⟩ = some (.int .u8 (kj.b.getD y 0)) := by
              rcases rr.2.2.2 with h | ⟨b', o', e, hb', hc'⟩
              · omega
              · injection e with e
                injection e with e1 e2
                subst e1 e2
                have := hc' y hyL
                rw [Nat.zero_add] at this
                rw [this, octs_at _ _ hyL]
            have fz := bz.frozen kk
            have cz0 : wr.cell? ⟨sg, kk, none⟩ = some (cz[kk]'(by omega)) := by rw [bz.cell kk, Array.getElem?_eq_getElem (by omega)]
            generalize cz[kk]'(by omega) = old at cz0
            have hs := HSAT.out kk hk32
            have bz1 := bz.store kk (.int .u8 (kj.b.getD y 0))
            have HR4 := hide (show ∀ v, Rk (wr.setCell ⟨sg, kk, none⟩ v) g a c cj kj from fun v => HR3.out.keep (Below.heap_setCell wr ⟨sg, kk, none⟩ v g (fun h => hsg.1 h.symm)) (Below.heap_setCell wr ⟨sg, kk, none⟩ v a (fun h => hsg.2 h.symm)))
            have HT4 := hide (show ∀ v, Touch (fun n => n = g ∨ n = a) w (wr.setCell ⟨sg, kk, none⟩ v) from fun v => HT3.out.setCell (p := ⟨sg, kk, none⟩) (fun h => absurd h (by show ¬ sg < w.heap.size; omega)) v)
            have hHTs : ∀ W : World, Touch (fun n => n = g ∨ n = a) w W → ∀ hW : xg < W.heap.size, ∀ e, e < nx → W.cell? ⟨xg, xo + e, none⟩ = some (.int .u8 (x.getD e 0)) := fun W hW _ e he => by
              rw [World.cell?_of_block (a := ⟨xg, xo + e, none⟩) (hW.block xg hxlt fun h => h.elim hqx.1 hqx.2), HXC.out e he, octs_at _ _ (by omega)]
            have HXCW := hide hHTs
            have HQQ := HQ.out
            have HPP := HP.out
            have HQ00 := HQ0.out
            clear hHTs rr
            by_cases hin : at_ ≤ 32 * q + kk ∧ 32 * q + kk < at_ + nx
            · rw [if_pos (by omega)] at hs
              obtain ⟨e, he⟩ : ∃ e, e = 32 * q + kk - at_ := ⟨_, rfl⟩
              have hen : e < nx := by omega
              have hex : e < x.length := by omega
              rw [show 32 * (P + q) + kk - (32 * P + at_) = e by omega, List.getElem?_eq_getElem hex, show x[e] = x.getD e 0 by rw [List.getD_eq_getElem?_getD, List.getElem?_eq_getElem hex]; rfl] at hs
              have he1 : (q : Int) * 32 + (kk : Int) - (at_ : Int) = (e : Int) := by omega
              have he2 : (e : Int) < (nx : Int) := by omega
              have hxe := HXCW.out _ (HT4.out (.int .u8 (kj.b.getD y 0))) (Nat.lt_of_lt_of_le hxlt (HT4.out _).size) e hen
              have bz2 := bz1.store kk (.int .u8 (x.getD e 0))
              have fz1 := bz1.frozen kk
              have cz1 := bz1.cell kk
              rw [Array.getElem?_setIfInBounds, if_pos rfl, if_pos (by omega)] at cz1
              have HC2 := hide (show ∃ cz', Blk ((wr.setCell ⟨sg, kk, none⟩ (.int .u8 (kj.b.getD y 0))).setCell ⟨sg, kk, none⟩ (.int .u8 (x.getD e 0))) sg 5 cz' ∧ cz'.size = 32 ∧ cz'.toList = octs (sec.take (kk + 1) ++ zs (32 - (kk + 1))) from
                ⟨_, bz2, by simp only [Array.size_setIfInBounds]; exact sz, by
                  rw [fill_cells (fill_cells tz kk _) kk _, List.set_set, fill_step hs hk32]⟩)
              have HR5 := hide ((HR4.out (.int .u8 (kj.b.getD y 0))).keep (Below.heap_setCell _ ⟨sg, kk, none⟩ (.int .u8 (x.getD e 0)) g (fun h => hsg.1 h.symm)) (Below.heap_setCell _ ⟨sg, kk, none⟩ (.int .u8 (x.getD e 0)) a (fun h => hsg.2 h.symm)))
              have HT5 := hide ((HT4.out (.int .u8 (kj.b.getD y 0))).setCell (p := ⟨sg, kk, none⟩) (fun h => absurd h (by show ¬ sg < w.heap.size; omega)) (.int .u8 (x.getD e 0)))
              generalize kj.b.getD y 0 = vy at *
              generalize x.getD e 0 = vx at *
              clear hs bz bz1 bz2 tz HC hin he hex HQQ HPP HQ00 hy
              go_wp2
              go_round
              case rel => exact ⟨kk + 1, hk32, by go_num, HC2, HR5, HT5⟩
              case measure => simp [intOf]; omega
            · rw [if_neg (by omega)] at hs
              rw [← hy, List.getElem?_eq_getElem hyL, show kj.b[y] = kj.b.getD y 0 by rw [List.getD_eq_getElem?_getD, List.getElem?_eq_getElem hyL]; rfl] at hs
              have HC2 := hide (show ∃ cz', Blk (wr.setCell ⟨sg, kk, none⟩ (.int .u8 (kj.b.getD y 0))) sg 5 cz' ∧ cz'.size = 32 ∧ cz'.toList = octs (sec.take (kk + 1) ++ zs (32 - (kk + 1))) from
                ⟨_, bz1, by rw [Array.size_setIfInBounds]; exact sz, by rw [fill_cells tz kk _, fill_step hs hk32]⟩)
              have HR5 := hide (HR4.out (.int .u8 (kj.b.getD y 0)))
              have HT5 := hide (HT4.out (.int .u8 (kj.b.getD y 0)))
              generalize kj.b.getD y 0 = vy at *
              by_cases hlow : at_ ≤ 32 * q + kk
              · have hl1 : ¬ (q : Int) * 32 + (kk : Int) - (at_ : Int) < (nx : Int) := by omega
                have hl2 : (0 : Int) ≤ (q : Int) * 32 + (kk : Int) - (at_ : Int) := by omega
                have hl3 : (at_ : Int) ≤ (q : Int) * 32 + (kk : Int) := by omega
                clear hs bz bz1 tz HC hin hlow HQQ HPP HQ00 hy
                go_wp2
                go_round
                case rel => exact ⟨kk + 1, hk32, by go_num, HC2, HR5, HT5⟩
                case measure => simp [intOf]; omega
              · have hl2 : ¬ (0 : Int) ≤ (q : Int) * 32 + (kk : Int) - (at_ : Int) := by omega
                have hl3 : ¬ (at_ : Int) ≤ (q : Int) * 32 + (kk : Int) := by omega
                clear hs bz bz1 tz HC hin hlow HQQ HPP HQ00 hy
                go_wp2
                go_round
                case rel => exact ⟨kk + 1, hk32, by go_num, HC2, HR5, HT5⟩
                case measure => simp [intOf]; omega
          · obtain rfl : kk = 32 := by omega
            obtain ⟨cz, bz, sz, tz⟩ := HC.out
            rw [List.take_of_length_le (by rw [HSL.out]; exact Nat.le_refl _), show zs (32 - 32) = [] from rfl, List.append_nil] at tz
            have hrow : Row wr (· = sg) (some ⟨sg, 0, none⟩) 32 32 (octs sec) := by
              refine ⟨by rw [octs_len, HSL.out], Nat.le_refl _, by omega, .inr ⟨sg, 0, rfl, rfl, fun i hi => ?_⟩⟩
              rw [Nat.zero_add, bz.cell i, ← tz]
              simp
            have l0 := ((HL.out.touch HT3.out (fun h => h.elim hlg.1 hlg.2)).cell 0).trans rfl
            have hbd := HBD.out
            have hc := refwrite_any (P + q) (some ⟨sg, 0, none⟩) 32 sec wr HR3.out HKJ.out (by omega) hrow HSO.out (fun b hb _ => by rw [hb]; exact hsg)
            have hPq : ((P + q : Nat) : Int) = (P : Int) + (q : Int) := by omega
            rw [hPq] at hc
            have HPQ := hide HQ.out
            cases hw : kj.wrote ((P + q : Nat) : Int) sec with
            | true =>
              rw [hPq] at hw
              rw [hw] at hc
              have HN2 := hide (show layS (32 * P) at_ x k (j + 1) = (kj.write ((P : Int) + (q : Int)) sec, true) by rw [HNEXT.out, hPq, hw])
              clear hw hrow bz tz sz HC hbd hPq
              go_wp2_with fail
              refine hc.mono ?_
              rintro e w4 ⟨rfl, hk4, ht4⟩
              have HK4 := hide hk4
              have HT4 := hide (HT3.out.trans ht4 (fun _ _ h => h))
              clear hc hk4 ht4
              go_wp2
              go_roundw
              case rel => exact ⟨j + 1, q + 1, by omega, by go_num, (by rw [HPQ.out]; rfl : q + 1 = q0 + (j + 1)), (by rw [HN2.out]; exact rfl), (by rw [HN2.out]; exact HK4.out), HT4⟩
              case measure => have := HPQ.out; simp [intOf]; omega
            | false =>
              rw [hPq] at hw
              rw [hw] at hc
              have hN2 : layS (32 * P) at_ x k (j + 1) = (kj.write ((P : Int) + (q : Int)) sec, false) := by rw [HNEXT.out, hPq, hw]
              have hst := layS_stop (32 * P) at_ x k (j + 1) (by rw [hN2]) (N - (j + 1))
              rw [show j + 1 + (N - (j + 1)) = N by omega, hN2, HFIN.out] at hst
              have HF1 := hide (show k.laid (32 * P) at_ x = kj.write ((P : Int) + (q : Int)) sec from congrArg Prod.fst hst)
              have HF2 := hide (show k.laidOk at_ x = false from congrArg Prod.snd hst)
              clear hw hrow bz tz sz HC hbd hst hN2 hPq
              go_wp2_with fail
              refine hc.mono ?_
              rintro e w4 ⟨rfl, hk4, ht4⟩
              have HK4 := hide hk4
              have HT4 := hide (HT3.out.trans ht4 (fun _ _ h => h))
              clear hc hk4 ht4
              go_wp2
              go_ret
              exact ⟨by rw [HF2.out]; rfl, by rw [HP.out, HF1.out]; exact HK4.out, HT4.out⟩
      · obtain rfl : j = N := by omega
        have hqlt : ¬ (q : Int) * 32 < (at_ : Int) + (nx : Int) := by have := HQ.out; have := HNC.out; have := HQ0.out; omega
        have hqn : q ≤ 900 := by have := HQ.out; omega
        have HF1 := hide (show k.laid (32 * P) at_ x = (layS (32 * P) at_ x k j).1 by rw [HFIN.out])
        have HF2 := hide (show k.laidOk at_ x = true by have := HS.out; rw [HFIN.out] at this; exact this)
        go_wp2
        go_ret
        exact ⟨by rw [HF2.out]; rfl, by rw [HP.out, HF1.out]; exact HR.out, HT.out⟩
end Go.Proofs.Ythoedknnchaiaaa
