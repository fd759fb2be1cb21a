/-
  A write of a whole sector upon the disk, held against octets.
-/
import Derived.Test.YtcdllbjhcjpleaaDiskBook
import Derived.Deep.DeepCutAuto
import Derived.Deep.Cut
import Derived.Deep.CutRange
namespace Go.Proofs.Ytcdllbjhcjpleaa
open Go.RowKit
set_option linter.unusedVariables false

/-- How the octets lie while so many of x's are laid. -/
def Laid (w : World) (g a c : Nat) (L : Nat) (b : List Int) (p : Nat) (x : List Int) (v1 v2 v3 : Value) (i : Nat) : Prop :=
  ∃ cur, Blk w g 35 #[.slice (some ⟨a, 0, none⟩) L c, v1, v2, v3] ∧ Blk w a 5 cur ∧ cur.size = c ∧ cur.toList.take L = octs (lay b p (x.take i))

set_option maxHeartbeats 2000000 in
set_option maxRecDepth 10000 in
theorem bwrite_yes {P Q : Nat → Prop} {d g a c m : Nat} {cur : Array Value} {k : Dk} (x : DOp) (w : World) (hB : Bk w g a c cur k) (hD : Dsk w P d k) (hk : k.ok m) (hx : x.at w Q) (hg : ¬ P g) (ha : ¬ P a) (hq : ∀ b, Q b → b < w.heap.size → ¬ P b ∧ b ≠ g ∧ b ≠ a) (hm : k.may x.i x.b) :
    Calls Try.prog 29 #[.pointer (some ⟨g, 0, none⟩), .pointer (some ⟨d, 0, none⟩), x.val] w fun e w' => Both P d g a c (k.write x.i x.b) w w' e := by
  obtain ⟨kind, i, num, xA, xm, xc, xb⟩ := x
  obtain ⟨hxr, hxo, hx0, hxi, hxn⟩ := hx
  have hm : k.may i xb := hm
  obtain ⟨hi0, him, hroom, hx32, hdead⟩ := Dk.may_room hk hm
  obtain ⟨s, rfl⟩ : ∃ s : Nat, i = (s : Int) := ⟨i.toNat, by omega⟩
  rw [Int.toNat_natCast] at him hroom
  have hxl : xb.length = xm := by have := hxr.1; rwa [octs_len] at this
  obtain rfl : xm = 32 := by omega
  obtain ⟨xg, xo, rfl, hxq, hxlt, hxc⟩ := hxr.some_ (by show 0 < 32; decide)
  have hlen := hk.1
  have hm256 := hk.2.1
  have hfr := k.front_le
  have hwo : k.wrote (s : Int) xb = !k.dies := by unfold Dk.wrote; rw [decide_eq_true hm]; rfl
  have hwe : k.write (s : Int) xb = ⟨lay k.b (32 * s) (xb.take k.front), k.rest, k.dies, IntKind.i64.wrap (k.written + (k.front : Int))⟩ := by unfold Dk.write; rw [if_pos hm, Int.toNat_natCast]
  have hqx := hq xg hxq hxlt
  have hlt := dsk_lt hD
  have HB1 := hide ((Touch.refl (fun n => n = g ∨ n = a) w).alloc (.cells #[.int .i64 kind, .int .i64 (s : Int), .int .i64 num, .slice (some ⟨xg, xo, none⟩) 32 xc] 49))
  have HX1 := hide (Blk.new w 49 #[.int .i64 kind, .int .i64 (s : Int), .int .i64 num, .slice (some ⟨xg, xo, none⟩) 32 xc])
  obtain ⟨hb0, hc0, hag, hLc, hc63, hcs, hct⟩ := hB
  have hb1 := hb0.alloc (.cells #[.int .i64 kind, .int .i64 (s : Int), .int .i64 num, .slice (some ⟨xg, xo, none⟩) 32 xc] 49)
  have hc1 := hc0.alloc (.cells #[.int .i64 kind, .int .i64 (s : Int), .int .i64 num, .slice (some ⟨xg, xo, none⟩) 32 xc] 49)
  have hgl := hb0.lt
  have hal := hc0.lt
  have hL : ((k.b.length : Nat) : Int).tdiv 32 = (m : Int) := by rw [hlen, Int.tdiv_eq_ediv_of_nonneg (by omega)]; omega
  have hwm : IntKind.i64.wrap (m : Int) = (m : Int) := by rw [IntKind.wrap_i64]; omega
  have HLEN := hide hlen
  have HD := hide hD
  have HXR := hide hxr.within
  have HQ := hide hq
  have HLT := hide hlt
  have HK := hide hk
  have HXO := hide hxo
  have HXI := hide hxi
  have HM := hide hm
  have HWO := hide hwo
  have HWE := hide hwe
  have HCT := hide hct
  have HXC := hide hxc
  have hd0 : decide ((s : Int) < 0) = false := decide_eq_false (by omega)
  have hd1 : decide (m ≤ s) = false := decide_eq_false (by omega)
  have c0 := (hb1.cell 0).trans rfl
  have c2 := (hb1.cell 2).trans (congrArg (fun b => some (Value.bool b)) hdead)
  clear hlen hD hxr hq hlt hk hxo hxi hm hwo hwe hct hxc hx0 hxn hb0 hc0
  show Calls Try.prog 29 #[.pointer (some ⟨g, 0, none⟩), .pointer (some ⟨d, 0, none⟩), .agg #[.int .i64 kind, .int .i64 (s : Int), .int .i64 num, .slice (some ⟨xg, xo, none⟩) 32 xc]] w fun e w' => Both P d g a c (k.write (s : Int) xb) w w' e
  go_enter Try.func29, Try.ntmps29
  go_wp2_with fail
  go_quiet (fail)
  have HB2 := hide (HB1.out.drewN nq)
  have hb2 : Blk ((w.alloc (.cells #[.int .i64 kind, .int .i64 (s : Int), .int .i64 num, .slice (some ⟨xg, xo, none⟩) 32 xc] 49)).drewN nq) g _ _ := hb1
  have hc2 : Blk ((w.alloc (.cells #[.int .i64 kind, .int .i64 (s : Int), .int .i64 num, .slice (some ⟨xg, xo, none⟩) 32 xc] 49)).drewN nq) a _ _ := hc1
  have hx2 : Blk ((w.alloc (.cells #[.int .i64 kind, .int .i64 (s : Int), .int .i64 num, .slice (some ⟨xg, xo, none⟩) 32 xc] 49)).drewN nq) w.heap.size _ _ := HX1.out
  clear c0 c2 hb1 hc1 HX1 HB1
  generalize (w.alloc (.cells #[.int .i64 kind, .int .i64 (s : Int), .int .i64 num, .slice (some ⟨xg, xo, none⟩) 32 xc] 49)).drewN nq = w2 at *
  clear hd0 hd1 hL hwm
  go_upto_region 4 with fail
  go_cut [53] (fun s53 wx => s53 = .bool k.dies ∧ w2 = wx)
  case first =>
    have c1 := (hb2.cell 1).trans rfl
    by_cases hf0 : 0 ≤ k.fuel
    · by_cases hf1 : k.fuel < 32
      · have E := hide (show k.dies = true from decide_eq_true ⟨hf0, hf1⟩)
        go_wp2
        go_meet
        exact ⟨by rw [E.out], rfl⟩
      · have E := hide (show k.dies = false from decide_eq_false fun h => hf1 h.2)
        have hd3 : decide (k.fuel < 32) = false := decide_eq_false hf1
        go_wp2
        go_meet
        exact ⟨by rw [E.out], rfl⟩
    · have E := hide (show k.dies = false from decide_eq_false fun h => hf0 h.1)
      have hd3 : decide (0 ≤ k.fuel) = false := decide_eq_false hf0
      go_wp2
      go_meet
      exact ⟨by rw [E.out], rfl⟩
  case rest =>
  obtain ⟨rfl, rfl⟩ := hcut
  generalize hdd : k.dies = dd at *
  have HDD := hide hdd
  clear hdd
  go_upto_if 53 with fail
  go_cut [7] (fun s7 wx => s7 = .int .i64 (k.front : Int) ∧ Hid (Blk wx g 35 #[.slice (some ⟨a, 0, none⟩) k.b.length c, .int .i64 (if dd = true then k.fuel else k.rest), .bool dd, .int .i64 k.written]) ∧ Hid (Blk wx a 5 cur) ∧ Hid (Blk wx w.heap.size 49 #[.int .i64 kind, .int .i64 (s : Int), .int .i64 num, .slice (some ⟨xg, xo, none⟩) 32 xc]) ∧ Hid (Touch (fun n => n = g ∨ n = a) w wx))
  case first =>
    have c1 := (hb2.cell 1).trans rfl
    have f1 := hb2.frozen 1
    have f2 := hb2.frozen 2
    have HBK := hide hb2
    have HCK := hide hc2
    have HXK := hide hx2
    have hne : w.heap.size ≠ g := by omega
    have hag2 : a ≠ g := hag
    clear hb2 hc2 hx2
    have c2 := (HBK.out.cell 2).trans rfl
    cases dd with
    | true =>
      have hdi : k.dies = true := HDD.out
      have hf : 0 ≤ k.fuel ∧ k.fuel < 32 := of_decide_eq_true hdi
      have hfn : (k.front : Int) = k.fuel := by unfold Dk.front; rw [if_pos hdi]; omega
      obtain ⟨hf0, hf1⟩ := hf
      have H7 := hide (show Value.int .i64 k.fuel = .int .i64 (k.front : Int) by rw [hfn])
      have H1 := hide (show Blk (w2.setCell ⟨g, 2, none⟩ (.bool true)) g 35 #[.slice (some ⟨a, 0, none⟩) k.b.length c, .int .i64 (if (true : Bool) = true then k.fuel else k.rest), .bool true, .int .i64 k.written] by rw [if_pos rfl]; exact HBK.out.store 2 (.bool true))
      have H2 := hide (HCK.out.far (p := ⟨g, 2, none⟩) hag2 (.bool true))
      have H3 := hide (HXK.out.far (p := ⟨g, 2, none⟩) hne (.bool true))
      have H4 := hide (HB2.out.setCell (p := ⟨g, 2, none⟩) (fun _ => .inl rfl) (.bool true))
      clear hfn hdi
      go_wp2
      go_meet
      exact ⟨H7.out, H1, H2, H3, H4⟩
    | false =>
      have hdi : k.dies = false := HDD.out
      have hf : ¬ (0 ≤ k.fuel ∧ k.fuel < 32) := of_decide_eq_false hdi
      have hfn : k.front = 32 := by unfold Dk.front; rw [if_neg (by rw [hdi]; simp)]
      by_cases hf0 : 0 ≤ k.fuel
      · have hf1 : ¬ k.fuel < 32 := fun h => hf ⟨hf0, h⟩
        have hd3 : decide (k.fuel < 32) = false := decide_eq_false hf1
        have hre : k.rest = k.fuel - 32 := by unfold Dk.rest; rw [if_neg (by rw [hdi]; simp), if_pos hf0]
        have hfm := HK.out.2.2.2.1
        have hw : IntKind.i64.wrap (k.fuel - 32) = k.fuel - 32 := by rw [IntKind.wrap_i64]; omega
        have H7 := hide (show Value.int .i64 32 = .int .i64 (k.front : Int) by rw [hfn]; rfl)
        have H1 := hide (show Blk (w2.setCell ⟨g, 1, none⟩ (.int .i64 (k.fuel - 32))) g 35 #[.slice (some ⟨a, 0, none⟩) k.b.length c, .int .i64 (if (false : Bool) = true then k.fuel else k.rest), .bool false, .int .i64 k.written] by rw [if_neg (by simp), hre, ← hdead]; exact HBK.out.store 1 (.int .i64 (k.fuel - 32)))
        have H2 := hide (HCK.out.far (p := ⟨g, 1, none⟩) hag2 (.int .i64 (k.fuel - 32)))
        have H3 := hide (HXK.out.far (p := ⟨g, 1, none⟩) hne (.int .i64 (k.fuel - 32)))
        have H4 := hide (HB2.out.setCell (p := ⟨g, 1, none⟩) (fun _ => .inl rfl) (.int .i64 (k.fuel - 32)))
        clear hfn hre hf hfm hdi
        go_wp2
        go_meet
        exact ⟨H7.out, H1, H2, H3, H4⟩
      · have hre : k.rest = k.fuel := by unfold Dk.rest; rw [if_neg (by rw [hdi]; simp), if_neg hf0]
        have hd3 : decide (0 ≤ k.fuel) = false := decide_eq_false hf0
        have H7 := hide (show Value.int .i64 32 = .int .i64 (k.front : Int) by rw [hfn]; rfl)
        have H1 := hide (show Blk w2 g 35 #[.slice (some ⟨a, 0, none⟩) k.b.length c, .int .i64 (if (false : Bool) = true then k.fuel else k.rest), .bool false, .int .i64 k.written] by rw [if_neg (by simp), hre, ← hdead]; exact HBK.out)
        clear hfn hre hf hdi
        go_wp2
        go_meet
        exact ⟨H7.out, H1, HCK, HXK, HB2⟩
  case rest =>
    obtain ⟨rfl, HG, HA, HX, HT⟩ := hcut
    clear hb2 hc2 hx2 HB2
    generalize hf1 : (if dd = true then k.fuel else k.rest) = f1 at *
    have HF1 := hide hf1
    clear hf1
    generalize hFF : k.front = F at *
    have HFF := hide hFF
    clear hFF
    have hxb := hide (show xg < w.heap.size ∧ xg ≠ g ∧ xg ≠ a from ⟨hxlt, hqx.2.1, hqx.2.2⟩)
    have hroom2 := hide hroom
    clear hqx hxlt hxq hroom hx32 him hm256
    have hinit := hide (show Laid wc g a c k.b.length k.b (32 * s) xb (.int .i64 f1) (.bool dd) (.int .i64 k.written) 0 from ⟨cur, HG.out, HA.out, hcs, by rw [List.take_zero, lay_nil]; exact HCT.out⟩)
    go_wp2
    go_loopw [8] (fun s8 wr => ∃ i : Nat, i ≤ F ∧ s8 = .int .i64 i ∧ Hid (Laid wr g a c k.b.length k.b (32 * s) xb (.int .i64 f1) (.bool dd) (.int .i64 k.written) i) ∧ Hid (Blk wr w.heap.size 49 #[.int .i64 kind, .int .i64 (s : Int), .int .i64 num, .slice (some ⟨xg, xo, none⟩) 32 xc]) ∧ Hid (Touch (fun n => n = g ∨ n = a) w wr)) (fun s8 _ => F - (intOf s8).toNat)
    case atStart => exact ⟨0, Nat.zero_le _, rfl, hinit, HX, HT⟩
    case round =>
      obtain ⟨i, hi, rfl, hla, hxk, htk⟩ := hrel
      by_cases hlt : i < F
      · obtain ⟨cur2, hg2, ha2, hs2, ht2⟩ := hla.out
        have hi32 : i < 32 := by omega
        have hr := hroom2.out
        have hxle := hxl
        have hq1 : 32 * s + i < cur2.size := by omega
        have g0 := (hg2.cell 0).trans rfl
        have x1 := (hxk.out.cell 1).trans rfl
        have x3 := (hxk.out.cell 3).trans rfl
        have xi : wr.cell? ⟨xg, xo + i, none⟩ = some (.int .u8 (xb.getD i 0)) := by
          rw [World.cell?_of_block (a := ⟨xg, xo + i, none⟩) (htk.out.block xg hxb.out.1 fun h => h.elim hxb.out.2.1 hxb.out.2.2), HXC.out i hi32, octs_at _ _ (by omega)]
        obtain ⟨q, hq⟩ : ∃ q : Nat, q = 32 * s + i := ⟨_, rfl⟩
        have w1 : IntKind.i64.wrap (32 * (s : Int)) = 32 * (s : Int) := by rw [IntKind.wrap_i64]; omega
        have w2' : IntKind.i64.wrap (32 * (s : Int) + (i : Int)) = (q : Int) := by rw [IntKind.wrap_i64]; omega
        have hqL : (q : Int) < (k.b.length : Int) := by omega
        have hqL2 : q < k.b.length := by omega
        have hq0 : (0 : Int) ≤ (q : Int) := by omega
        have qc : wr.cell? ⟨a, q, none⟩ = some (cur2[q]'(by omega)) := by rw [ha2.cell q, Array.getElem?_eq_getElem (by omega)]
        have qf := ha2.frozen q
        have hi0' : (0 : Int) ≤ (i : Int) := by omega
        generalize cur2[q]'(by omega) = old at qc
        have HL1 := hide (show Laid (wr.drew.setCell ⟨a, q, none⟩ (.int .u8 (xb.getD i 0))) g a c k.b.length k.b (32 * s) xb (.int .i64 f1) (.bool dd) (.int .i64 k.written) (i + 1) from
          ⟨cur2.setIfInBounds q (.int .u8 (xb.getD i 0)), hg2.far (p := ⟨a, q, none⟩) (fun h => hag h.symm) _, ha2.store q _, by rw [Array.size_setIfInBounds]; exact hs2, by
            rw [cur_set _ ht2, lay_succ (by omega) (by omega), hq]⟩)
        have HX1 := hide (hxk.out.far (p := ⟨a, q, none⟩) (show w.heap.size ≠ a by omega) (.int .u8 (xb.getD i 0)))
        have HT1 := hide (htk.out.drew.setCell (p := ⟨a, q, none⟩) (fun _ => .inr rfl) (.int .u8 (xb.getD i 0)))
        generalize xb.getD i 0 = xv at *
        clear hla hg2 ha2 ht2 htk hxk hr hq hq1 hxle
        go_wp2_with fail
        go_region
        go_wp2
        go_round
        case rel => exact ⟨i + 1, hlt, by go_num, HL1, HX1, HT1⟩
        case measure => simp [intOf]; omega
      · obtain rfl : F = i := by omega
        obtain ⟨cur2, hg2, ha2, hs2, ht2⟩ := hla.out
        clear hinit HG HA HX HT hla hi hlt
        have hww0 := hide (show ∃ W, IntKind.i64.wrap (k.written + (F : Int)) = W from ⟨_, rfl⟩)
        obtain ⟨W, hww⟩ := hww0.out
        have hww2 : wrap64 (k.written + (F : Int)) = W := (IntWalk.i64_left _).symm.trans hww
        rw [hww] at HWE
        clear hww0
        cases dd with
        | true =>
          have c2 := (hg2.cell 2).trans rfl
          have f1' := hg2.frozen 1
          have c1 := (hg2.cell 1).trans rfl
          have b5 : Blk (wr.setCell ⟨g, 1, none⟩ (.int .i64 (-1))) g 35 #[.slice (some ⟨a, 0, none⟩) k.b.length c, .int .i64 (-1), .bool true, .int .i64 k.written] := hg2.store 1 (.int .i64 (-1))
          have a5 := ha2.far (p := ⟨g, 1, none⟩) hag (.int .i64 (-1))
          have x5 := hxk.out.far (p := ⟨g, 1, none⟩) (show w.heap.size ≠ g by omega) (.int .i64 (-1))
          have t5 := htk.out.setCell (p := ⟨g, 1, none⟩) (fun _ => .inl rfl) (.int .i64 (-1))
          have HRE := hide (show k.rest = -1 by unfold Dk.rest; rw [if_pos HDD.out])
          have c3 := (b5.cell 3).trans rfl
          have f3 := b5.frozen 3
          have b6 : Blk ((wr.setCell ⟨g, 1, none⟩ (.int .i64 (-1))).setCell ⟨g, 3, none⟩ (.int .i64 (W))) g 35 #[.slice (some ⟨a, 0, none⟩) k.b.length c, .int .i64 (-1), .bool true, .int .i64 (W)] := b5.store 3 (.int .i64 (W))
          have a6 := a5.far (p := ⟨g, 3, none⟩) hag (.int .i64 (W))
          have x6 := x5.far (p := ⟨g, 3, none⟩) (show w.heap.size ≠ g by omega) (.int .i64 (W))
          have t6 := t5.setCell (p := ⟨g, 3, none⟩) (fun _ => .inl rfl) (.int .i64 (W))
          obtain ⟨w6, hw6⟩ : ∃ w6, w6 = (wr.setCell ⟨g, 1, none⟩ (.int .i64 (-1))).setCell ⟨g, 3, none⟩ (.int .i64 (W)) := ⟨_, rfl⟩
          rw [← hw6] at b6 a6 x6 t6
          have HB6 := hide b6
          have HA6 := hide a6
          have HX6 := hide x6
          have HT6 := hide t6
          have hgx := hxb.out
          have hdk : Dsk w6.drew P d k := dsk_keep HD.out fun b hPb hb => t6.block b hb fun h => h.elim (fun h => hg (h ▸ hPb)) (fun h => ha (h ▸ hPb))
          have hrw : Row w6.drew (fun b => Q b ∧ b < w.heap.size) (some ⟨xg, xo, none⟩) 32 xc (octs xb) := HXR.out.keep fun b hb hlt => t6.block b hlt fun h => h.elim (HQ.out b hb.1 hb.2).2.1 (HQ.out b hb.1 hb.2).2.2
          have hcall := dwrite_any (m := m) (s : Int) (some ⟨xg, xo, none⟩) 32 xc xb w6.drew hdk HK.out HXI.out hrw HXO.out (fun b hb _ => (HQ.out b hb.1 hb.2).1)
          rw [HWO.out] at hcall
          have PW := hide (hcall.mono fun e w7 (h : DDid Dsk P d (k.write (s : Int) xb) (.bool (!true)) w6.drew w7 e) =>
            show e = .returned (.bool (!true)) ∧ Touch P w6 w7 ∧ Hid (∃ P', Dsk w7 P' d (k.write (s : Int) xb) ∧ ∀ n, P' n → P n ∨ w.heap.size ≤ n) from by
              obtain ⟨he, P', h1, h2, h3⟩ := h
              exact ⟨he, ⟨h3.os, h3.tape, h3.output, h3.size, h3.block⟩, P', h1, fun n hn => (h2 n hn).imp id fun h => Nat.le_trans t6.size h⟩)
          have hnx : ¬ P w.heap.size := fun h => Nat.lt_irrefl _ (HLT.out _ h)
          have y1 : ∀ w', Touch P w6 w' → w'.cell? ⟨w.heap.size, 1, none⟩ = some (.int .i64 (s : Int)) := fun w' h => ((HX6.out.touch h hnx).cell 1).trans rfl
          have y3 : ∀ w', Touch P w6 w' → w'.cell? ⟨w.heap.size, 3, none⟩ = some (.slice (some ⟨xg, xo, none⟩) 32 xc) := fun w' h => ((HX6.out.touch h hnx).cell 3).trans rfl
          have y2 : ∀ w', Touch P w6 w' → w'.cell? ⟨g, 2, none⟩ = some (.bool true) := fun w' h => ((HB6.out.touch h hg).cell 2).trans rfl
          have hr0 := (Touch.refl P w6).drew
          clear hdk hrw hcall hgx b5 a5 x5 t5 b6 a6 x6 t6 hg2 ha2
          have HL6 := hide (lay_len (b := k.b) (p := 32 * s) (x := xb.take F) (by have := hroom2.out; rw [List.length_take]; omega))
          go_wp2_with fail
          rw [← hw6]
          clear hw6
          go_region_held (fun w' => Touch P w6 w') (assumption) (first
            | (go_at_call 17; refine PW.out.mono ?_; rintro e w7 ⟨rfl, hs7, hp7⟩))
          go_wp2
          go_ret
          obtain ⟨P', h1, h2⟩ := hp7.out
          refine Both.of (cur := cur2) h1 h2 ?_ ?_
          · rw [HWE.out, HRE.out]
            refine ⟨?_, HA6.out.touch hs7 ha, hag, ?_, hc63, hs2, ?_⟩
            · show Blk w7 g 35 #[.slice (some ⟨a, 0, none⟩) (lay k.b (32 * s) (xb.take F)).length c, .int .i64 (-1), .bool true, .int .i64 (W)]
              rw [HL6.out]
              exact HB6.out.touch hs7 hg
            · show (lay k.b (32 * s) (xb.take F)).length ≤ c
              rw [HL6.out]
              exact hLc
            · show cur2.toList.take (lay k.b (32 * s) (xb.take F)).length = octs (lay k.b (32 * s) (xb.take F))
              rw [HL6.out]
              exact ht2
          · exact (HT6.out.mono fun n _ h => Or.inr h).trans (hs7.mono fun n _ h => Or.inl h) fun _ _ h => h
        | false =>
          have c2 := (hg2.cell 2).trans rfl
          have b5 := hg2
          have a5 := ha2
          have x5 := hxk.out
          have t5 := htk.out
          have HRE := hide (show k.rest = f1 by rw [← HF1.out]; rfl)
          have c3 := (b5.cell 3).trans rfl
          have f3 := b5.frozen 3
          have b6 : Blk (wr.setCell ⟨g, 3, none⟩ (.int .i64 (W))) g 35 #[.slice (some ⟨a, 0, none⟩) k.b.length c, .int .i64 (f1), .bool false, .int .i64 (W)] := b5.store 3 (.int .i64 (W))
          have a6 := a5.far (p := ⟨g, 3, none⟩) hag (.int .i64 (W))
          have x6 := x5.far (p := ⟨g, 3, none⟩) (show w.heap.size ≠ g by omega) (.int .i64 (W))
          have t6 := t5.setCell (p := ⟨g, 3, none⟩) (fun _ => .inl rfl) (.int .i64 (W))
          obtain ⟨w6, hw6⟩ : ∃ w6, w6 = wr.setCell ⟨g, 3, none⟩ (.int .i64 (W)) := ⟨_, rfl⟩
          rw [← hw6] at b6 a6 x6 t6
          have HB6 := hide b6
          have HA6 := hide a6
          have HX6 := hide x6
          have HT6 := hide t6
          have hgx := hxb.out
          have hdk : Dsk w6.drew P d k := dsk_keep HD.out fun b hPb hb => t6.block b hb fun h => h.elim (fun h => hg (h ▸ hPb)) (fun h => ha (h ▸ hPb))
          have hrw : Row w6.drew (fun b => Q b ∧ b < w.heap.size) (some ⟨xg, xo, none⟩) 32 xc (octs xb) := HXR.out.keep fun b hb hlt => t6.block b hlt fun h => h.elim (HQ.out b hb.1 hb.2).2.1 (HQ.out b hb.1 hb.2).2.2
          have hcall := dwrite_any (m := m) (s : Int) (some ⟨xg, xo, none⟩) 32 xc xb w6.drew hdk HK.out HXI.out hrw HXO.out (fun b hb _ => (HQ.out b hb.1 hb.2).1)
          rw [HWO.out] at hcall
          have PW := hide (hcall.mono fun e w7 (h : DDid Dsk P d (k.write (s : Int) xb) (.bool (!false)) w6.drew w7 e) =>
            show e = .returned (.bool (!false)) ∧ Touch P w6 w7 ∧ Hid (∃ P', Dsk w7 P' d (k.write (s : Int) xb) ∧ ∀ n, P' n → P n ∨ w.heap.size ≤ n) from by
              obtain ⟨he, P', h1, h2, h3⟩ := h
              exact ⟨he, ⟨h3.os, h3.tape, h3.output, h3.size, h3.block⟩, P', h1, fun n hn => (h2 n hn).imp id fun h => Nat.le_trans t6.size h⟩)
          have hnx : ¬ P w.heap.size := fun h => Nat.lt_irrefl _ (HLT.out _ h)
          have y1 : ∀ w', Touch P w6 w' → w'.cell? ⟨w.heap.size, 1, none⟩ = some (.int .i64 (s : Int)) := fun w' h => ((HX6.out.touch h hnx).cell 1).trans rfl
          have y3 : ∀ w', Touch P w6 w' → w'.cell? ⟨w.heap.size, 3, none⟩ = some (.slice (some ⟨xg, xo, none⟩) 32 xc) := fun w' h => ((HX6.out.touch h hnx).cell 3).trans rfl
          have y2 : ∀ w', Touch P w6 w' → w'.cell? ⟨g, 2, none⟩ = some (.bool false) := fun w' h => ((HB6.out.touch h hg).cell 2).trans rfl
          have hr0 := (Touch.refl P w6).drew
          clear hdk hrw hcall hgx b5 a5 x5 t5 b6 a6 x6 t6 hg2 ha2
          have HL6 := hide (lay_len (b := k.b) (p := 32 * s) (x := xb.take F) (by have := hroom2.out; rw [List.length_take]; omega))
          go_wp2_with fail
          rw [← hw6]
          clear hw6
          go_region_held (fun w' => Touch P w6 w') (assumption) (first
            | (go_at_call 17; refine PW.out.mono ?_; rintro e w7 ⟨rfl, hs7, hp7⟩))
          go_wp2
          go_ret
          obtain ⟨P', h1, h2⟩ := hp7.out
          refine Both.of (cur := cur2) h1 h2 ?_ ?_
          · rw [HWE.out, HRE.out]
            refine ⟨?_, HA6.out.touch hs7 ha, hag, ?_, hc63, hs2, ?_⟩
            · show Blk w7 g 35 #[.slice (some ⟨a, 0, none⟩) (lay k.b (32 * s) (xb.take F)).length c, .int .i64 (f1), .bool false, .int .i64 (W)]
              rw [HL6.out]
              exact HB6.out.touch hs7 hg
            · show (lay k.b (32 * s) (xb.take F)).length ≤ c
              rw [HL6.out]
              exact hLc
            · show cur2.toList.take (lay k.b (32 * s) (xb.take F)).length = octs (lay k.b (32 * s) (xb.take F))
              rw [HL6.out]
              exact ht2
          · exact (HT6.out.mono fun n _ h => Or.inr h).trans (hs7.mono fun n _ h => Or.inl h) fun _ _ h => h
end Go.Proofs.Ytcdllbjhcjpleaa
