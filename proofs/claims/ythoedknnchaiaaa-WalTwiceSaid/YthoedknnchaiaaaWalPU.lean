/-
  The program's halves: octets that are laid, sector by sector.
-/
import Derived.Test.YthoedknnchaiaaaWalPA
import Derived.Test.YthoedknnchaiaaaSliceRow
import Derived.Test.YthoedknnchaiaaaCrcB
import Derived.Deep.RegionHeld
import Derived.Test.YthoedknnchaiaaaWalRefX
namespace Go.Proofs.Ythoedknnchaiaaa
open Go.RowKit
set_option linter.unusedVariables false

/-- copy into a block that is known, one step of a region. -/
theorem step_copy_own {P : Program} {ops : Array Oper} {o : Oper} {a : Act} {w : World} {K : Act → World → Prop} {Q : Exit → Act → World → Prop} {E : Prop} (hgd : o.guard = none) (d s : Operand) (dT sT : TypeId)
    (ho : o.op = .call { callee := .builtin .copy, args := #[d, s], argTypes := #[dT, sT] }) (elem : TypeId) (hu : P.underlying dT = some (.slice elem)) (hsz : (P.info? elem).map (·.size) = some 1)
    (g off dLen dCap : Nat) (ad : Addr) (sLen sCap : Nat) (hd : a.eval d = .slice (some ⟨g, off, none⟩) dLen dCap) (hs : a.eval s = .slice (some ad) sLen sCap)
    (cur : Array Value) (t : TypeId) (hg : Blk w g t cur) (cs : List Value) (n : Nat) (hl : cs.length = n) (hn : n = Nat.min sLen dLen)
    (hsrc : ∀ j v, cs[j]? = some v → w.cell? (ad.add j) = some v) (hfit : off + cs.length ≤ cur.size) (h1 : ∀ v ∈ cs, v.oneCell' = true)
    (h : ∀ w', Hid (Blk w' g t (splice cur.toList off cs).toArray) → Hid (Touch (· = g) w w') → K (a.put o.dst (.int .i64 (n : Int))) w') :
    if Region.wanted o (yielded ops a.tmps) = true then Oper.wp P o a w K Q else E := by
  subst hl
  have hw : Region.wanted o (yielded ops a.tmps) = true := by simp [Region.wanted, hgd]
  rw [if_pos hw]
  have hrun := run_copy_row (P := P) w dT sT o.type elem g off dLen dCap ad sLen sCap cur t cs hu hsz hg hn hsrc hfit h1
  have ht : Touch (· = g) w (w.setRow g (cur.toList.take off ++ cs ++ cur.toList.drop (off + cs.length)).toArray) :=
    ⟨rfl, rfl, rfl, by simp [World.setRow], fun k hk hne => setRow_other w g k _ hne⟩
  unfold Oper.wp
  simp [execOp, ho, resolve, invoke, builtin, hd, hs, hrun, Result.andThen]
  have hb : Blk (w.setRow g (cur.toList.take off ++ cs ++ cur.toList.drop (off + cs.length)).toArray) g t (splice cur.toList off cs).toArray := by
    have := setRow_heap w g cur (cur.toList.take off ++ cs ++ cur.toList.drop (off + cs.length)).toArray t (0, 0) hg
    unfold splice
    rw [← List.append_assoc]
    exact this
  have := h _ hb ht
  rw [List.append_assoc] at this
  exact this

/-- A sector, of what the half comes to. -/
theorem sec_cov {b all x : List Int} {P at_ n q : Nat} (hcov : ((lay b (32 * P + at_) x).drop (32 * P)).take (32 * n) = all ++ zs (32 * n - all.length)) (hl : all.length ≤ 32 * n) (hq : 32 * q < all.length) :
    secOf b (32 * P) at_ x (P + q) = lay (zs 32) 0 ((all.drop (32 * q)).take 32) := by
  have hyl : ((all.drop (32 * q)).take 32).length = min 32 (all.length - 32 * q) := by rw [List.length_take, List.length_drop]
  have hzl : (zs 32).length = 32 := zs_len 32
  apply List.ext_getElem?
  intro i
  unfold secOf
  rw [lay_get (by rw [hyl, hzl]; omega), List.getElem?_take, List.getElem?_drop, hyl]
  by_cases h : i < 32
  · rw [if_pos h]
    have e : (((lay b (32 * P + at_) x).drop (32 * P)).take (32 * n))[32 * q + i]? = (all ++ zs (32 * n - all.length))[32 * q + i]? := by rw [hcov]
    rw [List.getElem?_take, if_pos (by omega), List.getElem?_drop, show 32 * P + (32 * q + i) = 32 * (P + q) + i by omega] at e
    rw [e]
    by_cases h2 : 32 * q + i < all.length
    · rw [if_pos (by omega), List.getElem?_append_left h2, Nat.sub_zero, List.getElem?_take, if_pos h, List.getElem?_drop]
    · rw [if_neg (by omega), List.getElem?_append_right (by omega)]
      unfold zs
      rw [List.getElem?_replicate, List.getElem?_replicate, if_pos (by omega), if_pos h]
  · rw [if_neg h, if_neg (by omega), List.getElem?_eq_none (by rw [hzl]; omega)]
theorem zero32_zs : zero32.toList = octs (zs 32) := rfl

/-- A half's base, in sectors. -/
def bas (o : Bool) (n : Nat) : Nat := if o then 1 + n else 1
theorem plc_bas (o : Bool) (n i : Nat) : plc o n i = bas o n + i := rfl

set_option maxHeartbeats 4000000 in
set_option maxRecDepth 100000 in
theorem wlay_any {Q R : Nat → Prop} {g d n : Nat} {u : Bool} {k : Dk} (o : Bool) (at_ : Nat) (A : Option Addr) (nx cx : Nat) (all : List Int) (w : World) (hv : HvAt w g d u) (hd : Dsk w Q d k) (hk : k.ok (2 * n + 1)) (ha : k.dead = false) (hg : ¬ Q g)
    (hx : Row w R A nx cx (octs all)) (hxo : Octs all) (hq : ∀ b, R b → b < w.heap.size → ¬ Q b) (hat : at_ ≤ nx) (hnx : nx ≤ 32 * n)
    (hcov : ((lay k.b (32 * bas o n + at_) (all.drop at_)).drop (32 * bas o n)).take (32 * n) = all ++ zs (32 * n - all.length)) :
    Calls Try.prog 40 #[.pointer (some ⟨g, 0, none⟩), .int .i64 (hi_ o), .slice A nx cx, .int .i64 (at_ : Int)] w fun e w' => DDid Dsk Q d (k.laid (32 * bas o n) at_ (all.drop at_)) (.bool (k.laidOk at_ (all.drop at_))) w w' e := by
  have hxl : all.length = nx := by have := hx.1; rwa [octs_len] at this
  have hm := hk.2.1
  have hcap := hx.2.1
  have hcb := hx.2.2.1
  by_cases h0 : at_ = nx
  · have hx0 : all.drop at_ = [] := List.drop_of_length_le (by omega)
    rw [hx0]
    have e1 : k.laid (32 * bas o n) at_ [] = k := by unfold Dk.laid; rw [if_pos (.inl rfl)]
    have e2 : k.laidOk at_ [] = true := rfl
    rw [e1, e2]
    have HD := hide hd
    have hnl : ¬ ((at_ : Int) < (nx : Int)) := by omega
    clear hx hv hd hk hq hcov hg e1 e2 hx0 h0 hat hnx hxl
    go_enter Try.func40, Try.ntmps40
    go_wp2
    go_loopw [3] (fun s3 wr => s3 = .int .i64 (at_ : Int) ∧ wr = w) (fun _ _ => 0)
    case atStart => exact ⟨rfl, rfl⟩
    case round =>
      obtain ⟨rfl, rfl⟩ := hrel
      go_wp2
      go_ret
      exact ⟨rfl, Q, HD.out, fun b h => .inl h, Touch.refl _ _⟩
  · obtain ⟨x, hxx⟩ : ∃ x, all.drop at_ = x := ⟨_, rfl⟩
    rw [hxx] at hcov ⊢
    have hxn : x.length = nx - at_ := by rw [← hxx, List.length_drop, hxl]
    have hne : x ≠ [] := fun h => by subst h; simp at hxn; omega
    have hbl : 32 * bas o n + at_ + x.length ≤ k.b.length := by
      have := hk.1
      unfold bas
      split <;> omega
    have hbs : 1 ≤ bas o n ∧ bas o n ≤ 1 + n := by unfold bas; split <;> omega
    have hxo2 : Octs x := by rw [← hxx]; exact hxo.drop _
    have hfin := layS_laid k _ (bas o n) at_ x hk ha hbl hne
    obtain ⟨q0, hq0⟩ : ∃ q0, q0 = at_ / 32 := ⟨_, rfl⟩
    obtain ⟨N, hN⟩ : ∃ N, N = cnt at_ x := ⟨_, rfl⟩
    have hNC : N = (nx + 31) / 32 - q0 := by rw [hN, hq0]; unfold cnt; rw [hxn, show at_ + (nx - at_) = nx by omega]
    rw [← hN] at hfin
    obtain ⟨xb, xo, rfl, hxq, hxlt, hxc⟩ := hx.some_ (by omega)
    have hgl : g < w.heap.size := World.block_lt_of_cell? w _ hv.1
    have HZ := hide (And.intro zero32_size zero32_zs)
    have HFIN := hide hfin
    have HS0 := hide (show (layS (32 * bas o n) at_ x k 0).2 = true from rfl)
    have HD0 := hide (show ∃ Q', Dsk w Q' d (layS (32 * bas o n) at_ x k 0).1 ∧ ∀ b, Q' b → Q b ∨ w.heap.size ≤ b from ⟨Q, hd, fun b h => .inl h⟩)
    have HR0 := hide (show at_ / 32 = q0 + 0 ∧ (0 < N ↔ at_ < nx) ∧ at_ ≤ 9000 by omega)
    have HCOV := hide hcov
    have HK := hide hk
    have HV := hide hv
    have HX := hide hx
    have HXC := hide hxc
    have HNC := hide hNC
    have HNL := hide hN
    have HQ0 := hide hq0
    have HBL := hide hbl
    have HXL := hide hxl
    have HXO := hide hxo
    have HXO2 := hide hxo2
    have hNn : N ≤ 200 := by omega
    have hq0n : q0 ≤ 200 := by omega
    have hqx := hq xb hxq hxlt
    clear hfin hcov hk hv hx hxc hNC hN hq0 hbl hxo hxo2 hd hne hxx hxn hxl h0
    go_enter Try.func40, Try.ntmps40
    go_wp2_with fail
    go_loopw [3] (fun s3 wr => ∃ (j a : Nat), j ≤ N ∧ s3 = .int .i64 (a : Int) ∧ Hid (a / 32 = q0 + j ∧ (j < N ↔ a < nx) ∧ a ≤ 9000) ∧ Hid ((layS (32 * bas o n) at_ x k j).2 = true) ∧ Hid (∃ Q', Dsk wr Q' d (layS (32 * bas o n) at_ x k j).1 ∧ ∀ b, Q' b → Q b ∨ w.heap.size ≤ b) ∧ Hid (Touch Q w wr)) (fun s3 _ => 10000 - (intOf s3).toNat)
    case atStart => exact ⟨0, at_, Nat.zero_le _, rfl, HR0, HS0, HD0, Touch.refl _ _⟩
    case round =>
      clear HS0 HD0 HR0
      obtain ⟨j, a, hj, rfl, HA, HS, HD, HT⟩ := hrel
      obtain ⟨q, hqd⟩ : ∃ q, a / 32 = q := ⟨_, rfl⟩
      have han : a ≤ 9000 := HA.out.2.2
      have hqn : q ≤ 300 := by omega
      have HQJ := hide (show q = q0 + j by rw [← hqd]; exact HA.out.1)
      by_cases hlt : a < nx
      · have hjN : j < N := HA.out.2.1.2 hlt
        have htd : (a : Int).tdiv 32 = (q : Int) := by rw [Int.tdiv_eq_ediv_of_nonneg (by omega)]; omega
        have hwq : IntKind.i64.wrap (q : Int) = (q : Int) := by rw [IntKind.wrap_i64]; omega
        have hwm : IntKind.i64.wrap ((q : Int) * 32) = (q : Int) * 32 := by rw [IntKind.wrap_i64]; omega
        have hq32 : 32 * q < nx := by omega
        have HQA := hide (show 32 * q ≤ a by omega)
        have hq2 : 32 * q < nx := by omega
        have hqa2 : a < 32 * (q + 1) := by omega
        clear hqd
        obtain ⟨Q', hD, hQ'⟩ := HD.out
        have hnext := layS.eq_2 (32 * bas o n) at_ x k j
        rw [if_pos HS.out, show 32 * bas o n / 32 + at_ / 32 + j = bas o n + q by have := HQ0.out; have := HQJ.out; omega] at hnext
        have hsec := sec_cov HCOV.out (by rw [HXL.out]; exact hnx) (q := q) (by rw [HXL.out]; exact hq32)
        rw [hsec] at hnext
        have hKJ := layS_ok (p := 32 * bas o n) (at_ := at_) (x := x) HK.out HXO2.out j
        obtain ⟨hdj, -⟩ := layS_alive k _ (bas o n) at_ x HK.out ha HBL.out j (by have := HNL.out; omega) HS.out
        generalize hkj : (layS (32 * bas o n) at_ x k j).1 = kj at *
        have HKJ := hide hKJ
        have HNEXT := hide hnext
        obtain ⟨y, hy⟩ : ∃ y, (all.drop (32 * q)).take 32 = y := ⟨_, rfl⟩
        rw [hy] at HNEXT
        have hyl : y.length = min 32 (nx - 32 * q) := by rw [← hy, List.length_take, List.length_drop, HXL.out]
        have hyo : Octs y := by rw [← hy]; exact (HXO.out.drop _).take _
        -- what is copied
        have hs1 : ∀ W : World, (Instr.slice 32 (.slice (some ⟨xb, xo, none⟩) nx cx) (some (.int .i64 ((q : Int) * 32))) none none).run Try.prog W = .ok (.slice (some ⟨xb, xo + 32 * q, none⟩) (nx - 32 * q) (cx - 32 * q)) W := fun W => by
          have := back_run W (some ⟨xb, xo, none⟩) nx cx (32 * q) (by omega) hcap (by omega)
          rw [show ((32 * q : Nat) : Int) = (q : Int) * 32 by omega, Option.map_some, Addr.add_lit] at this
          exact this
        have HB2 := hide (Blk.new wr 79 zero32)
        have hsz2 : wr.heap.size < (wr.alloc (.cells zero32 79)).heap.size := by simp
        have hwsz : w.heap.size ≤ wr.heap.size := HT.out.size
        have hxs : xb < wr.heap.size := by omega
        have hgs : g < wr.heap.size := by omega
        have HYL := hide (show (octs y).length = min 32 (nx - 32 * q) by rw [octs_len]; exact hyl)
        have HMIN := hide (show min 32 (nx - 32 * q) = Nat.min (nx - 32 * q) 32 from Nat.min_comm _ _)
        have hsrc : ∀ W : World, Touch Q w W → ∀ i v, (octs y)[i]? = some v → W.cell? ((⟨xb, xo + 32 * q, none⟩ : Addr).add i) = some v := fun W hW i v hiv => by
          have hi : i < y.length := by
            rcases Nat.lt_or_ge i y.length with h | h
            · exact h
            · rw [List.getElem?_eq_none (by rw [octs_len]; exact h)] at hiv; cases hiv
          rw [Addr.add_lit, Nat.add_assoc, World.cell?_of_block (a := ⟨xb, xo + (32 * q + i), none⟩) (hW.block xb hxlt hqx), HXC.out (32 * q + i) (by omega), ← hiv, ← hy, ← octs_take, ← octs_drop, List.getElem?_take, if_pos (by omega), List.getElem?_drop]
        have HSRC := hide (hsrc _ (HT.out.alloc (.cells zero32 79)).drew)
        have HT2 := hide (HT.out.alloc (.cells zero32 79))
        have HFIT := hide (show 0 + (octs y).length ≤ zero32.size by rw [HYL.out, HZ.out.1]; omega)
        have HD2 := hide (dsk_keep hD (w' := wr.alloc (.cells zero32 79)) fun b _ hb => Below.heap_alloc wr _ b hb)
        have hdlt := dsk_lt hD
        have HNS := hide (show ∀ b, Q' b → b ≠ wr.heap.size from fun b hb => by have := hdlt b hb; omega)
        have hSP := splice_lay (L := zero32.toList) (b := zs 32) (y := y) (N := 32) (off := 0) (by rw [zero32_zs, List.take_of_length_le (by rw [octs_len, zs_len]; exact Nat.le_refl _)]) (zs_len 32) (by omega)
        have HSP := hide hSP
        have HSL := hide (length_splice' zero32.toList 0 (octs y) (by rw [HYL.out, Array.length_toList, HZ.out.1]; omega))
        have HYO := hide hyo
        clear hyl hyo hsrc hD hnext hKJ hSP hdlt hy hkj hsec HD HT
        go_wp2_with fail
        generalize wr.alloc (.cells zero32 79) = w2 at *
        generalize hsg : wr.heap.size = sg at *
        go_region_law (refine step_copy_own rfl (.tmp 17) (.tmp 21) 32 32 rfl 5 Try.underlying32 (by kernel_rfl) sg 0 _ _ _ _ _ rfl rfl zero32 79 HB2.out.drew (octs y) (min 32 (nx - 32 * q)) HYL.out HMIN.out HSRC.out HFIT.out (octs_one _) ?_; intro w4 hg4 ht4)
        have hgq : ¬ Q' g := fun h => (hQ' g h).elim hg fun h => by omega
        have HQP := hide hQ'
        have HT4 := hide (HT2.out.drew.trans ht4.out (fun b hb hs => by omega) : Touch Q w w4)
        have hd4 : Dsk w4 Q' d kj := dsk_keep HD2.out fun b hb hlt => ht4.out.block b hlt (HNS.out b hb)
        have hv4 : HvAt w4 g d u := HV.out.keep (HT4.out.block g hgl hg)
        have hs4 : sg < w4.heap.size := Nat.lt_of_lt_of_le hsz2 ht4.out.size
        have z0 : ∀ w', Touch Q' w4 w' → w'.cell? ⟨g, 0, none⟩ = some (.pointer (some ⟨d, 0, none⟩)) := fun w' ht => (hv4.keep (ht.block g (by omega) hgq)).1
        have hrow : Row w4 (· = sg) (some ⟨sg, 0, none⟩) 32 32 (octs (lay (zs 32) 0 y)) := by
          have hl32 : (octs (lay (zs 32) 0 y)).length = 32 := by
            have e := HYL.out
            rw [octs_len] at e
            rw [octs_len, lay_len (by rw [zs_len]; omega), zs_len]
          refine ⟨hl32, Nat.le_refl _, by omega, .inr ⟨sg, 0, rfl, rfl, fun i hi => ?_⟩⟩
          rw [Nat.zero_add, hg4.out.cell i, ← HSP.out, List.getElem?_take, if_pos hi, List.getElem?_toArray]
        have hpl := wplace_any (o := o) q w4.drew (HvAt.keep hv4 rfl) (dsk_keep hd4 fun _ _ _ => rfl) HKJ.out (by omega)
        have hwr := dwrite_any ((plc o n q : Nat) : Int) (some ⟨sg, 0, none⟩) 32 32 (lay (zs 32) 0 y) w4.drew (dsk_keep hd4 fun _ _ _ => rfl) HKJ.out (by unfold I64'; unfold plc; split <;> omega) hrow.drew (lay_octs _ (zs_octs _) HYO.out) (fun b hb _ h => HNS.out b h hb)
        rw [← plc_bas] at HNEXT
        generalize hSC : lay (zs 32) 0 y = sec at *
        generalize plc o n q = pl at *
        have HPL := hide hpl
        have hr0 := (Touch.refl Q' w4).drew
        cases hB : kj.wrote (pl : Int) sec with
        | false =>
          rw [hB] at hwr HNEXT
          have HWR := hide hwr
          have HE := hide (fun (w5 : World) (hdd : DDid Dsk Q' d (kj.write (pl : Int) sec) (.bool false) w4.drew w5 (.returned (.bool false))) => show DDid Dsk Q d (k.laid (32 * bas o n) at_ x) (.bool (k.laidOk at_ x)) w w5 (.returned (.bool false)) from by
            have h1 := HFIN.out
            have h2 := HNEXT.out
            have h3 := layS_stop (32 * bas o n) at_ x k (j + 1) (by rw [h2]) (N - (j + 1))
            rw [show j + 1 + (N - (j + 1)) = N by omega, h1, h2] at h3
            injection h3 with h3 h4
            obtain ⟨-, Q5, h5, h6, h7⟩ := hdd
            have hz : w.heap.size ≤ w4.heap.size := HT4.out.size
            refine ⟨by rw [h4], Q5, by rw [h3]; exact h5, fun b hb => ?_, HT4.out.trans (Touch.trans (Touch.refl Q' w4).drew h7 fun _ _ h => h) fun b hb hq => (HQP.out b hq).elim id fun h => by omega⟩
            rcases h6 b hb with h | h
            · exact HQP.out b h
            · right; exact Nat.le_trans hz h)
          clear hd4 hv4 hrow hpl hwr hB hg4 ht4 hQ' hSC
          go_wp2_with fail
          go_region_held (fun w' => Touch Q' w4 w') (assumption) (first
            | (go_at_call 62; refine HPL.out.mono ?_; rintro e w5 ⟨rfl, rfl⟩)
            | (go_at_call 29; refine HWR.out.mono ?_; rintro e w5 hdd; have hre := hdd.1; subst hre; have hq5 := hr0.trans hdd.2.choose_spec.2.2 (fun _ _ h => h); have HDD := hide hdd; clear hdd))
          all_goals go_wp2
          all_goals go_ret
          all_goals exact HE.out _ HDD.out
        | true =>
          rw [hB] at hwr HNEXT
          have HWR := hide hwr
          have HE := hide (fun (w5 : World) (hdd : DDid Dsk Q' d (kj.write (pl : Int) sec) (.bool true) w4.drew w5 (.returned (.bool true))) => show (layS (32 * bas o n) at_ x k (j + 1)).2 = true ∧ (∃ Q', Dsk w5 Q' d (layS (32 * bas o n) at_ x k (j + 1)).1 ∧ ∀ b, Q' b → Q b ∨ w.heap.size ≤ b) ∧ Touch Q w w5 from by
            have h2 := HNEXT.out
            obtain ⟨-, Q5, h5, h6, h7⟩ := hdd
            have hz : w.heap.size ≤ w4.heap.size := HT4.out.size
            refine ⟨by rw [h2], ⟨Q5, by rw [h2]; exact h5, fun b hb => ?_⟩, HT4.out.trans (Touch.trans (Touch.refl Q' w4).drew h7 fun _ _ h => h) fun b hb hq => (HQP.out b hq).elim id fun h => by omega⟩
            rcases h6 b hb with h | h
            · exact HQP.out b h
            · right; exact Nat.le_trans hz h)
          have HA2 := hide (show 32 * (q + 1) / 32 = q0 + (j + 1) ∧ (j + 1 < N ↔ 32 * (q + 1) < nx) ∧ 32 * (q + 1) ≤ 9000 by have := HQJ.out; have := HNC.out; omega)
          clear hd4 hv4 hrow hpl hwr hB hg4 ht4 hQ' hSC
          go_wp2_with fail
          go_region_held (fun w' => Touch Q' w4 w') (assumption) (first
            | (go_at_call 62; refine HPL.out.mono ?_; rintro e w5 ⟨rfl, rfl⟩)
            | (go_at_call 29; refine HWR.out.mono ?_; rintro e w5 hdd; have hre := hdd.1; subst hre; have hq5 := hr0.trans hdd.2.choose_spec.2.2 (fun _ _ h => h); have HDD := hide hdd; clear hdd))
          all_goals have HEN := hide (HE.out _ HDD.out)
          all_goals clear HDD HE z0 hq5
          all_goals go_wp2
          all_goals go_roundw
          case rel => exact ⟨j + 1, 32 * (q + 1), by omega, by go_num, HA2, HEN.out.1, HEN.out.2.1, HEN.out.2.2⟩
          case measure => simp [intOf]; omega
      · have hjN : ¬ j < N := fun h => hlt (HA.out.2.1.1 h)
        obtain rfl : j = N := by omega
        have hll : ¬ ((a : Int) < (nx : Int)) := by omega
        have HE := hide (show DDid Dsk Q d (k.laid (32 * bas o n) at_ x) (.bool (k.laidOk at_ x)) w wr (.returned (.bool true)) from by
          have h1 := HFIN.out
          have h2 := HS.out
          rw [h1] at h2
          obtain ⟨Q', hD, hQ'⟩ := HD.out
          rw [h1] at hD
          simp only at h2 hD
          exact ⟨by rw [h2], Q', hD, hQ', HT.out⟩)
        go_wp2
        go_ret
        exact HE.out
end Go.Proofs.Ythoedknnchaiaaa

/-
  The program's halves: which one counts is told, held, turned.
-/
namespace Go.Proofs.Ythoedknnchaiaaa
open Go.RowKit
set_option linter.unusedVariables false

/-- Octets of the call's own, as a block. -/
theorem own_blk {w : World} {base : Nat} {A : Option Addr} {n c : Nat} {l : List Int} (h : w.ownsRow base 5 1 (.slice A n c) n (octs l)) (hn : 1 ≤ n) :
    ∃ s cur, A = some ⟨s, 0, none⟩ ∧ base ≤ s ∧ Blk w s 5 cur ∧ n ≤ c ∧ c ≤ 9223372036854775807 ∧ cur.size = c ∧ cur.toList.take n = octs l := by
  obtain ⟨h1, h2⟩ := h
  rcases h2 with ⟨h2, h3⟩ | ⟨g, cap, cur, hv, hb, hg, hn', hc, hs, ht⟩
  · omega
  · injection hv with e1 e2 e3
    subst e1 e3
    unfold maxLen at hc
    exact ⟨g, cur, rfl, hb, hg, hn', by omega, by rw [hs, Nat.mul_one], by rw [Nat.mul_one] at ht; exact ht⟩
theorem row_blk {w : World} {s n c : Nat} {cur : Array Value} {l : List Int} (h : Blk w s 5 cur) (hl : l.length = n) (hn : n ≤ c) (hc : c ≤ 9223372036854775807) (ht : cur.toList.take n = octs l) : Row w (· = s) (some ⟨s, 0, none⟩) n c (octs l) := by
  refine ⟨by rw [octs_len, hl], hn, hc, .inr ⟨s, 0, rfl, rfl, fun i hi => ?_⟩⟩
  rw [Nat.zero_add, h.cell i, ← ht, List.getElem?_take, if_pos hi, Array.getElem?_toList]

set_option maxRecDepth 100000 in
theorem wor_one : ∀ i : Fin 256, bits .or .u8 (bits .andNot .u8 ((i.val : Nat) : Int) 1) 1 = ((i.val : Nat) : Int) - ((i.val : Nat) : Int) % 2 + 1 := by decide
set_option maxRecDepth 100000 in
theorem wor_zero : ∀ i : Fin 256, bits .or .u8 (bits .andNot .u8 ((i.val : Nat) : Int) 1) 0 = ((i.val : Nat) : Int) - ((i.val : Nat) : Int) % 2 := by decide
theorem wor_any {y : Int} (h : 0 ≤ y ∧ y < 256) (o : Bool) : bits .or .u8 (bits .andNot .u8 y 1) (hi_ o) = y - y % 2 + hi_ o := by
  have e : ((((⟨y.toNat, by omega⟩ : Fin 256)).val : Nat) : Int) = y := by show ((y.toNat : Nat) : Int) = y; omega
  cases o
  · have := wor_zero ⟨y.toNat, by omega⟩
    rw [e] at this
    show bits .or .u8 _ 0 = y - y % 2 + 0
    rw [this]; omega
  · have := wor_one ⟨y.toNat, by omega⟩
    rw [e] at this
    exact this
theorem read0 {k : Dk} {n : Nat} (hk : k.ok (2 * n + 1)) (ha : k.dead = false) : k.read 0 = k.b.take 32 ∧ decide (k.has 0) = true ∧ (k.b.take 32).length = 32 := by
  have hl := hk.1
  have hh : k.has 0 := ⟨by omega, by omega, ha⟩
  refine ⟨?_, decide_eq_true hh, by rw [List.length_take]; omega⟩
  unfold Dk.read
  rw [if_pos hh]
  rfl
theorem flip_set {b : List Int} {o : Bool} (hb : 32 ≤ b.length) (h : decide (b.getD 0 0 % 2 = 1) = !o) (hy : 0 ≤ b.getD 0 0 ∧ b.getD 0 0 < 256) : (b.take 32).set 0 (b.getD 0 0 - b.getD 0 0 % 2 + hi_ o) = flip b := by
  obtain ⟨y, l, rfl⟩ : ∃ y l, b = y :: l := by
    cases b with
    | nil => simp at hb
    | cons y l => exact ⟨y, l, rfl⟩
  unfold flip
  rw [List.getD_cons_zero] at *
  rw [show (y :: l).take 32 = y :: l.take 31 from rfl, List.set_cons_zero, List.drop_succ_cons, List.drop_zero]
  congr 1
  cases o with
  | false =>
    have : y % 2 = 1 := of_decide_eq_true h
    rw [if_pos this]
    show y - y % 2 + 0 = _
    omega
  | true =>
    have : ¬ (y % 2 = 1) := of_decide_eq_false h
    rw [if_neg this]
    show y - y % 2 + 1 = _
    omega

section
variable {Q : Nat → Prop} {g d n : Nat} {u : Bool} {k : Dk}
theorem wtell_any (o : Bool) (w : World) (hv : HvAt w g d u) (hd : Dsk w Q d k) (hk : k.ok (2 * n + 1)) (ha : k.dead = false) (hg : ¬ Q g) (hb : bitOf k = !o) :
    Calls Try.prog 61 #[.pointer (some ⟨g, 0, none⟩), .int .i64 (hi_ o)] w fun e w' => DDid Dsk Q d (k.write 0 (flip k.b)) (.bool (k.wrote 0 (flip k.b))) w w' e := by
  obtain ⟨r1, r2, r3⟩ := read0 hk ha
  have hl := hk.1
  have hRD := dread_any 0 w hd hk (by unfold I64'; omega)
  rw [r1, r2] at hRD
  have HRD := hide hRD
  have hgl : g < w.heap.size := World.block_lt_of_cell? w _ hv.1
  have hy := hk.2.2.1.getD 0
  have hF := flip_set (by omega) hb hy
  have hor := wor_any hy o
  have hyr : 0 ≤ k.b.getD 0 0 - k.b.getD 0 0 % 2 + hi_ o ∧ k.b.getD 0 0 - k.b.getD 0 0 % 2 + hi_ o < 256 := by
    cases o
    · show 0 ≤ _ + 0 ∧ _ + 0 < 256
      omega
    · show 0 ≤ _ + 1 ∧ _ + 1 < 256
      omega
  have hfl := flip_len hk (by omega)
  have hfo := flip_octs hk (by omega)
  have hyd : (k.b.take 32).getD 0 0 = k.b.getD 0 0 := by
    rw [List.getD_eq_getElem?_getD, List.getElem?_take, if_pos (by omega), ← List.getD_eq_getElem?_getD]
  have HDS := hide hd
  have HK := hide hk
  have HV := hide hv
  have c0 := hv.1
  generalize hT : k.b.take 32 = T at *
  generalize hY : k.b.getD 0 0 = y at *
  generalize hV : y - y % 2 + hi_ o = v at *
  generalize flip k.b = F at *
  have HF := hide hF
  have HY := hide hyd
  have HFL := hide hfl
  have HFO := hide hfo
  have HR3 := hide r3
  clear r1 r2 r3 hRD hd hk hv hF hyd hfl hfo hT hY hV hb
  cases o
  all_goals
    simp only [show hi_ false = 0 from rfl, show hi_ true = 1 from rfl] at hor ⊢
    go_enter Try.func61, Try.ntmps61
    go_wp2_with fail
    refine HRD.out.mono ?_
    rintro e w1 ⟨A1, c1, rfl, hown, hb1⟩
    rw [HR3.out] at hown ⊢
    obtain ⟨s, cur, rfl, hbs, hB, hnc, hcc, hcs, hct⟩ := own_blk hown (by omega)
    have q0 : w1.cell? ⟨s, 0, none⟩ = some (.int .u8 y) := by
      rw [hB.cell 0, ← Array.getElem?_toList]
      have := congrArg (fun l => l[0]?) hct
      rw [List.getElem?_take, if_pos (by omega), octs_at _ _ (by rw [HR3.out]; omega), HY.out] at this
      exact this
    have f0 := hB.frozen 0
    have hb2 := hB.store 0 (.int .u8 v)
    have hrow : Row (w1.setCell ⟨s, 0, none⟩ (.int .u8 v)) (· = s) (some ⟨s, 0, none⟩) 32 c1 (octs F) := row_blk hb2 HFL.out hnc hcc (by rw [← HF.out]; exact cur_set v hct)
    have hbw : Below w.heap.size w (w1.setCell ⟨s, 0, none⟩ (.int .u8 v)) := hb1.setCell (p := ⟨s, 0, none⟩) hbs _
    have c0' := (HV.out.keep (hbw.block g hgl)).1
    have hdl := dsk_lt HDS.out
    have HWR := hide (dwrite_any 0 (some ⟨s, 0, none⟩) 32 c1 F _ (dsk_keep HDS.out fun b _ hb => hbw.block b hb) HK.out (by unfold I64'; omega) hrow HFO.out (fun b hb _ h => by have := hdl b h; subst hb; omega))
    have HBW := hide hbw
    have c0'' := (HV.out.keep (hb1.block g hgl)).1
    clear hown hB hb2 hrow hbw hb1 hct hdl
    go_wp2_with fail
    refine HWR.out.mono ?_
    rintro e w3 ⟨rfl, Q3, h3, hq3, ht3⟩
    have HEND := hide (show DDid Dsk Q d (k.write 0 F) (.bool (k.wrote 0 F)) w w3 (.returned (.bool (k.wrote 0 F))) from
      ⟨rfl, Q3, h3, fun b hb => (hq3 b hb).imp id fun h => Nat.le_trans HBW.out.size h, ((Touch.of_below HBW.out).mono (Q := Q) fun _ _ h => h.elim).trans ht3 fun _ _ h => h⟩)
    clear h3 hq3 ht3 HWR HBW c0' c0''
    go_wp2
    go_ret
    exact HEND.out
/-- The disk lives, and tells the half. -/
theorem wsteady_yes (w : World) (hv : HvAt w g d u) (hd : Dsk w Q d k) (hk : k.ok (2 * n + 1)) (ha : k.dead = false) (hu : u = bitOf k) :
    Calls Try.prog 39 #[.pointer (some ⟨g, 0, none⟩)] w fun e w' => e = .returned (.bool true) ∧ Below w.heap.size w w' := by
  obtain ⟨r1, r2, r3⟩ := read0 hk ha
  have hl := hk.1
  have hRD := dread_any 0 w hd hk (by unfold I64'; omega)
  rw [r1, r2] at hRD
  have HRD := hide hRD
  have hgl : g < w.heap.size := World.block_lt_of_cell? w _ hv.1
  have HV := hide hv
  have c0 := hv.1
  have HTO := hide (hk.2.2.1.take 32)
  have HU := hide (show decide ((k.b.take 32).getD 0 0 % 2 = 1) = u by
    rw [hu, List.getD_eq_getElem?_getD, List.getElem?_take, if_pos (by omega), ← List.getD_eq_getElem?_getD]
    rfl)
  generalize hT : k.b.take 32 = T at *
  have HR3 := hide r3
  clear r1 r2 r3 hRD hd hk hv hT hu
  cases u
  all_goals
    go_enter Try.func39, Try.ntmps39
    go_wp2_with fail
    refine HRD.out.mono ?_
    rintro e w1 ⟨A1, c1, rfl, hown, hb1⟩
    rw [HR3.out] at hown ⊢
    have hrow := Row.of_own hown
    have hto := fun nq : Nat => wtold_any A1 32 c1 T (w1.drewN nq) (hrow.keep fun _ _ _ => rfl) HTO.out (by omega)
    rw [HU.out] at hto
    have HTD := hide hto
    have q1 := fun nq => quiet_same (HTD.out nq)
    have v1 := (HV.out.keep (hb1.block g hgl)).2
    simp only [show hi_ false = 0 from rfl, show hi_ true = 1 from rfl] at q1 v1
    have HB1 := hide hb1
    clear hown hrow hto hb1 c0 HTD
    go_wp2_with fail
    go_quiet ((with_reducible exact q1 _))
    go_wp2
    go_ret
    exact ⟨rfl, below_drewN HB1.out _⟩
theorem wsteady_no (w : World) (hv : HvAt w g d u) (hd : Dsk w Q d k) (hk : k.ok (2 * n + 1)) (ha : k.dead = true) :
    Calls Try.prog 39 #[.pointer (some ⟨g, 0, none⟩)] w fun e w' => e = .returned (.bool false) ∧ Below w.heap.size w w' := by
  have hh : ¬ k.has 0 := fun h => by have := h.2.2; rw [ha] at this; cases this
  have hRD := dread_any 0 w hd hk (by unfold I64'; omega)
  rw [decide_eq_false hh, show k.read 0 = [] from if_neg hh] at hRD
  have HRD := hide hRD
  have c0 := hv.1
  clear hRD hd hk hv hh ha
  go_enter Try.func39, Try.ntmps39
  go_wp2_with fail
  refine HRD.out.mono ?_
  rintro e w1 ⟨A1, c1, rfl, hown, hb1⟩
  have HB1 := hide hb1
  clear hown hb1 c0
  go_wp2_with fail
  go_quiet (fail)
  go_wp2
  go_ret
  exact ⟨rfl, below_drewN HB1.out _⟩
end
end Go.Proofs.Ythoedknnchaiaaa

/-
  The program's halves: the other half is made to count.
-/
namespace Go.Proofs.Ythoedknnchaiaaa
open Go.RowKit
set_option linter.unusedVariables false

/-- The disk at d is as k says; since w0 only its blocks, those of Q, and new ones were turned. -/
def DskIn (Q : Nat → Prop) (w0 : World) (d : Nat) (k : Dk) (w : World) : Prop := (∃ Q', Dsk w Q' d k ∧ ∀ b, Q' b → Q b ∨ w0.heap.size ≤ b) ∧ Touch Q w0 w
section
variable {Q : Nat → Prop} {w0 w w' : World} {d g n : Nat} {k k' : Dk} {u : Bool}
theorem DskIn.start (h : Dsk w Q d k) : DskIn Q w d k w := ⟨⟨Q, h, fun _ h => .inl h⟩, Touch.refl _ _⟩
theorem DskIn.below (h : DskIn Q w0 d k w) (hb : Below w.heap.size w w') : DskIn Q w0 d k w' := by
  obtain ⟨⟨Q', h1, h2⟩, h3⟩ := h
  exact ⟨⟨Q', dsk_keep h1 fun b _ hb' => hb.block b hb', h2⟩, h3.trans ((Touch.of_below hb).mono (Q := Q) fun _ _ h => h.elim) fun _ _ h => h⟩
theorem DskIn.next {Q' : Nat → Prop} {v : Value} {e : Ending} (h : Touch Q w0 w) (hq : ∀ b, Q' b → Q b ∨ w0.heap.size ≤ b) (hd : DDid Dsk Q' d k' v w w' e) : DskIn Q w0 d k' w' := by
  obtain ⟨-, Q2, h1, h2, h3⟩ := hd
  refine ⟨⟨Q2, h1, fun b hb => ?_⟩, h.trans h3 fun b hb hq' => (hq b hq').elim id fun h => by omega⟩
  rcases h2 b hb with h' | h'
  · exact hq b h'
  · right; exact Nat.le_trans h.size h'
theorem DskIn.hv (h : DskIn Q w0 d k w) (hv : HvAt w0 g d u) (hg : ¬ Q g) : HvAt w g d u := hv.keep (h.2.block g (World.block_lt_of_cell? w0 _ hv.1) hg)
theorem DskIn.did (h : DskIn Q w0 d k w) (v : Value) : DDid Dsk Q d k v w0 w (.returned v) := by
  obtain ⟨⟨Q', h1, h2⟩, h3⟩ := h
  exact ⟨rfl, Q', h1, h2, h3⟩
end

/-! ### What the halves come to -/
theorem half_bas (k : Dk) (n : Nat) (o : Bool) : half k n o = 32 * bas (bitOf k != o) n := rfl
theorem cov_half {k : Dk} {n a : Nat} {x : List Int} (h : k.ok (2 * n + 1)) (o : Bool) (hx : a + x.length ≤ 32 * n) : ((lay k.b (half k n o + a) x).drop (half k n o)).take (32 * n) = lay (hf k n o) a x := by
  have hl := half_lt h o
  have e := hf_lay (k' := ⟨lay k.b (half k n o + a) x, 0, false, 0⟩) h hx rfl
  have e2 := half_lay (k := k) (k' := ⟨lay k.b (half k n o + a) x, 0, false, 0⟩) (n := n) (p := half k n o + a) (by omega) (by omega) rfl o
  rw [← e]
  unfold hf
  rw [e2]
theorem cov_sync {k : Dk} {m : Lm} (h : Good k m) : ((lay k.b (32 * bas (bitOf k) m.n + m.at_) ((allF m.recs).drop m.at_)).drop (32 * bas (bitOf k) m.n)).take (32 * m.n) = allF m.recs ++ zs (32 * m.n - (allF m.recs).length) ∧ (allF m.recs).drop m.at_ = m.pend := by
  have e1 : (allF m.recs).drop m.at_ = m.pend := by
    rw [allF_split m.recs m.dur]
    exact List.drop_left' rfl
  have hus := m.used_split
  have hr := h.room
  have e2 : 32 * bas (bitOf k) m.n = half k m.n false := by rw [half_bas]; cases bitOf k <;> rfl
  refine ⟨?_, e1⟩
  rw [e1, e2, cov_half h.ok false (by omega), h.cont]
  have e3 := lay_behind (allF (m.recs.take m.dur)) m.pend (32 * m.n - m.at_) (by omega)
  have e4 : (allF (m.recs.take m.dur)).length = m.at_ := rfl
  rw [e4] at e3
  rw [e3, allF_split m.recs m.dur, List.length_append, e4, show allF (m.recs.drop m.dur) = m.pend from rfl]
  congr 2
  omega
theorem cov_zero {k : Dk} {n : Nat} (h : k.ok (2 * n + 1)) : ((lay k.b (half k n true + 0) (zs (32 * n))).drop (half k n true)).take (32 * n) = zs (32 * n) ++ zs (32 * n - (zs (32 * n)).length) := by
  rw [cov_half h true (by rw [zs_len]; omega), zs_len, Nat.sub_self]
  unfold lay
  rw [List.take_zero, List.nil_append, List.drop_of_length_le (by rw [hf_len h, zs_len]; omega)]
  rfl
theorem cov_frame {k : Dk} {n : Nat} {f : List Int} (h : k.ok (2 * n + 1)) (hz : hf k n true = zs (32 * n)) (hf' : f.length ≤ 32 * n) : ((lay k.b (half k n true + 0) f).drop (half k n true)).take (32 * n) = f ++ zs (32 * n - f.length) := by
  rw [cov_half h true (by omega), hz]
  have := lay_behind [] f (32 * n) hf'
  simpa using this
/-- What making the other half count does. -/
def turnL (k : Dk) (n : Nat) (f : List Int) : Dk × Bool :=
  if k.laidOk 0 (zs (32 * n)) = false then (k.laid (half k n true) 0 (zs (32 * n)), false)
  else if (k.laid (half k n true) 0 (zs (32 * n))).laidOk 0 f = false then ((k.laid (half k n true) 0 (zs (32 * n))).laid (half k n true) 0 f, false)
  else (((k.laid (half k n true) 0 (zs (32 * n))).laid (half k n true) 0 f).write 0 (flip k.b), ((k.laid (half k n true) 0 (zs (32 * n))).laid (half k n true) 0 f).wrote 0 (flip k.b))
theorem swap_turn {k : Dk} {m : Lm} {x : List Int} (h1 : 1 ≤ x.length) (h2 : x.length ≤ 4096) (h3 : x.length + 7 ≤ 32 * m.n) (hd : k.dead = false) :
    swapL k m x = ((turnL k m.n (frameOf x)).1, if (turnL k m.n (frameOf x)).2 = true then (⟨m.n, [x], 1⟩, 0) else (m, 19)) := by
  unfold swapL turnL
  rw [if_neg (by omega), if_neg (by omega), if_neg (by omega), if_neg (by rw [hd]; decide)]
  split
  · rfl
  · split
    · rfl
    · rfl
/-- Behind octets that stand behind the first sector. -/
theorem first_lay {k k' : Dk} {p : Nat} {x : List Int} (hp : 32 ≤ p) (hx : p + x.length ≤ k.b.length) (hb : k'.b = lay k.b p x) : flip k'.b = flip k.b ∧ bitOf k' = bitOf k := by
  have e1 : k'.b.take 32 = k.b.take 32 := by
    rw [hb]
    apply List.ext_getElem?
    intro i
    rw [List.getElem?_take, List.getElem?_take]
    by_cases h : i < 32
    · rw [if_pos h, if_pos h, lay_get hx, if_neg (by omega)]
    · rw [if_neg h, if_neg h]
  have e2 := bit_lay hp hx hb
  constructor
  · unfold flip
    rw [e1, e2]
  · unfold bitOf
    rw [e2]
theorem first_laid {k : Dk} {n a : Nat} {x : List Int} (h : k.ok (2 * n + 1)) (o : Bool) (hx : a + x.length ≤ 32 * n) : flip (k.laid (half k n o) a x).b = flip k.b ∧ bitOf (k.laid (half k n o) a x) = bitOf k := by
  obtain ⟨c, b1, -⟩ := laid_b k (half k n o) a x
  have hl := half_lt h o
  have : (x.take c).length ≤ x.length := by rw [List.length_take]; omega
  exact first_lay (p := half k n o + a) (by omega) (by omega) b1
theorem half_laid {k : Dk} {n a : Nat} {x : List Int} (h : k.ok (2 * n + 1)) (o o2 : Bool) (hx : a + x.length ≤ 32 * n) : half (k.laid (half k n o) a x) n o2 = half k n o2 := by
  have e := (first_laid h o hx).2
  rw [half_bas, e]
  rfl

section
variable {Q R : Nat → Prop} {g d n : Nat} {u : Bool} {k : Dk}
/-- Behind that: the disk, and what the halves tell. -/
def Turned (Q : Nat → Prop) (g d : Nat) (u : Bool) (kb : Dk × Bool) (w w' : World) (e : Ending) : Prop :=
  e = .returned (.bool kb.2) ∧ ∃ w5, DskIn Q w d kb.1 w5 ∧ w' = if kb.2 = true then w5.setCell ⟨g, 1, none⟩ (.int .i64 (hi_ (!u))) else w5
theorem Turned.no {Q : Nat → Prop} {g d : Nat} {u : Bool} {kb : Dk × Bool} {k' : Dk} {w w5 : World} (e : kb = (k', false)) (h : DskIn Q w d k' w5) : Turned Q g d u kb w w5 (.returned (.bool false)) := by subst e; exact ⟨rfl, w5, h, rfl⟩
theorem Turned.yes {Q : Nat → Prop} {g d : Nat} {u : Bool} {kb : Dk × Bool} {k' : Dk} {w w5 : World} {i : Int} (e : kb = (k', true)) (h : DskIn Q w d k' w5) (hi : i = hi_ (!u)) : Turned Q g d u kb w (w5.setCell ⟨g, 1, none⟩ (.int .i64 i)) (.returned (.bool true)) := by subst e hi; exact ⟨rfl, w5, h, rfl⟩
set_option maxHeartbeats 2000000 in
set_option maxRecDepth 100000 in
theorem wturn_any {T : TypeId} {cs : Array Value} (A : Option Addr) (nf cf : Nat) (f : List Int) (w : World) (hB : Blk w g T cs) (h0 : cs[0]? = some (.pointer (some ⟨d, 0, none⟩))) (h1 : cs[1]? = some (.int .i64 (hi_ u))) (hd : Dsk w Q d k) (hk : k.ok (2 * n + 1)) (ha : k.dead = false) (hu : u = bitOf k) (hg : ¬ Q g)
    (hx : Row w R A nf cf (octs f)) (hxo : Octs f) (hq : ∀ b, R b → b < w.heap.size → ¬ Q b) (hnf : nf ≤ 32 * n) :
    Calls Try.prog 50 #[.pointer (some ⟨g, 0, none⟩), .slice A nf cf] w fun e w' => Turned Q g d u (turnL k n f) w w' e := by
  have hxl : f.length = nf := by have := hx.1; rwa [octs_len] at this
  have hn := hk.2.1
  have hgl := hB.lt
  have hv : HvAt w g d u := ⟨(hB.cell 0).trans h0, (hB.cell 1).trans h1⟩
  have hbas : half k n true = 32 * bas (!u) n := by rw [half_bas, hu]; cases bitOf k <;> rfl
  -- what the calls do
  have hsize := wsize_any w hv hd hk
  obtain ⟨Z, hZ1, hZ2, hZ3⟩ := make_zs (32 * n) (by omega)
  have hdl := dsk_lt hd
  have hbw : Below w.heap.size w (w.alloc (.cells Z 5)) := (Below.refl _ _).alloc (Nat.le_refl _) _
  have hin0 : DskIn Q w d k (w.alloc (.cells Z 5)) := (DskIn.start hd).below hbw
  have hlay1 : Calls Try.prog 40 #[.pointer (some ⟨g, 0, none⟩), .int .i64 (hi_ (!u)), .slice (some ⟨w.heap.size, 0, none⟩) (32 * n) (32 * n), .int .i64 ((0 : Nat) : Int)] (w.alloc (.cells Z 5)) fun e w2 => e = .returned (.bool (k.laidOk 0 (zs (32 * n)))) ∧ DskIn Q w d (k.laid (half k n true) 0 (zs (32 * n))) w2 := by
    have := wlay_any (!u) 0 _ _ _ (zs (32 * n)) _ (hin0.hv hv hg) (dsk_keep hd fun b _ hb => hbw.block b hb) hk ha hg (row_zs (Blk.new w 5 Z) hZ1 hZ2 (by omega)) (zs_octs _) (fun b hb _ h => by have := hdl b h; subst hb; omega) (Nat.zero_le _) (Nat.le_refl _) (by rw [List.drop_zero, ← hbas]; exact cov_zero hk)
    rw [List.drop_zero, ← hbas] at this
    exact this.mono fun e w2 h => ⟨h.1, DskIn.next hin0.2 (fun _ h => .inl h) h⟩
  have hz0 : (0 + (zs (32 * n)).length) ≤ 32 * n := by rw [zs_len]; omega
  have hk1 : (k.laid (half k n true) 0 (zs (32 * n))).ok (2 * n + 1) := laid_ok hk (zs_octs _) (by have := half_lt hk true; rw [zs_len]; omega)
  have hbit1 := first_laid hk true hz0
  have hhalf1 := half_laid hk true true hz0
  have hlay2 : k.laidOk 0 (zs (32 * n)) = true → ∀ w' : World, DskIn Q w d (k.laid (half k n true) 0 (zs (32 * n))) w' → Calls Try.prog 40 #[.pointer (some ⟨g, 0, none⟩), .int .i64 (hi_ (!u)), .slice A nf cf, .int .i64 ((0 : Nat) : Int)] w' fun e w2 => e = .returned (.bool ((k.laid (half k n true) 0 (zs (32 * n))).laidOk 0 f)) ∧ DskIn Q w d ((k.laid (half k n true) 0 (zs (32 * n))).laid (half k n true) 0 f) w2 := by
    intro hok w' hin
    have hz : hf (k.laid (half k n true) 0 (zs (32 * n))) n true = zs (32 * n) := by
      obtain ⟨c1, b1, t1⟩ := laid_b k (half k n true) 0 (zs (32 * n))
      rw [t1 hok] at b1
      rw [hf_lay (o := true) hk hz0 b1]
      unfold lay
      rw [List.take_zero, List.nil_append, List.drop_of_length_le (by rw [hf_len hk, zs_len]; omega), List.append_nil]
    have hin' := hin
    obtain ⟨⟨Q1, hd1, hq1⟩, ht1⟩ := hin
    have hrow := hx.within.touch ht1 fun b hb _ h => hq b hb.1 hb.2 h
    have hcf := cov_frame hk1 hz (f := f) (by omega)
    rw [hhalf1] at hcf
    have := wlay_any (!u) 0 A nf cf f w' (hin'.hv hv hg) hd1 hk1 (laid_alive hok ha) (fun h => (hq1 g h).elim hg fun h => by omega) hrow hxo (fun b hb _ h => (hq1 b h).elim (hq b hb.1 hb.2) fun h => by have := hb.2; omega) (Nat.zero_le _) hnf (by rw [List.drop_zero, ← hbas]; exact hcf)
    rw [List.drop_zero, ← hbas] at this
    exact this.mono fun e w2 h => ⟨h.1, DskIn.next ht1 hq1 h⟩
  have hk2 : ((k.laid (half k n true) 0 (zs (32 * n))).laid (half k n true) 0 f).ok (2 * n + 1) := laid_ok hk1 hxo (by have := half_lt hk true; have := hk1.1; have := hk.1; omega)
  have hbit2 := first_laid hk1 true (a := 0) (x := f) (by omega)
  rw [hhalf1, hbit1.1, hbit1.2] at hbit2
  have htell : k.laidOk 0 (zs (32 * n)) = true → (k.laid (half k n true) 0 (zs (32 * n))).laidOk 0 f = true → ∀ w' : World, DskIn Q w d ((k.laid (half k n true) 0 (zs (32 * n))).laid (half k n true) 0 f) w' → Calls Try.prog 61 #[.pointer (some ⟨g, 0, none⟩), .int .i64 (hi_ (!u))] w' fun e w2 => e = .returned (.bool (((k.laid (half k n true) 0 (zs (32 * n))).laid (half k n true) 0 f).wrote 0 (flip k.b))) ∧ DskIn Q w d (((k.laid (half k n true) 0 (zs (32 * n))).laid (half k n true) 0 f).write 0 (flip k.b)) w2 := by
    intro hok hok2 w' hin
    have hin' := hin
    obtain ⟨⟨Q1, hd1, hq1⟩, ht1⟩ := hin
    have := wtell_any (!u) w' (hin'.hv hv hg) hd1 hk2 (laid_alive hok2 (laid_alive hok ha)) (fun h => (hq1 g h).elim hg fun h => by omega) (by rw [hbit2.2, Bool.not_not, hu])
    rw [hbit2.1] at this
    exact this.mono fun e w2 h => ⟨h.1, DskIn.next ht1 hq1 h⟩
  have hturn : turnL k n f = if k.laidOk 0 (zs (32 * n)) = false then (k.laid (half k n true) 0 (zs (32 * n)), false)
    else if (k.laid (half k n true) 0 (zs (32 * n))).laidOk 0 f = false then ((k.laid (half k n true) 0 (zs (32 * n))).laid (half k n true) 0 f, false)
    else (((k.laid (half k n true) 0 (zs (32 * n))).laid (half k n true) 0 f).write 0 (flip k.b), ((k.laid (half k n true) 0 (zs (32 * n))).laid (half k n true) 0 f).wrote 0 (flip k.b)) := rfl
  have c1 : w.cell? ⟨g, 1, none⟩ = some (.int .i64 (hi_ u)) := hv.2
  have HG := hide (show ∀ (k' : Dk) (w' : World), DskIn Q w d k' w' → Blk w' g T cs from fun k' w' h => hB.touch h.2 hg)
  have HC1 := hide h1
  generalize k.laidOk 0 (zs (32 * n)) = b1 at *
  generalize k.laid (half k n true) 0 (zs (32 * n)) = k1 at *
  generalize k1.laidOk 0 f = b2 at *
  generalize k1.laid (half k n true) 0 f = k2 at *
  generalize k2.wrote 0 (flip k.b) = b3 at *
  generalize k2.write 0 (flip k.b) = k3 at *
  have HT := hide hturn
  have HS := hide hsize
  have H1 := hide hlay1
  have H2 := hide hlay2
  have H3 := hide htell
  have hnb : 32 * n ≤ 8192 := by omega
  clear hturn hsize hlay1 hlay2 htell hZ1 hZ2 hdl hbw hin0 hz0 hk1 hbit1 hhalf1 hk2 hbit2 hB h0 h1 hd hk ha hu hx hxo hq hnf hv hbas hn hxl hg
  generalize 32 * n = S at *
  cases u
  all_goals
    simp only [Bool.not_false, Bool.not_true, show hi_ false = 0 from rfl, show hi_ true = 1 from rfl, Int.natCast_zero] at H1 H2 H3 HC1 c1 ⊢
    go_enter Try.func50, Try.ntmps50
    go_wp2_with fail
    refine HS.out.mono ?_
    rintro e w' ⟨rfl, rfl⟩
    go_wp2_with fail
    refine H1.out.mono ?_
    rintro e w2 ⟨rfl, hin1⟩
    have HI1 := hide hin1
    clear hin1
    cases b1 with
    | false =>
      have e := HT.out
      rw [if_pos rfl] at e
      have HEE := hide e
      have HE := hide (HI1.out)
      clear e HT H1 H2 H3 HI1
      go_wp2
      go_ret
      exact Turned.no HEE.out HE.out
    | true =>
      have e := HT.out
      rw [if_neg (by decide)] at e
      have HT2 := hide e
      have HL := hide (H2.out (by first | rfl | trivial) w2 HI1.out)
      clear e HT H1
      go_wp2_with fail
      refine HL.out.mono ?_
      rintro e w3 ⟨rfl, hin2⟩
      have HI2 := hide hin2
      clear hin2
      cases b2 with
      | false =>
        have e := HT2.out
        rw [if_pos rfl] at e
        have HEE := hide e
        clear e HT2 H2 H3 HI1 HL
        go_wp2
        go_ret
        exact Turned.no HEE.out HI2.out
      | true =>
        have e := HT2.out
        rw [if_neg (by decide)] at e
        have HEE := hide e
        have HL2 := hide (H3.out (by first | rfl | trivial) (by first | rfl | trivial) w3 HI2.out)
        clear e HT2 H2 H3 HL
        go_wp2_with fail
        refine HL2.out.mono ?_
        rintro e w4 ⟨rfl, hin3⟩
        have HI3 := hide hin3
        have hb4 := HG.out _ w4 hin3
        have f4 := hb4.frozen 1
        have d4 := (hb4.cell 1).trans HC1.out
        clear hin3 hb4 HL2
        cases b3 with
        | false =>
          go_wp2
          go_ret
          exact Turned.no HEE.out HI3.out
        | true =>
          go_wp2
          go_ret
          exact Turned.yes HEE.out HI3.out rfl
end
end Go.Proofs.Ythoedknnchaiaaa
