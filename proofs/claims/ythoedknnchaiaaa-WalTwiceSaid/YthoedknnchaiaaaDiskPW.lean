/-
  The program's contracts of layer 11: Write.
-/
import Derived.Test.YthoedknnchaiaaaDiskPS
import Derived.Laws.CopyOwn
import Derived.Deep.RegionLaw
namespace Go.Proofs.Ythoedknnchaiaaa
open Go.RowKit
set_option linter.unusedVariables false

/-- What the fuel is enough for; the rest goes. -/
theorem burn_at {w : World} {g s m c n : Nat} {k : Dk} (h : DskAt w g s m c k) (hk : k.ok n) (hd : k.dead = false) :
    Calls Try.prog 52 #[.pointer (some ⟨g, 0, none⟩), .int .i64 32] w fun e w' =>
      e = .returned (.int .i64 (k.front : Int)) ∧ Blk w' g 74 #[.bool true, .slice (some ⟨s, 0, none⟩) m c, .int .i64 k.rest, .bool k.dies, .int .i64 k.written] ∧ Touch (· = g) w w' := by
  have hb := h.1
  have h2 : w.cell? ⟨g, 2, none⟩ = some (.int .i64 k.fuel) := (hb.cell 2).trans rfl
  have h3 : w.cell? ⟨g, 3, none⟩ = some (.bool k.dead) := (hb.cell 3).trans rfl
  have f2 := hb.frozen 2
  have f3 := hb.frozen 3
  have hf := hk.2.2.2.1
  obtain ⟨kb, fuel, dead, written⟩ := k
  simp only at hd h2 h3 hf
  subst hd
  have HB := hide hb
  clear h hk hb
  by_cases h1 : fuel = -1
  · subst h1
    have HE := hide (show Dk.front ⟨kb, -1, false, written⟩ = 32 ∧ Dk.rest ⟨kb, -1, false, written⟩ = -1 ∧ Dk.dies ⟨kb, -1, false, written⟩ = false from ⟨rfl, rfl, rfl⟩)
    go_enter Try.func52, Try.ntmps52
    go_wp2
    go_ret
    rw [HE.out.1, HE.out.2.1, HE.out.2.2]
    exact ⟨rfl, HB.out, Touch.refl _ _⟩
  · by_cases hlt : fuel < 32
    · have HE := hide (show Dk.front ⟨kb, fuel, false, written⟩ = fuel.toNat ∧ Dk.rest ⟨kb, fuel, false, written⟩ = -1 ∧ Dk.dies ⟨kb, fuel, false, written⟩ = true from by
        have e : Dk.dies ⟨kb, fuel, false, written⟩ = true := decide_eq_true ⟨by show 0 ≤ fuel; omega, hlt⟩
        refine ⟨?_, ?_, e⟩
        · unfold Dk.front; rw [if_pos e]
        · unfold Dk.rest; rw [if_pos e])
      have HN := hide (show ((fuel.toNat : Nat) : Int) = fuel by omega)
      go_enter Try.func52, Try.ntmps52
      go_wp2
      go_ret
      rw [HE.out.1, HE.out.2.1, HE.out.2.2, HN.out]
      exact ⟨rfl, (HB.out.store 3 _).store 2 _, ((Touch.refl (· = g) w).setCell (fun _ => rfl) _).setCell (fun _ => rfl) _⟩
    · have HE := hide (show Dk.front ⟨kb, fuel, false, written⟩ = 32 ∧ Dk.rest ⟨kb, fuel, false, written⟩ = fuel - 32 ∧ Dk.dies ⟨kb, fuel, false, written⟩ = false from by
        have e : Dk.dies ⟨kb, fuel, false, written⟩ = false := decide_eq_false (fun h => hlt h.2)
        refine ⟨?_, ?_, e⟩
        · unfold Dk.front; rw [if_neg (by rw [e]; simp)]
        · unfold Dk.rest; rw [if_neg (by rw [e]; simp), if_pos (by show 0 ≤ fuel; omega)])
      have hw : IntKind.i64.wrap (fuel - 32) = fuel - 32 := by rw [IntKind.wrap_i64]; omega
      go_enter Try.func52, Try.ntmps52
      go_wp2
      go_ret
      rw [HE.out.1, HE.out.2.1, HE.out.2.2]
      exact ⟨rfl, HB.out.store 2 _, (Touch.refl (· = g) w).setCell (fun _ => rfl) _⟩

/-- copy into a block that is known, one step of a region; what lies elsewhere is as it was. -/
theorem step_copy_blk {P : Program} {ops : Array Oper} {o : Oper} {a : Act} {w : World} {K : Act → World → Prop} {Q : Exit → Act → World → Prop} {E : Prop} (hgd : o.guard = none) (d s : Operand) (dT sT : TypeId)
    (ho : o.op = .call { callee := .builtin .copy, args := #[d, s], argTypes := #[dT, sT] }) (elem : TypeId) (hu : P.underlying dT = some (.slice elem)) (hsz : (P.info? elem).map (·.size) = some 1)
    (g off dLen dCap : Nat) (ad : Addr) (sLen sCap : Nat) (hd : a.eval d = .slice (some ⟨g, off, none⟩) dLen dCap) (hs : a.eval s = .slice (some ad) sLen sCap)
    (cur : Array Value) (t : TypeId) (hg : Blk w g t cur) (cs : List Value) (n : Nat) (hl : cs.length = n) (hn : n = Nat.min sLen dLen)
    (hsrc : ∀ j v, cs[j]? = some v → w.cell? (ad.add j) = some v) (hfit : off + cs.length ≤ cur.size) (h1 : ∀ v ∈ cs, v.oneCell' = true)
    (g2 : Nat) (t2 : TypeId) (C : Array Value) (hne : g2 ≠ g) (hg2 : Blk w g2 t2 C)
    (h : ∀ w', Hid (Blk w' g t (splice cur.toList off cs).toArray) → Hid (Blk w' g2 t2 C) → Hid (Touch (· = g) w w') → (∀ i, w'.cell? ⟨g2, i, none⟩ = C[i]?) → (∀ i, w'.frozen? ⟨g2, i, none⟩ = false) → K (a.put o.dst (.int .i64 (n : Int))) w') :
    if Region.wanted o (yielded ops a.tmps) = true then Oper.wp P o a w K Q else E := by
  subst hl
  have hw : Region.wanted o (yielded ops a.tmps) = true := by simp [Region.wanted, hgd]
  rw [if_pos hw]
  have hrun := run_copy_row (P := P) w dT sT o.type elem g off dLen dCap ad sLen sCap cur t cs hu hsz hg hn hsrc hfit h1
  have ht : Touch (· = g) w (w.setRow g (cur.toList.take off ++ cs ++ cur.toList.drop (off + cs.length)).toArray) :=
    ⟨rfl, rfl, rfl, by simp [World.setRow], fun k hk hne => setRow_other w g k _ hne⟩
  have hb2 := hg2.touch ht hne
  unfold Oper.wp
  simp [execOp, ho, resolve, invoke, builtin, hd, hs, hrun, Result.andThen]
  have hb : Blk (w.setRow g (cur.toList.take off ++ cs ++ cur.toList.drop (off + cs.length)).toArray) g t (splice cur.toList off cs).toArray := by
    have := setRow_heap w g cur (cur.toList.take off ++ cs ++ cur.toList.drop (off + cs.length)).toArray t (0, 0) hg
    unfold splice
    rw [← List.append_assoc]
    exact this
  have := h _ hb hb2 ht (fun i => hb2.cell i) (fun i => hb2.frozen i)
  rw [List.append_assoc] at this
  exact this
theorem splice_lay {L : List Value} {b y : List Int} {N off : Nat} (h : L.take N = octs b) (hN : b.length = N) (hfit : off + y.length ≤ N) : (splice L off (octs y)).take N = octs (lay b off y) := by
  obtain ⟨R, hR⟩ : ∃ R, R = L.drop N := ⟨_, rfl⟩
  have e : L = octs b ++ R := by rw [← h, hR, List.take_append_drop]
  have hl : (octs b).length = N := by rw [octs_len, hN]
  have hy : (octs y).length = y.length := octs_len y
  have h1 : L.take off = octs (b.take off) := by rw [e, List.take_append_of_le_length (by omega), octs_take]
  have h2 : L.drop (off + (octs y).length) = octs (b.drop (off + y.length)) ++ R := by rw [hy, e, List.drop_append_of_le_length (by omega), octs_drop]
  have e2 : splice L off (octs y) = octs (lay b off y) ++ R := by
    unfold splice lay
    rw [h1, h2, ← octs_append, ← octs_append, List.append_assoc, List.append_assoc]
  have hl2 : (octs (lay b off y)).length = N := by rw [octs_len, lay_len (by omega), hN]
  rw [e2, List.take_append_of_le_length (by omega), List.take_of_length_le (by omega)]
theorem length_splice' (L : List Value) (off : Nat) (cs : List Value) (h : off + cs.length ≤ L.length) : (splice L off cs).toArray.size = L.length := by
  rw [List.size_toArray, length_splice _ _ _ h]

theorem dwrite_any {P Q : Nat → Prop} {d m : Nat} {k : Dk} (i : Int) (A : Option Addr) (n c : Nat) (x : List Int) (w : World) (h : Dsk w P d k) (hk : k.ok m) (hi : I64' i) (hx : Row w Q A n c (octs x)) (ho : Octs x) (hq : ∀ b, Q b → b < w.heap.size → ¬ P b) :
    Calls Try.prog 29 #[.pointer (some ⟨d, 0, none⟩), .int .i64 i, .slice A n c] w fun e w' => DDid Dsk P d (k.write i x) (.bool (k.wrote i x)) w w' e := by
  obtain ⟨s, m', sc, hd, hP⟩ := h
  obtain rfl := hd.secs hk
  have hxl : x.length = n := by have := hx.1; rwa [octs_len] at this
  by_cases hm : k.may i x
  · have hwr : k.write i x = ⟨lay k.b (32 * i.toNat) (x.take k.front), k.rest, k.dies, IntKind.i64.wrap (k.written + (k.front : Int))⟩ := if_pos hm
    have hwo : k.wrote i x = !k.dies := by unfold Dk.wrote; rw [decide_eq_true hm]; rfl
    obtain ⟨h0, h1, h2, h3, h4⟩ := Dk.may_room hk hm
    have hhas : decide (k.has i) = true := decide_eq_true hm.1
    obtain ⟨j, rfl⟩ := Int.eq_ofNat_of_zero_le h0
    obtain rfl : n = 32 := by omega
    have hj : j < m := by simpa using h1
    have hfr := k.front_le
    obtain ⟨xb, xo, rfl, hxQ, hxlt, hxc⟩ := hx.some_ (by omega)
    have hcap := hx.2.1
    have hcb := hx.2.2.1
    have RE := hide (show Calls Try.prog 51 #[.pointer (some ⟨d, 0, none⟩), .int .i64 (j : Int)] w fun e w' => e = .returned (.bool true) ∧ w = w' from by
      have := reaches_at (j : Int) hd hk hi
      rwa [hhas] at this)
    have BU := hide (burn_at hd hk h4)
    have hmc : m ≤ sc := by obtain ⟨_, _, h, _⟩ := hd.2.1; exact h
    have hscb : sc ≤ 9223372036854775807 := by obtain ⟨_, _, _, h, _⟩ := hd.2.1; exact h
    have hdies : decide ((k.front : Int) = 32) = !k.dies := by
      unfold Dk.front
      cases hdd : k.dies with
      | true =>
        rw [if_pos rfl]
        have := of_decide_eq_true (show decide (0 ≤ k.fuel ∧ k.fuel < 32) = true from hdd)
        exact decide_eq_false (by omega)
      | false =>
        rw [if_neg (by simp)]
        rfl
    have HD := hide hd
    have HP := hide hP
    have HX := hide hx
    have HXQ := hide (fun (e : xb = d ∨ xb = s) => hq xb hxQ hxlt ((hP xb).2 e))
    have HWR := hide hwr
    have HWO := hide hwo
    have HDI := hide hdies
    have HXL := hide hxl
    have HBL := hide (hd.2.1.len)
    have HXLT := hide hxlt
    clear hd hk hP hx hq hm hwr hwo h0 h1 h2 h3 h4 hhas hdies hxc hxQ hxl ho hxlt hi
    rw [HWR.out, HWO.out, ← HDI.out]
    generalize k.front = F at *
    go_enter Try.func29, Try.ntmps29
    go_wp2_with fail
    refine RE.out.mono ?_
    rintro e w' ⟨rfl, rfl⟩
    go_wp2_with fail
    refine BU.out.mono ?_
    rintro e w1 ⟨rfl, hb1, ht1⟩
    obtain ⟨cur, hs1⟩ := HD.out.2.1.keep (ht1.block s HD.out.lt.2 fun e => HD.out.2.2 e.symm)
    have q1 : w1.drew.cell? ⟨d, 1, none⟩ = some (.slice (some ⟨s, 0, none⟩) m sc) := (hb1.drew.cell 1).trans rfl
    have q4 : w1.drew.cell? ⟨d, 4, none⟩ = some (.int .i64 k.written) := (hb1.drew.cell 4).trans rfl
    have HB1 := hide hb1
    have HS1 := hide hs1
    have HT1 := hide ht1
    have hfit : j * 32 + F ≤ cur.size := by
      have := hs1.2.2.2.1
      have h32 : j * 32 + 32 ≤ m * 32 := by omega
      have : m * 32 ≤ sc * 32 := Nat.mul_le_mul_right _ hmc
      omega
    have hcl : (octs (x.take F)).length = F := by rw [octs_len, List.length_take, HXL.out]; omega
    have hsrc : ∀ i v, (octs (x.take F))[i]? = some v → w1.drew.cell? ((⟨xb, xo, none⟩ : Addr).add i) = some v := fun i v hv => by
      have hr : Row w1.drew (fun b => b = xb) (some ⟨xb, xo, none⟩) 32 c (octs x) := by
        have h1 := HX.out.1
        have h2 := HX.out.2.1
        have h3 := HX.out.2.2.1
        obtain ⟨b, o, e, hQ, hlt, hc⟩ := HX.out.some_ (by omega)
        injection e with e
        injection e with e1 e2
        subst e1 e2
        refine ⟨h1, h2, h3, .inr ⟨_, _, rfl, rfl, fun j hj => ?_⟩⟩
        rw [← hc j hj]
        exact World.cell?_of_block (a := ⟨_, _, none⟩) (ht1.block _ hlt fun e => HXQ.out (.inl e))
      refine hr.add_cell ?_
      rw [← octs_take] at hv
      rw [List.getElem?_take] at hv
      split at hv
      · exact hv
      · cases hv
    have HF := hide hfit
    have HCL := hide hcl
    have HSRC := hide hsrc
    have hF : F ≤ c := by omega
    have HMIN := hide (show F = Nat.min F 32 from (Nat.min_eq_left hfr).symm)
    have FIN := hide (fun (w4 : World) (u : Int) (B : Bool) (hu : u = IntKind.i64.wrap (k.written + (F : Int))) (hB : B = decide ((F : Int) = 32)) (h4 : Hid (Blk w4 s 80 (splice cur.toList (j * 32) (octs (x.take F))).toArray)) (hb4 : Hid (Blk w4 d 74 #[.bool true, .slice (some ⟨s, 0, none⟩) m sc, .int .i64 k.rest, .bool k.dies, .int .i64 k.written])) (ht4 : Hid (Touch (· = s) w1.drew w4)) =>
      show DDid Dsk P d ⟨lay k.b (32 * ((j : Int)).toNat) (x.take F), k.rest, k.dies, IntKind.i64.wrap (k.written + (F : Int))⟩ (.bool (decide ((F : Int) = 32))) w (w4.setCell ⟨d, 4, none⟩ (.int .i64 u)) (.returned (.bool B)) from by
        subst hu hB
        obtain ⟨-, g1, g2, g3, g5⟩ := HS1.out
        have hcl : (octs (x.take F)).length = F := HCL.out
        have hyl : (x.take F).length = F := by rw [octs_len] at hcl; exact hcl
        refine did_of HP.out ⟨hb4.out.store 4 _, ⟨_, h4.out.far (p := ⟨d, 4, none⟩) (fun e => HD.out.2.2 e.symm) _, g1, g2, ?_, ?_⟩, HD.out.2.2⟩ ?_
        · rw [length_splice' _ _ _ (by rw [hcl, Array.length_toList]; exact HF.out), Array.length_toList, g3]
        · show ((splice cur.toList (j * 32) (octs (x.take F))).toArray).toList.take (m * 32) = _
          rw [List.toList_toArray, splice_lay g5 HBL.out (by rw [hyl]; omega), show 32 * ((j : Int)).toNat = j * 32 by omega]
        · exact (((HT1.out.drew.mono (Q := fun b => b = d ∨ b = s) fun _ _ h => .inl h).trans (Q := fun b => b = d ∨ b = s) (ht4.out.mono fun _ _ h => .inr h) fun _ _ h => h).setCell (fun _ => .inl rfl) _))
    clear hb1 hs1 ht1 hfit hcl hsrc RE BU
    go_wp2_with fail
    go_region_law (refine step_copy_blk rfl (.tmp 31) (.tmp 34) 32 32 rfl 5 Try.underlying32 (by kernel_rfl) s (j * 32) _ _ _ _ _ rfl rfl cur 80 HS1.out.1.drew (octs (x.take F)) F HCL.out HMIN.out HSRC.out (by rw [HCL.out]; exact HF.out) (octs_one _) d 74 _ HD.out.2.2 HB1.out.drew ?_; intro w4 hg4 hb4 ht4 hc4 hf4)
    all_goals go_wp2
    all_goals go_ret
    all_goals exact FIN.out w4 (wrap64 (k.written + (F : Int))) ((F : Int) == 32) (IntWalk.i64_left _).symm rfl hg4 hb4 ht4
  · have hwr : k.write i x = k := if_neg hm
    have hwo : k.wrote i x = false := by unfold Dk.wrote; rw [decide_eq_false hm]; rfl
    rw [hwr, hwo]
    have RE := hide (reaches_at i hd hk hi)
    have FIN := hide (did_of hP hd (Touch.refl _ w) (v := .bool false))
    have HM := hide (fun (h1 : k.has i) (h2 : n = 32) => hm ⟨h1, by omega⟩)
    clear hd hk hP hx hq hm hwr hwo ho hxl
    cases hh : decide (k.has i) with
    | false =>
      rw [hh] at RE
      go_enter Try.func29, Try.ntmps29
      go_wp2_with fail
      refine RE.out.mono ?_
      rintro e w' ⟨rfl, rfl⟩
      go_wp2
      go_ret
      exact FIN.out
    | true =>
      rw [hh] at RE
      have hn : ¬ (n = 32) := fun h => HM.out (of_decide_eq_true hh) h
      have hn2 : decide ((n : Int) = 32) = false := decide_eq_false (by omega)
      clear hh HM
      go_enter Try.func29, Try.ntmps29
      go_wp2_with fail
      refine RE.out.mono ?_
      rintro e w' ⟨rfl, rfl⟩
      go_wp2
      go_ret
      exact FIN.out
end Go.Proofs.Ythoedknnchaiaaa
