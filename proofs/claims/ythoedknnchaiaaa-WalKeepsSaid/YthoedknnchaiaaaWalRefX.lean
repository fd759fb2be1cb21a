/-
  The reference's log: Swap.
-/
import Derived.Test.YthoedknnchaiaaaWalRefA
namespace Go.Proofs.Ythoedknnchaiaaa
open Go.RowKit
set_option linter.unusedVariables false

set_option maxRecDepth 100000 in
theorem xor_one : ∀ i : Fin 256, bits .xor .u8 ((i.val : Nat) : Int) 1 = if ((i.val : Nat) : Int) % 2 = 1 then ((i.val : Nat) : Int) - 1 else ((i.val : Nat) : Int) + 1 := by decide
theorem xor_1 {y : Int} (h : 0 ≤ y ∧ y < 256) : bits .xor .u8 y 1 = if y % 2 = 1 then y - 1 else y + 1 := by
  have := xor_one ⟨y.toNat, by omega⟩
  simp only [Int.toNat_of_nonneg h.1] at this
  exact this
theorem make_zs (n : Nat) (hn : n ≤ 100000) : ∃ Z : Array Value, Z.size = n ∧ Z.toList = octs (zs n) ∧ ∀ W : World, (Instr.makeSlice 32 (.int .i64 (n : Int)) (.int .i64 (n : Int))).run Try.prog W = .ok (.slice (some ⟨W.heap.size, 0, none⟩) n n) (W.alloc (.cells Z 5)) := by
  obtain ⟨i5, hi, hz0, hz1, hz2⟩ := info_parts info5
  have hmk := fun W => run_make (P := Try.prog) W 32 5 i5 (.int .u8 0) Try.underlying32 hi hz0 .i64 .i64 (n : Int) (n : Int) (by omega) (by omega) (by rw [hz2]; omega) (by omega)
  rw [hz1, Int.toNat_natCast, Nat.mul_one] at hmk
  exact ⟨madeCells #[.int .u8 0] n, (made_zs n).1, (made_zs n).2, hmk⟩
theorem row_zs {w : World} {n s : Nat} {Z : Array Value} (hb : Blk w s 5 Z) (h1 : Z.size = n) (h2 : Z.toList = octs (zs n)) (hn : n ≤ 100000) : Row w (· = s) (some ⟨s, 0, none⟩) n n (octs (zs n)) := by
  refine ⟨by rw [octs_len, zs_len], Nat.le_refl _, by omega, .inr ⟨s, 0, rfl, rfl, fun j hj => ?_⟩⟩
  rw [Nat.zero_add, hb.cell j, ← h2]
  simp

/-- One record alone. -/
theorem RLog.alone {R : Nat → Prop} {l g a c : Nat} {k : Dk} {m : Lm} {cur : Array Value} {n sA aA capA : Nat} {x : List Int} {w W : World} (hxo : Octs x) (hxn : x.length = n) (d : l ≠ g ∧ l ≠ a ∧ R l ∧ R g ∧ R a ∧ ∀ b, R b → b < w.heap.size) (hk : Rk W g a c cur k)
    (hb : Blk W l 64 #[.pointer (some ⟨g, 0, none⟩), .int .i64 (m.n : Int), .int .i64 ((n : Int) + 7), .slice (some ⟨sA, 0, none⟩) 1 1, .int .i64 1, .slice none 0 0])
    (ho : W.ownsRow 0 32 1 (.slice (some ⟨sA, 0, none⟩) 1 1) 1 [.slice (some ⟨aA, 0, none⟩) n capA]) (hr : Row W (· = aA) (some ⟨aA, 0, none⟩) n capA (octs x)) (hne : sA ≠ aA) (h1 : w.heap.size ≤ sA ∧ sA < W.heap.size) (h2 : w.heap.size ≤ aA ∧ aA < W.heap.size) (ht : Touch R w W) :
    RStep R l g a c k ⟨m.n, [x], 1⟩ (.int .i64 0) w W (.returned (.int .i64 0)) := by
  obtain ⟨d1, d2, d3, d4, d5, d6⟩ := d
  have e1 : (⟨m.n, [x], 1⟩ : Lm).pend = [] := rfl
  have e2 : ((⟨m.n, [x], 1⟩ : Lm).at_ : Int) = (n : Int) + 7 := by
    show (((allF [x]).length : Nat) : Int) = _
    rw [allF_one, frameOf_len, hxn]
    omega
  have l1 := d6 l d3
  have l2 := d6 g d4
  have l3 := d6 a d5
  have hs := ht.size
  refine ⟨rfl, ht, fun b => R b ∨ (w.heap.size ≤ b ∧ b < W.heap.size), ⟨cur, some ⟨sA, 0, none⟩, 1, none, 0, [.slice (some ⟨aA, 0, none⟩) n capA], hk, ?_, ⟨d1, d2, .inl d3, .inl d4, .inl d5, fun b hb => hb.elim (fun h => by have := d6 b h; omega) (fun h => h.2)⟩, ?_, ho, ?_, ?_, ?_⟩, fun b hb => hb.elim .inl (fun h => .inr h.1)⟩
  · rw [e1, e2]
    exact hb
  · rw [e1]
    exact World.ownsRow_nil W 0 _ 1
  · rw [e1]
    intro b hb
    cases hb
  · intro b hb
    injection hb with hb
    have hb : sA = b := hb
    subst hb
    exact ⟨.inr h1, by omega, by omega, by omega, by rw [e1]; simp [Value.ownBlock]⟩
  · refine Vals.snoc (Vals.nil W _) (hr.mono fun b hb => ?_) hxo
    subst hb
    exact ⟨.inr h2, by omega, by omega, by omega, by rw [e1]; simp [Value.ownBlock], fun h => by injection h with h; exact hne h⟩

set_option maxHeartbeats 2000000 in
set_option maxRecDepth 100000 in
theorem refswap_any {R Q : Nat → Prop} {l g a c : Nat} {k : Dk} {m : Lm} (A : Option Addr) (n cx : Nat) (x : List Int) (w : World) (h : RLog R w l g a c k m) (hk : k.ok (2 * m.n + 1)) (hx : Row w Q A n cx (octs x)) (hxo : Octs x) (hq : ∀ b, Q b → b < w.heap.size → ¬ R b) (hnb : n ≤ 140737488355000) :
    Calls Try.prog 34 #[.pointer (some ⟨l, 0, none⟩), .slice A n cx] w fun e w' => RStep R l g a c (swapL k m x).1 (swapL k m x).2.1 (.int .i64 (swapL k m x).2.2) w w' e := by
  obtain rfl : n = x.length := by rw [← hx.1, octs_len]
  have hn1 := hk.2.1
  have HS := hide (fun (W : World) (hb : Below w.heap.size w W) (v : Value) => h.still hb v)
  by_cases h0 : x.length = 0
  · have e1 : swapL k m x = (k, m, 4) := by unfold swapL; rw [if_pos h0]
    rw [e1]
    generalize x.length = n at *
    subst h0
    clear h hx e1
    go_enter Try.func34, Try.ntmps34
    go_wp2
    go_ret
    exact HS.out _ (Below.refl _ _) _
  by_cases h4 : 4096 < x.length
  · have e1 : swapL k m x = (k, m, 5) := by unfold swapL; rw [if_neg h0, if_pos h4]
    rw [e1]
    generalize hxl : x.length = n at *
    have h0' : ((n : Int) == 0) = false := by rw [beq_eq_false_iff_ne]; omega
    have h4' : (4096 : Int) < (n : Int) := by omega
    clear h hx e1
    go_enter Try.func34, Try.ntmps34
    go_wp2
    go_ret
    exact HS.out _ (Below.refl _ _) _
  have hfl := frameOf_len x
  have hfo := frameOf_octs hxo
  have HX0 := hide hx
  have HXO := hide hxo
  have HR0 := hide h
  have HQ := hide hq
  have HK := hide hk
  have h0' : ((x.length : Int) == 0) = false := by rw [beq_eq_false_iff_ne]; omega
  have h4' : ¬ (4096 : Int) < (x.length : Int) := by omega
  have HPUT := hide (refframe_put Q A _ cx x w hx hxo hnb)
  have hxb : x.length ≤ 4096 := by omega
  have hx1 : 1 ≤ x.length := by omega
  have HFL := hide hfl
  have HFO := hide hfo
  have hhl := half_lt hk true
  have HKL := hide hk.1
  have hkl32 : 32 ≤ k.b.length := by have := hk.1; omega
  generalize hN : x.length = n at *
  clear h hx hxo hq h0 h4 hfo
  go_enter Try.func34, Try.ntmps34
  go_wp2_with fail
  refine HPUT.out.mono ?_
  rintro e w2 ⟨A6, c6, rfl, hown, hb2⟩
  rw [hfl] at hown ⊢
  have HOWN := hide hown
  have HB2 := hide hb2
  have HR2 := hide (HR0.out.keep HB2.out.size (fun b hb => by
    obtain ⟨cur, RA, rc, PA, pc, vs, h1, h2, h3, h4, h5, h6, h7, h8⟩ := HR0.out
    exact HB2.out.block b (h3.2.2.2.2.2 b hb)))
  have hlw : ∀ b, R b → b < w.heap.size := by
    obtain ⟨_, _, _, _, _, _, _, _, h3, _⟩ := HR0.out
    exact h3.2.2.2.2.2
  clear hown hb2 HPUT
  obtain ⟨cur, RA, rc, PA, pc, vs, h1, h2, h3, h4, h5, h6, h7, h8⟩ := HR2.out
  obtain ⟨d1, d2, d3, d4, d5, d6⟩ := h3
  have c0 := (h2.cell 0).trans rfl
  have c1 := (h2.cell 1).trans rfl
  have g2 := (h1.1.cell 2).trans rfl
  have g0 := (h1.1.cell 0).trans rfl
  have hag := h1.2.2.1
  have HK1 := hide h1
  have HB := hide h2
  clear h1 h2 h4 h5 h6 h7 h8
  by_cases hf : 32 * m.n < n + 7
  · have e1 : swapL k m x = (k, m, 10) := by unfold swapL; rw [if_neg (by omega), if_neg (by omega), if_pos (by rw [hN]; exact hf)]
    have HE := hide e1
    have hf' : 32 * (m.n : Int) < (n : Int) + 7 := by omega
    clear e1
    go_wp2
    go_ret
    rw [HE.out]
    exact HS.out _ HB2.out _
  have hf' : ¬ 32 * (m.n : Int) < (n : Int) + 7 := by omega
  by_cases hd : k.dead = true
  · have e1 : swapL k m x = (k, m, 19) := by unfold swapL; rw [if_neg (by omega), if_neg (by omega), if_neg (by rw [hN]; exact hf), if_pos hd]
    have HE := hide e1
    rw [hd] at g2
    clear e1
    go_wp2
    go_ret
    rw [HE.out]
    exact HS.out _ HB2.out _
  have hd0 : k.dead = false := by simpa using hd
  rw [hd0] at g2
  have HHF := hide (refhalf_any (n := m.n) true _ _ _ _ w2 HK1.out hk HB.out)
  go_wp2_with fail
  refine HHF.out.mono ?_
  rintro e w3 ⟨rfl, rfl⟩
  obtain ⟨P, hP⟩ : ∃ P, half k m.n true = 32 * P := ⟨_, rfl⟩
  rw [hP]
  clear HHF
  have hlen32 : 32 ≤ k.b.length := by omega
  have cE0 : (w3.alloc (.cells #[] 5)).cell? ⟨l, 0, none⟩ = some (.pointer (some ⟨g, 0, none⟩)) := ((HB.out.alloc _).cell 0).trans rfl
  have gE0 : (w3.alloc (.cells #[] 5)).cell? ⟨g, 0, none⟩ = some (.slice (some ⟨a, 0, none⟩) k.b.length c) := ((HK1.out.1.alloc _).cell 0).trans rfl
  have hs1 : ∀ W, (Instr.slice 32 (.slice (some ⟨a, 0, none⟩) k.b.length c) none (some (.int .i64 32)) none).run Try.prog W = .ok (.slice (some ⟨a, 0, none⟩) 32 c) W := fun W => front_run W _ k.b.length c 32 (by have := HK1.out.2.2.2.1; omega)
  have hE := World.ownsRow_lit (base := w3.heap.size) (e := 5) (size := 1) w3 #[] 0 (Nat.le_refl _) (by unfold maxLen; omega) rfl
  have hra : Row (w3.alloc (.cells #[] 5)) (· = a) (some ⟨a, 0, none⟩) 32 c (octs (k.b.take 32)) := by
    rw [← octs_take]
    exact (HK1.out.row.front hlen32).alloc _
  have hSE : Since w3 (w3.alloc (.cells #[] 5)) := (Since.refl w3).alloc _
  obtain ⟨aF, capF, curF, wF, hrunF, hF1, hF2, hF3, hF4, hF5, hF6, hgr, hor⟩ := append_empty hE hra (by omega) (Below.size (show Below w3.heap.size w3 _ from hSE)) 32
  have hSF := since_grown hSE hgr (Nat.le_refl _)
  have HSF := hide hSF
  have HF2 := hide hF2
  clear hE hra hSE hgr hor hSF hF2
  have hya : 0 ≤ k.b.getD 0 0 ∧ k.b.getD 0 0 < 256 := HK.out.2.2.1.getD 0
  have hF0 : curF[0]? = some (.int .u8 (k.b.getD 0 0)) := by
    have e : curF.toList[0]? = (octs (k.b.take 32))[0]? := by rw [← hF6, List.getElem?_take, if_pos (by omega)]
    rw [Array.getElem?_toList] at e
    rw [e, octs_at _ _ (by rw [List.length_take]; omega), List.getD_eq_getElem?_getD, List.getElem?_take, if_pos (by omega), ← List.getD_eq_getElem?_getD]
  have cF0 := (HF2.out.cell 0).trans hF0
  have fF0 := HF2.out.frozen 0
  have hxy : bits .xor .u8 (k.b.getD 0 0) 1 = (flip k.b).getD 0 0 := by rw [xor_1 hya]; rfl
  have HFG := hide (HF2.out.store 0 (.int .u8 ((flip k.b).getD 0 0)))
  have hcG : (curF.setIfInBounds 0 (.int .u8 ((flip k.b).getD 0 0))).toList.take 32 = octs (flip k.b) := by
    rw [Array.toList_setIfInBounds, List.take_set, hF6]
    show (octs (k.b.take 32)).set 0 (.int .u8 ((flip k.b).getD 0 0)) = octs (flip k.b)
    cases hb : k.b with
    | nil => rw [hb] at hkl32; simp at hkl32
    | cons y t => simp [octs, flip]
  have HCG := hide hcG
  have hag3 : ∀ b, w3.heap.size ≤ b → b ≠ g ∧ b ≠ a := fun b hb => ⟨fun e => by have := HK1.out.1.lt; omega, fun e => by have := HK1.out.2.1.lt; omega⟩
  have hTG := ((Touch.of_below (show Below w3.heap.size w3 wF from HSF.out)).mono (Q := fun n => n = g ∨ n = a) fun _ _ h => h.elim).setCell (p := ⟨aF, 0, none⟩) (fun h => by have h : aF < w3.heap.size := h; omega) (.int .u8 ((flip k.b).getD 0 0))
  have HTG := hide hTG
  have hcFG : (curF.setIfInBounds 0 (.int .u8 ((flip k.b).getD 0 0))).size = capF := by rw [Array.size_setIfInBounds]; exact hF5
  clear hF0 hcG hTG
  generalize (flip k.b).getD 0 0 = y' at *
  generalize curF.setIfInBounds 0 (.int .u8 y') = curG at *
  generalize k.b.getD 0 0 = y at *
  have cG1 := ((HB.out.touch HTG.out (fun h => h.elim d1 d2)).cell 1).trans rfl
  obtain ⟨Z, hZ1, hZ2, hZ3⟩ := make_zs (32 * m.n) (by omega)
  have hmn : ((32 * m.n : Nat) : Int) = 32 * (m.n : Int) := by omega
  rw [hmn] at hZ3
  obtain ⟨wG, hwG⟩ : ∃ wG, wG = wF.setCell ⟨aF, 0, none⟩ (.int .u8 y') := ⟨_, rfl⟩
  rw [← hwG] at HTG HFG
  have hBH : Below w3.heap.size w3 (wG.alloc (.cells Z 5)) := by
    rw [hwG]
    exact ((show Below w3.heap.size w3 wF from HSF.out).setCell (p := ⟨aF, 0, none⟩) hF1 _).alloc (by have := (show Below w3.heap.size w3 wF from HSF.out).size; simpa using this) _
  have hGs : w3.heap.size ≤ wG.heap.size := HTG.out.size
  have hKH : Rk (wG.alloc (.cells Z 5)) g a c cur k := HK1.out.keep (hBH.block g HK1.out.1.lt) (hBH.block a HK1.out.2.1.lt)
  have hlay := reflay_any (Q := (· = wG.heap.size)) P 0 (some ⟨wG.heap.size, 0, none⟩) (32 * m.n) (32 * m.n) (zs (32 * m.n)) _ _ _ _ _ hKH hk hd0 (HB.out.below hBH HB.out.lt) ⟨d1, d2⟩ (row_zs (Blk.new wG _ Z) hZ1 hZ2 (by omega)) (zs_octs _) (fun b hb _ => by rw [hb]; exact hag3 _ hGs) (by rw [zs_len]; omega)
  rw [show ((32 * P : Nat) : Int) = 32 * (P : Int) by omega, show ((0 : Nat) : Int) = (0 : Int) from rfl, show wG.heap.size = wF.heap.size by rw [hwG]; simp] at hlay
  have HTH := hide (HTG.out.alloc (.cells Z 5))
  have hzl : 32 * P + 0 + (zs (32 * m.n)).length ≤ k.b.length := by rw [zs_len]; omega
  have hnext : ∀ (k' : Dk) (W : World), Touch (fun n => n = g ∨ n = a) w3 W → (∃ cur', Rk W g a c cur' k') → RStep R l g a c k' m (.int .i64 19) w W (.returned (.int .i64 19)) := fun k' W ht hr =>
    ⟨rfl, ((Touch.of_below HB2.out).mono (Q := R) fun _ _ h => h.elim).trans (ht.mono (Q := R) fun n _ h => h.elim (fun h => h ▸ d4) (fun h => h ▸ d5)) fun _ _ h => h, R, HR2.out.disk ht hr, fun b hb => .inl hb⟩
  have HNO := hide hnext
  have HWG := hide hwG
  clear hKH hBH hnext hwG
  cases hw1 : k.laidOk 0 (zs (32 * m.n)) with
  | false =>
    have e1 : swapL k m x = (k.laid (32 * P) 0 (zs (32 * m.n)), m, 19) := by unfold swapL; rw [if_neg (by omega), if_neg (by omega), if_neg (by rw [hN]; exact hf), if_neg hd, if_pos hw1, hP]
    have HE := hide e1
    rw [hw1] at hlay
    have HL := hide hlay
    clear hlay e1
    go_wp2_with (at_builtin; refine wpList_plain rfl fun K hK => ?_; refine append_op _ _ _ rfl rfl rfl rfl hrunF ?_; refine hK _ _ ?_)
    go_wp2_with fail
    rw [← HWG.out]
    refine HL.out.mono ?_
    rintro e w4 ⟨rfl, hk4, ht4⟩
    go_wp2
    go_ret
    rw [HE.out]
    exact HNO.out _ _ (HTH.out.trans ht4 fun _ _ h => h) hk4
  | true =>
    rw [hw1] at hlay
    have HL := hide hlay
    have HD1 := hide (laid_alive (p := 32 * P) hw1 hd0)
    have HK2 := hide (laid_ok (p := 32 * P) (at_ := 0) HK.out (zs_octs (32 * m.n)) hzl)
    have hsw : swapL k m x = (if (k.laid (32 * P) 0 (zs (32 * m.n))).laidOk 0 (frameOf x) = false then ((k.laid (32 * P) 0 (zs (32 * m.n))).laid (32 * P) 0 (frameOf x), m, 19)
        else (((k.laid (32 * P) 0 (zs (32 * m.n))).laid (32 * P) 0 (frameOf x)).write 0 (flip k.b), if ((k.laid (32 * P) 0 (zs (32 * m.n))).laid (32 * P) 0 (frameOf x)).wrote 0 (flip k.b) = true then (⟨m.n, [x], 1⟩, 0) else (m, 19))) := by
      unfold swapL
      rw [if_neg (by omega), if_neg (by omega), if_neg (by rw [hN]; exact hf), if_neg hd, if_neg (by rw [hw1]; decide), hP]
    have HSW := hide hsw
    have hft := half_lt hk true
    have HGA := hide (HTG.out)
    have hT4 : ∀ (w4 : World), Touch (fun n => n = g ∨ n = a) (wG.alloc (.cells Z 5)) w4 → Touch (fun n => n = g ∨ n = a) wG w4 := fun w4 h => ((Touch.refl _ wG).alloc _).trans h fun _ _ h => h
    have HT4 := hide hT4
    clear hlay hsw hT4
    generalize k.laid (32 * P) 0 (zs (32 * m.n)) = k1 at *
    have hk2 := HK2.out
    have hl2 : ∀ (w4 : World) (cur4 : Array Value), Touch (fun n => n = g ∨ n = a) w3 w4 → Rk w4 g a c cur4 k1 → Calls Try.prog 54 #[.pointer (some ⟨l, 0, none⟩), .int .i64 (32 * (P : Int)), .int .i64 0, .slice A6 (n + 7) c6] w4 fun e w' => RDid g a c (k1.laid (32 * P) 0 (frameOf x)) (.bool (k1.laidOk 0 (frameOf x))) w4 w' e := fun w4 cur4 ht hr => by
      have h := reflay_any (Q := fun b => (Value.slice A6 (n + 7) c6).ownBlock = some b) P 0 A6 (n + 7) c6 (frameOf x) _ _ _ _ w4 hr hk2 HD1.out (HB.out.touch ht (fun h => h.elim d1 d2)) ⟨d1, d2⟩
        ((own_row8 HOWN.out).touch ht (fun b hb _ h => by have := own_block HOWN.out b hb; have := hlw g d4; have := hlw a d5; omega)) HFO.out (fun b hb _ => by have := own_block HOWN.out b hb; have := hlw g d4; have := hlw a d5; omega) (by have := hk2.1; rw [HFL.out]; have := HKL.out; omega)
      rw [show ((32 * P : Nat) : Int) = 32 * (P : Int) by omega, show ((0 : Nat) : Int) = (0 : Int) from rfl] at h
      exact h
    have hk3 := laid_ok (p := 32 * P) (at_ := 0) hk2 HFO.out (by have := hk2.1; rw [HFL.out]; have := HKL.out; omega)
    have HK3 := hide hk3
    clear hk2 hk3
    cases hw2 : k1.laidOk 0 (frameOf x) with
    | false =>
      have HE := hide (show swapL k m x = (k1.laid (32 * P) 0 (frameOf x), m, 19) by rw [HSW.out, if_pos hw2])
      rw [hw2] at hl2
      have HL2 := hide hl2
      clear hl2
      go_wp2_with (at_builtin; refine wpList_plain rfl fun K hK => ?_; refine append_op _ _ _ rfl rfl rfl rfl hrunF ?_; refine hK _ _ ?_)
      go_wp2_with fail
      rw [← HWG.out]
      refine HL.out.mono ?_
      rintro e w4 ⟨rfl, ⟨cur4, hk4⟩, ht4⟩
      have HK4 := hide hk4
      have HT34 := hide (HTH.out.trans ht4 fun _ _ h => h)
      clear hk4 ht4
      go_wp2_with fail
      refine (HL2.out w4 cur4 HT34.out HK4.out).mono ?_
      rintro e w5 ⟨rfl, hk5, ht5⟩
      go_wp2
      go_ret
      rw [HE.out]
      exact HNO.out _ _ (HT34.out.trans ht5 fun _ _ h => h) hk5
    | true =>
      rw [hw2] at hl2
      have HL2 := hide hl2
      have HD2 := hide (laid_alive (p := 32 * P) hw2 HD1.out)
      have hfo : Octs (flip k.b) := by
        intro z hz
        unfold flip at hz
        rcases List.mem_cons.1 hz with hz | hz
        · have := HK.out.2.2.1.getD 0
          rw [hz]
          split <;> omega
        · exact HK.out.2.2.1 z (List.mem_of_mem_take (List.mem_of_mem_drop hz))
      have hfll : (flip k.b).length = 32 := by
        unfold flip
        rw [List.length_cons, List.length_drop, List.length_take]
        omega
      have hrow : Row wG (· = aF) (some ⟨aF, 0, none⟩) 32 capF (octs (flip k.b)) := by
        refine ⟨by rw [octs_len, hfll], hF3, hF4, .inr ⟨aF, 0, rfl, rfl, fun j hj => ?_⟩⟩
        rw [Nat.zero_add, HFG.out.cell j, ← HCG.out, List.getElem?_take, if_pos hj]
        simp
      have hl3 : ∀ (w5 : World) (cur5 : Array Value), Touch (fun n => n = g ∨ n = a) wG w5 → Rk w5 g a c cur5 (k1.laid (32 * P) 0 (frameOf x)) → Calls Try.prog 56 #[.pointer (some ⟨g, 0, none⟩), .int .i64 0, .slice (some ⟨aF, 0, none⟩) 32 capF] w5 fun e w' => RDid g a c ((k1.laid (32 * P) 0 (frameOf x)).write 0 (flip k.b)) (.bool ((k1.laid (32 * P) 0 (frameOf x)).wrote 0 (flip k.b))) w5 w' e := fun w5 cur5 ht hr =>
        refwrite_any 0 _ capF (flip k.b) w5 hr HK3.out (by omega) (hrow.touch ht fun b hb _ h => by have := hag3 aF hF1; subst hb; exact h.elim this.1 this.2) hfo (fun b hb _ => by rw [hb]; exact hag3 aF hF1)
      have HSW2 := hide (show swapL k m x = ((k1.laid (32 * P) 0 (frameOf x)).write 0 (flip k.b), if (k1.laid (32 * P) 0 (frameOf x)).wrote 0 (flip k.b) = true then (⟨m.n, [x], 1⟩, 0) else (m, 19)) by rw [HSW.out, if_neg (by rw [hw2]; decide)])
      clear hl2 hfo hfll hrow
      generalize k1.laid (32 * P) 0 (frameOf x) = k2 at *
      generalize (k2.write 0 (flip k.b)) = k3 at *
      cases hw3 : k2.wrote 0 (flip k.b) with
      | false =>
        have HE := hide (show swapL k m x = (k3, m, 19) by rw [HSW2.out, hw3]; rfl)
        rw [hw3] at hl3
        have HL3 := hide hl3
        clear hl3
        go_wp2_with (at_builtin; refine wpList_plain rfl fun K hK => ?_; refine append_op _ _ _ rfl rfl rfl rfl hrunF ?_; refine hK _ _ ?_)
        go_wp2_with fail
        rw [← HWG.out]
        refine HL.out.mono ?_
        rintro e w4 ⟨rfl, ⟨cur4, hk4⟩, ht4⟩
        have HK4 := hide hk4
        have HT34 := hide (HTH.out.trans ht4 fun _ _ h => h)
        have HTG4 := hide (HT4.out _ ht4)
        clear hk4 ht4
        go_wp2_with fail
        refine (HL2.out w4 cur4 HT34.out HK4.out).mono ?_
        rintro e w5 ⟨rfl, ⟨cur5, hk5⟩, ht5⟩
        have HK5 := hide hk5
        have HT35 := hide (HT34.out.trans ht5 fun _ _ h => h)
        have HTG5 := hide (HTG4.out.trans ht5 fun _ _ h => h)
        have cl5 := ((HB.out.touch HT35.out (fun h => h.elim d1 d2)).cell 0).trans rfl
        clear hk5 ht5
        go_wp2_with fail
        refine (HL3.out w5 cur5 HTG5.out HK5.out).mono ?_
        rintro e w6 ⟨rfl, hk6, ht6⟩
        go_wp2
        go_ret
        rw [HE.out]
        exact HNO.out _ _ (HT35.out.trans ht6 fun _ _ h => h) hk6
      | true =>
        have HE := hide (show swapL k m x = (k3, ⟨m.n, [x], 1⟩, 0) by rw [HSW2.out, hw3]; rfl)
        rw [hw3] at hl3
        have HL3 := hide hl3
        clear hl3
        go_wp2_with (at_builtin; refine wpList_plain rfl fun K hK => ?_; refine append_op _ _ _ rfl rfl rfl rfl hrunF ?_; refine hK _ _ ?_)
        go_wp2_with fail
        rw [← HWG.out]
        refine HL.out.mono ?_
        rintro e w4 ⟨rfl, ⟨cur4, hk4⟩, ht4⟩
        have HK4 := hide hk4
        have HT34 := hide (HTH.out.trans ht4 fun _ _ h => h)
        have HTG4 := hide (HT4.out _ ht4)
        clear hk4 ht4
        go_wp2_with fail
        refine (HL2.out w4 cur4 HT34.out HK4.out).mono ?_
        rintro e w5 ⟨rfl, ⟨cur5, hk5⟩, ht5⟩
        have HK5 := hide hk5
        have HT35 := hide (HT34.out.trans ht5 fun _ _ h => h)
        have HTG5 := hide (HTG4.out.trans ht5 fun _ _ h => h)
        have cl5 := ((HB.out.touch HT35.out (fun h => h.elim d1 d2)).cell 0).trans rfl
        clear hk5 ht5
        go_wp2_with fail
        refine (HL3.out w5 cur5 HTG5.out HK5.out).mono ?_
        rintro e w6 ⟨rfl, ⟨cur6, hk6⟩, ht6⟩
        have HT36 := HT35.out.trans ht6 fun _ _ h => h
        have hs3 := HB2.out.size
        have hs6 := HT36.size
        have B6 := HB.out.touch HT36 (fun h => h.elim d1 d2)
        have X6 : Row w6 Q A n cx (octs x) := (HX0.out.below HB2.out (fun b _ h => h)).keep fun b hb hlt => HT36.block b hlt fun h => by
          by_cases hbw : b < w.heap.size
          · exact h.elim (fun h => HQ.out b hb hbw (h ▸ d4)) (fun h => HQ.out b hb hbw (h ▸ d5))
          · have := hlw g d4; have := hlw a d5; omega
        have hE := World.ownsRow_lit (base := w6.heap.size) (e := 5) (size := 1) w6 #[] 0 (Nat.le_refl _) (by unfold maxLen; omega) rfl
        have hSE : Since w6 (w6.alloc (.cells #[] 5)) := (Since.refl w6).alloc _
        obtain ⟨aA, capA, curA, wA, hrunA, hA1, hA2, hA3, hA4, hA5, hA6, hgA, hoA⟩ := append_empty hE (X6.alloc _) (by omega) (Below.size (show Below w6.heap.size w6 _ from hSE)) 32
        have hSA := (since_grown hSE hgA (Nat.le_refl _)).alloc (.cells #[.slice (some ⟨aA, 0, none⟩) n capA] 32)
        have hoS := World.ownsRow_lit (base := 0) (e := 32) (size := 1) wA #[.slice (some ⟨aA, 0, none⟩) n capA] 1 (Nat.zero_le _) (by unfold maxLen; omega) rfl
        have hAl := hA2.lt
        have hAC := hA2.alloc (.cells #[.slice (some ⟨aA, 0, none⟩) n capA] 32)
        have hsC : (wA.alloc (.cells #[.slice (some ⟨aA, 0, none⟩) n capA] 32)).heap.size = wA.heap.size + 1 := by simp
        have hnC : wA.heap.size ≠ aA := by omega
        have hsA := (since_grown hSE hgA (Nat.le_refl _))
        have hsA6 : w6.heap.size ≤ wA.heap.size := Below.size (show Below w6.heap.size w6 wA from hsA)
        obtain ⟨wC, hwC⟩ : ∃ wC, wC = wA.alloc (.cells #[.slice (some ⟨aA, 0, none⟩) n capA] 32) := ⟨_, rfl⟩
        obtain ⟨sA, hsAe⟩ : ∃ sA, sA = wA.heap.size := ⟨_, rfl⟩
        rw [← hwC] at hSA hoS hAC hsC
        rw [← hsAe] at hoS hsC hnC hsA6
        have hSC : Below w6.heap.size w6 wC := hSA
        have BC := B6.below hSC B6.lt
        have f3 := BC.frozen 3
        have v3 := (BC.cell 3).trans rfl
        have B3 := BC.store 3 (.slice (some ⟨sA, 0, none⟩) 1 1)
        have f5 := B3.frozen 5
        have v5 := (B3.cell 5).trans rfl
        have B5 := B3.store 5 (.slice none 0 0)
        have f4 := B5.frozen 4
        have v4 := (B5.cell 4).trans rfl
        have B4 := B5.store 4 (.int .i64 1)
        have f2 := B4.frozen 2
        have v2 := (B4.cell 2).trans rfl
        have B2 := B4.store 2 (.int .i64 ((n : Int) + 7))
        have hl6 := B6.lt
        have hlw' := hlw l d3
        have kp : ∀ b, b ≠ l → ((((wC.setCell ⟨l, 3, none⟩ (.slice (some ⟨sA, 0, none⟩) 1 1)).setCell ⟨l, 5, none⟩ (.slice none 0 0)).setCell ⟨l, 4, none⟩ (.int .i64 1)).setCell ⟨l, 2, none⟩ (.int .i64 ((n : Int) + 7))).heap[b]? = wC.heap[b]? := fun b hb =>
          (Below.heap_setCell _ ⟨l, 2, none⟩ _ b hb).trans ((Below.heap_setCell _ ⟨l, 4, none⟩ _ b hb).trans ((Below.heap_setCell _ ⟨l, 5, none⟩ _ b hb).trans (Below.heap_setCell _ ⟨l, 3, none⟩ _ b hb)))
        have hgl6 := hk6.1.lt
        have hal6 := hk6.2.1.lt
        have K2 := (hk6.keep (hSC.block g hgl6) (hSC.block a hal6)).keep (kp g (Ne.symm d1)) (kp a (Ne.symm d2))
        have O2 := own_keep (w' := ((((wC.setCell ⟨l, 3, none⟩ (.slice (some ⟨sA, 0, none⟩) 1 1)).setCell ⟨l, 5, none⟩ (.slice none 0 0)).setCell ⟨l, 4, none⟩ (.int .i64 1)).setCell ⟨l, 2, none⟩ (.int .i64 ((n : Int) + 7)))) hoS fun b hb => kp b (by injection hb with hb; have hb : sA = b := hb; omega)
        have A2 : Blk ((((wC.setCell ⟨l, 3, none⟩ (.slice (some ⟨sA, 0, none⟩) 1 1)).setCell ⟨l, 5, none⟩ (.slice none 0 0)).setCell ⟨l, 4, none⟩ (.int .i64 1)).setCell ⟨l, 2, none⟩ (.int .i64 ((n : Int) + 7))) aA 5 curA := (kp aA (by omega)).trans hAC
        have R2 : Row _ (· = aA) (some ⟨aA, 0, none⟩) n capA (octs x) := ⟨by rw [octs_len, hN], hA3, hA4, .inr ⟨aA, 0, rfl, rfl, fun j hj => by
          rw [Nat.zero_add, A2.cell j, ← hA6, List.getElem?_take, if_pos hj]
          simp⟩⟩
        have hsz : ((((wC.setCell ⟨l, 3, none⟩ (.slice (some ⟨sA, 0, none⟩) 1 1)).setCell ⟨l, 5, none⟩ (.slice none 0 0)).setCell ⟨l, 4, none⟩ (.int .i64 1)).setCell ⟨l, 2, none⟩ (.int .i64 ((n : Int) + 7))).heap.size = wC.heap.size := by simp
        have T2 := ((((((Touch.of_below HB2.out).mono (Q := R) fun _ _ h => h.elim).trans (HT36.mono (Q := R) fun n _ h => h.elim (fun h => h ▸ d4) (fun h => h ▸ d5)) fun _ _ h => h).trans ((Touch.of_below hSC).mono (Q := R) fun _ _ h => h.elim) fun _ _ h => h).setCell (p := ⟨l, 3, none⟩) (fun _ => d3) (.slice (some ⟨sA, 0, none⟩) 1 1)).setCell (p := ⟨l, 5, none⟩) (fun _ => d3) (.slice none 0 0)).setCell (p := ⟨l, 4, none⟩) (fun _ => d3) (.int .i64 1) |>.setCell (p := ⟨l, 2, none⟩) (fun _ => d3) (.int .i64 ((n : Int) + 7))
        have HFIN := hide (RLog.alone (m := m) (R := R) HXO.out hN ⟨d1, d2, d3, d4, d5, hlw⟩ K2 B2 O2 R2 hnC ⟨by omega, by rw [hsz]; omega⟩ ⟨by omega, by rw [hsz]; omega⟩ T2)
        subst hwC hsAe
        clear BC B3 B5 B4 B2 B6 X6 hE hSE hgA hoA hSA hoS hAC hSC kp K2 O2 A2 R2 hsz T2 hA2 hk6 ht6 HT36 hsA
        go_wp2_with (at_builtin; refine wpList_plain rfl fun K hK => ?_; refine append_op _ _ _ rfl rfl rfl rfl hrunA ?_; refine hK _ _ ?_)
        go_wp2
        go_ret
        rw [HE.out]
        exact HFIN.out
end Go.Proofs.Ythoedknnchaiaaa
