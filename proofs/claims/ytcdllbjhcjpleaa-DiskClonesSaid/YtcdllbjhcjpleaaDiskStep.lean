/-
  A call of the script, done by the disk and by octets.
-/
import Derived.Test.YtcdllbjhcjpleaaDiskYes
import Derived.Test.YtcdllbjhcjpleaaOctC
namespace Go.Proofs.Ytcdllbjhcjpleaa
open Go.RowKit
set_option linter.unusedVariables false

def Dk.step (k : Dk) (o : DOp) : Dk := if o.kind = 1 then k.write o.i o.b else if o.kind = 2 then k.arm o.n else if o.kind = 3 then k.revive else k
theorem Dk.ok_step {k : Dk} {m : Nat} (h : k.ok m) {w : World} {Q : Nat → Prop} {o : DOp} (ho : o.at w Q) : (k.step o).ok m := by
  unfold Dk.step
  split
  · exact Dk.ok_write h _ ho.2.1
  split
  · exact Dk.ok_arm h ho.2.2.2.2.2
  split
  · exact Dk.ok_revive h
  · exact h
theorem bwrite_any {P Q : Nat → Prop} {d g a c m : Nat} {cur : Array Value} {k : Dk} (x : DOp) (w : World) (hB : Bk w g a c cur k) (hD : Dsk w P d k) (hk : k.ok m) (hx : x.at w Q) (hg : ¬ P g) (ha : ¬ P a) (hq : ∀ b, Q b → b < w.heap.size → ¬ P b ∧ b ≠ g ∧ b ≠ a) :
    Calls Try.prog 29 #[.pointer (some ⟨g, 0, none⟩), .pointer (some ⟨d, 0, none⟩), x.val] w fun e w' => Both P d g a c (k.write x.i x.b) w w' e := by
  by_cases hm : k.may x.i x.b
  · exact bwrite_yes x w hB hD hk hx hg ha hq hm
  · have : k.write x.i x.b = k := if_neg hm
    rw [this]
    exact bwrite_no x w hB hD hk hx hg ha hq hm
/-- .. behind a world that made memory alone. -/
theorem Both.from {P : Nat → Prop} {d g a c : Nat} {k : Dk} {w w1 w' : World} {e : Ending} (hb : Below w.heap.size w w1) (h : Both P d g a c k w1 w' e) : Both P d g a c k w w' e := by
  obtain ⟨he, P', cur, h1, h2, h3, h4⟩ := h
  exact ⟨he, P', cur, h1, fun n hn => (h2 n hn).imp id fun h => Nat.le_trans hb.size h, h3, ⟨h4.os.trans hb.os, h4.tape.trans hb.tape, h4.output.trans hb.output, Nat.le_trans hb.size h4.size, fun n hn hp => (h4.block n (Nat.lt_of_lt_of_le hn hb.size) hp).trans (hb.block n hn)⟩⟩
theorem DOp.keep {w w' : World} {Q : Nat → Prop} {o : DOp} (h : o.at w Q) (hk : ∀ b, Q b → b < w.heap.size → w'.heap[b]? = w.heap[b]?) : o.at w' Q := ⟨h.1.keep hk, h.2⟩
theorem DOp.within {w : World} {Q : Nat → Prop} {o : DOp} (h : o.at w Q) : o.at w (fun b => Q b ∧ b < w.heap.size) := ⟨h.1.within, h.2⟩

theorem Both.end {P P' : Nat → Prop} {d g a c : Nat} {cur : Array Value} {k' : Dk} {w w1 w2 w3 : World} (hb : Below w.heap.size w w1) (h1 : Dsk w2 P' d k') (h2 : ∀ n, P' n → P n ∨ w1.heap.size ≤ n) (h3 : Touch P w1 w2)
    (hs : Touch (· = g) w2 w3) (hb3 : Bk w3 g a c cur k') (hg : ¬ P g) (hgl : g < w.heap.size) : Both P d g a c k' w w3 (.returned (.bool true)) := by
  refine Both.of (dsk_keep h1 fun b hPb hlt => hs.block b hlt fun h => ?_) (fun n hn => (h2 n hn).imp id fun h => Nat.le_trans hb.size h) hb3 ?_
  · subst h
    rcases h2 b hPb with h | h
    · exact hg h
    · have := hb.size
      omega
  · refine ⟨hs.os.trans (h3.os.trans hb.os), hs.tape.trans (h3.tape.trans hb.tape), hs.output.trans (h3.output.trans hb.output), Nat.le_trans hb.size (Nat.le_trans h3.size hs.size), fun n hn hp => ?_⟩
    have l1 := Nat.lt_of_lt_of_le hn hb.size
    exact (hs.block n (Nat.lt_of_lt_of_le l1 h3.size) fun h => hp (.inr (.inl h))).trans ((h3.block n l1 fun h => hp (.inl h)).trans (hb.block n hn))

set_option maxHeartbeats 2000000 in
set_option maxRecDepth 10000 in
theorem bstep_any {P Q : Nat → Prop} {d g a c m : Nat} {cur : Array Value} {k : Dk} (x : DOp) (w : World) (hB : Bk w g a c cur k) (hD : Dsk w P d k) (hk : k.ok m) (hx : x.at w Q) (hg : ¬ P g) (ha : ¬ P a) (hq : ∀ b, Q b → b < w.heap.size → ¬ P b ∧ b ≠ g ∧ b ≠ a) :
    Calls Try.prog 21 #[.pointer (some ⟨g, 0, none⟩), .pointer (some ⟨d, 0, none⟩), x.val] w fun e w' => Both P d g a c (k.step x) w w' e := by
  obtain ⟨kind, i, num, xA, xm, xc, xb⟩ := x
  obtain ⟨ob, hob⟩ : ∃ ob, ob = Obj.cells #[.int .i64 kind, .int .i64 i, .int .i64 num, .slice xA xm xc] 49 := ⟨_, rfl⟩
  have HB1 := hide ((Below.refl w.heap.size w).alloc (Nat.le_refl _) ob)
  have hb1 : Bk (w.alloc ob) g a c cur k := hB.keep (Below.heap_alloc w _ _ hB.1.lt) (Below.heap_alloc w _ _ hB.2.1.lt)
  have hd1 : Dsk (w.alloc ob) P d k := dsk_keep hD fun b _ hb => Below.heap_alloc w _ _ hb
  have hx1 := DOp.keep (w' := w.alloc ob) (DOp.within hx) fun b _ hb => Below.heap_alloc w _ _ hb
  have hq1 : ∀ b, (Q b ∧ b < w.heap.size) → b < (w.alloc ob).heap.size → ¬ P b ∧ b ≠ g ∧ b ≠ a := fun b hb _ => hq b hb.1 hb.2
  rw [hob] at HB1 hb1 hd1 hx1 hq1
  clear hob
  have HBK := hide hb1
  have HD := hide hd1
  have HX := hide hx1
  have HQ := hide hq1
  have HK := hide hk
  have HG := hide hg
  have HA := hide ha
  have HLT := hide (dsk_lt hD)
  have HIX := hide hx.2
  have HGL := hide hB.1.lt
  have HAL := hide hB.2.1.lt
  have HD0 := hide hD
  clear hB hD hx hq hb1 hd1 hx1 hq1 hk hg ha
  show Calls Try.prog 21 #[.pointer (some ⟨g, 0, none⟩), .pointer (some ⟨d, 0, none⟩), .agg #[.int .i64 kind, .int .i64 i, .int .i64 num, .slice xA xm xc]] w fun e w' => Both P d g a c (k.step ⟨kind, i, num, xA, xm, xc, xb⟩) w w' e
  by_cases k1 : kind = 1
  · subst k1
    have HS := hide (show k.step ⟨1, i, num, xA, xm, xc, xb⟩ = k.write i xb from rfl)
    go_enter Try.func21, Try.ntmps21
    go_wp2_with fail
    refine (bwrite_any (Q := fun b => Q b ∧ b < w.heap.size) ⟨1, i, num, xA, xm, xc, xb⟩ _ HBK.out HD.out HK.out HX.out HG.out HA.out HQ.out).mono ?_
    rintro e w2 hb
    have he := hb.1
    subst he
    have HBO := hide (Both.from HB1.out hb)
    clear hb
    go_wp2
    go_ret
    rw [HS.out]
    exact HBO.out
  · have k1' : (kind == 1) = false := beq_eq_false_iff_ne.mpr k1
    by_cases k2 : kind = 2
    · subst k2
      have HS := hide (show k.step ⟨2, i, num, xA, xm, xc, xb⟩ = k.arm num from rfl)
      go_enter Try.func21, Try.ntmps21
      go_wp2_with fail
      refine (darm_any num _ HD.out HK.out HIX.out.2.2.2).mono ?_
      rintro e w2 ⟨rfl, P', hd2, hp2, ht2⟩
      have hx0 := (Blk.new w 49 #[.int .i64 2, .int .i64 i, .int .i64 num, .slice xA xm xc]).touch ht2 fun h => Nat.lt_irrefl _ (HLT.out _ h)
      have hb2 := HBK.out.keep (ht2.block g HBK.out.1.lt HG.out) (ht2.block a HBK.out.2.1.lt HA.out)
      have x2 := (hx0.cell 2).trans rfl
      have c1 := (hb2.1.cell 1).trans rfl
      have c2 := (hb2.1.cell 2).trans rfl
      have f1 := hb2.1.frozen 1
      have HEND := hide (fun (w3 : World) (cur' : Array Value) (hs : Touch (· = g) w2 w3) (hb3 : Bk w3 g a c cur' (k.arm num)) => Both.end HB1.out hd2 hp2 ht2 hs hb3 HG.out HGL.out)
      have HB2 := hide hb2
      clear hx0 hb2 hd2 hp2 ht2
      cases hdd : k.dead with
      | true =>
        have HE := hide (show k.arm num = k from if_pos hdd)
        rw [hdd] at c2
        go_wp2
        go_ret
        rw [HS.out]
        exact HEND.out _ cur (Touch.refl _ _) (by rw [HE.out]; exact HB2.out)
      | false =>
        have HE := hide (show k.arm num = ⟨k.b, max num (-1), false, k.written⟩ by unfold Dk.arm; rw [if_neg (by rw [hdd]; simp), hdd])
        rw [hdd] at c2
        by_cases hmx : num < -1
        · have HM := hide (show max num (-1) = -1 by omega)
          have H3 := hide (HB2.out.1.store 1 (.int .i64 (-1)))
          go_wp2
          go_ret
          rw [HS.out]
          refine HEND.out _ cur ((Touch.refl (fun n => n = g) _).setCell (p := ⟨g, 1, none⟩) (fun _ => rfl) _) ?_
          rw [HE.out, HM.out]
          have hb := HB2.out.1.store 1 (.int .i64 (-1))
          rw [hdd] at hb
          exact ⟨hb, HB2.out.2.1.far (p := ⟨g, 1, none⟩) HB2.out.2.2.1 _, HB2.out.2.2⟩
        · have HM := hide (show max num (-1) = num by omega)
          go_wp2
          go_ret
          rw [HS.out]
          refine HEND.out _ cur ((Touch.refl (fun n => n = g) _).setCell (p := ⟨g, 1, none⟩) (fun _ => rfl) _) ?_
          rw [HE.out, HM.out]
          have hb := HB2.out.1.store 1 (.int .i64 num)
          rw [hdd] at hb
          exact ⟨hb, HB2.out.2.1.far (p := ⟨g, 1, none⟩) HB2.out.2.2.1 _, HB2.out.2.2⟩
    · have k2' : (kind == 2) = false := beq_eq_false_iff_ne.mpr k2
      by_cases k3 : kind = 3
      · subst k3
        have HS := hide (show k.step ⟨3, i, num, xA, xm, xc, xb⟩ = k.revive from rfl)
        go_enter Try.func21, Try.ntmps21
        go_wp2_with fail
        refine (drevive_any _ HD.out HK.out).mono ?_
        rintro e w2 ⟨rfl, P', hd2, hp2, ht2⟩
        have hb2 := HBK.out.keep (ht2.block g HBK.out.1.lt HG.out) (ht2.block a HBK.out.2.1.lt HA.out)
        have c1 := (hb2.1.cell 1).trans rfl
        have c2 := (hb2.1.cell 2).trans rfl
        have f2 := hb2.1.frozen 2
        have h3 := hb2.1.store 2 (.bool false)
        have c3 := (h3.cell 1).trans rfl
        have f3 := h3.frozen 1
        have HEND := hide (fun (w3 : World) (cur' : Array Value) (hs : Touch (· = g) w2 w3) (hb3 : Bk w3 g a c cur' k.revive) => Both.end HB1.out hd2 hp2 ht2 hs hb3 HG.out HGL.out)
        have HB2 := hide hb2
        clear hb2 hd2 hp2 ht2 h3
        go_wp2
        go_ret
        rw [HS.out]
        refine HEND.out _ cur (((Touch.refl (fun n => n = g) _).setCell (p := ⟨g, 2, none⟩) (fun _ => rfl) _).setCell (p := ⟨g, 1, none⟩) (fun _ => rfl) _) ?_
        exact ⟨(HB2.out.1.store 2 (.bool false)).store 1 (.int .i64 (-1)), (HB2.out.2.1.far (p := ⟨g, 2, none⟩) HB2.out.2.2.1 _).far (p := ⟨g, 1, none⟩) HB2.out.2.2.1 _, HB2.out.2.2⟩
      · have k3' : (kind == 3) = false := beq_eq_false_iff_ne.mpr k3
        have HS := hide (show k.step ⟨kind, i, num, xA, xm, xc, xb⟩ = k by unfold Dk.step; rw [if_neg k1, if_neg k2, if_neg k3])
        have hsec := Dk.secs HK.out
        have hlen := HK.out.1
        have hm256 := HK.out.2.1
        have hL : ((k.b.length : Nat) : Int).tdiv 32 = (m : Int) := by rw [hlen, Int.tdiv_eq_ediv_of_nonneg (by omega)]; omega
        have hwm : IntKind.i64.wrap (m : Int) = (m : Int) := by rw [IntKind.wrap_i64]; omega
        have HLEN := hide hlen
        clear hlen hm256
        go_enter Try.func21, Try.ntmps21
        go_wp2_with fail
        refine (dread_any i _ HD.out HK.out HIX.out.2.2.1).mono ?_
        rintro e w2 ⟨A, cc, rfl, hown, hbl⟩
        have hb2 := HBK.out.keep (hbl.block g HBK.out.1.lt) (hbl.block a HBK.out.2.1.lt)
        have hx0 := (Blk.new w 49 #[.int .i64 kind, .int .i64 i, .int .i64 num, .slice xA xm xc]).below hbl (by simp)
        have x1 := (hx0.cell 1).trans rfl
        have c0 := (hb2.1.cell 0).trans rfl
        have c2 := (hb2.1.cell 2).trans rfl
        have HBX := hide (HB1.out.trans (hbl.mono HB1.out.size))
        have FIN := hide (show ∀ w3, Below w.heap.size w w3 → Both P d g a c (k.step ⟨kind, i, num, xA, xm, xc, xb⟩) w w3 (.returned (.bool true)) from fun w3 hb => by
          rw [HS.out]
          have hB0 : Bk w g a c cur k := HBK.out.keep (Below.heap_alloc w _ _ HGL.out).symm (Below.heap_alloc w _ _ HAL.out).symm
          have hD0 : Dsk w P d k := HD0.out
          exact Both.of (dsk_keep hD0 fun b _ hb' => hb.block b hb') (fun n hn => .inl hn) (hB0.keep (hb.block g HGL.out) (hb.block a HAL.out)) ⟨hb.os, hb.tape, hb.output, hb.size, fun n hn _ => hb.block n hn⟩)
        have HOW := hide hown
        have HB2 := hide hb2
        clear hown hbl hx0 hb2
        have hno : ¬ k.has i → k.read i = [] ∧ decide (k.has i) = false := fun h => ⟨if_neg h, decide_eq_false h⟩
        by_cases h0 : i < 0
        · obtain ⟨e1, e2⟩ := hno fun h => by have := h.1; omega
          rw [e1, e2]
          clear e1 e2 hno hsec
          go_wp2_with fail
          go_quiet (fail)
          have HBC := hide (below_drewN HBX.out nq)
          generalize w2.drewN nq = w5 at *
          go_wp2
          go_ret
          exact FIN.out _ HBC.out
        have hd0 : decide (i < 0) = false := decide_eq_false h0
        by_cases h1 : (m : Int) ≤ i
        · obtain ⟨e1, e2⟩ := hno fun h => by have := h.2.1; rw [hsec] at this; omega
          rw [e1, e2]
          clear e1 e2 hno hsec
          go_wp2_with fail
          go_quiet (fail)
          have HBC := hide (below_drewN HBX.out nq)
          generalize w2.drewN nq = w5 at *
          go_wp2
          go_ret
          exact FIN.out _ HBC.out
        have hd1 : decide ((m : Int) ≤ i) = false := decide_eq_false h1
        cases hdd : k.dead with
        | true =>
          obtain ⟨e1, e2⟩ := hno fun h => by have := h.2.2; rw [hdd] at this; cases this
          rw [e1, e2]
          rw [hdd] at c2
          clear e1 e2 hno hsec
          go_wp2_with fail
          go_quiet (fail)
          have HBC := hide (below_drewN HBX.out nq)
          generalize w2.drewN nq = w5 at *
          go_wp2
          go_ret
          exact FIN.out _ HBC.out
        | false =>
          rw [hdd] at c2
          have hhas : k.has i := ⟨by omega, by rw [hsec]; omega, hdd⟩
          obtain ⟨s, rfl⟩ : ∃ s : Nat, i = (s : Int) := ⟨i.toNat, by omega⟩
          have hsm : s < m := by omega
          have hrd : k.read (s : Int) = (k.b.drop (32 * s)).take 32 := by unfold Dk.read; rw [if_pos hhas, Int.toNat_natCast]
          have e2 : decide (k.has (s : Int)) = true := decide_eq_true hhas
          have hrl : (k.read (s : Int)).length = 32 := by
            have := HLEN.out
            rw [hrd, List.length_take, List.length_drop]
            omega
          have HR := hide (show Row w2 (fun b => b < w2.heap.size) A 32 cc (octs (k.read (s : Int))) from by
            have h := (Row.of_own HOW.out).within
            rw [hrl] at h
            exact h.mono fun b hb => hb.2)
          have hp32 : 32 * s + 32 ≤ k.b.length := by have := HLEN.out; omega
          have hcap := HB2.out.2.2.2.1
          rw [hrl, e2]
          obtain ⟨p, hp⟩ : ∃ p : Nat, p = 32 * s := ⟨_, rfl⟩
          have w1 : IntKind.i64.wrap (32 * (s : Int)) = (p : Int) := by have := HK.out.2.1; rw [IntKind.wrap_i64]; omega
          have w2' : IntKind.i64.wrap ((p : Int) + 32) = (p : Int) + 32 := by have := HK.out.2.1; rw [IntKind.wrap_i64]; omega
          have HM := hide (show Row w2 (fun b => b < w2.heap.size) (if c = p then some ⟨a, 0, none⟩ else (some ⟨a, 0, none⟩ : Option Addr).map (·.add p)) 32 (c - p) (octs (k.read (s : Int))) from by
            have h := (HB2.out.row.within.mono (Q := fun b => b < w2.heap.size) fun b hb => hb.2).mid (i := p) (k := 32) (by omega)
            rw [hrd, ← hp]
            exact h)
          have hcut : ∀ W : World, (Instr.slice 33 (.slice (some ⟨a, 0, none⟩) k.b.length c) (some (.int .i64 (p : Int))) (some (.int .i64 ((p : Int) + 32))) none).run Try.prog W = .ok (.slice (if c = p then some ⟨a, 0, none⟩ else (some ⟨a, 0, none⟩ : Option Addr).map (·.add p)) 32 (c - p)) W := fun W => cut_run W _ _ _ p 32 (by omega)
          generalize (if c = p then some ⟨a, 0, none⟩ else (some ⟨a, 0, none⟩ : Option Addr).map (·.add p)) = A5 at *
          have hd1' : decide (m ≤ s) = false := decide_eq_false (by omega)
          have hd0' : decide ((s : Int) < 0) = false := decide_eq_false (by omega)
          clear hd0 hd1 h0 h1
          clear hrd hrl e2 hno hsec hhas hp hp32 hcap hsm
          go_wp2_with fail
          go_quiet (fail)
          have HBC := hide (below_drewN HBX.out nq)
          have hs1 : ∀ k', (convert 33 9 (.slice A 32 cc)).run Try.prog ((w2.drewN nq).drewN k') = .ok (.string (strOfNums (k.read (s : Int)))) ((w2.drewN nq).drewN k') := fun k' => conv_row (show Row ((w2.drewN nq).drewN k') _ _ _ _ _ from HR.out)
          have hs2 : ∀ k', (convert 33 9 (.slice A5 32 (c - p))).run Try.prog ((w2.drewN nq).drewN k') = .ok (.string (strOfNums (k.read (s : Int)))) ((w2.drewN nq).drewN k') := fun k' => conv_row (show Row ((w2.drewN nq).drewN k') _ _ _ _ _ from HM.out)
          generalize strOfNums (k.read (s : Int)) = U at *
          have c0' : (w2.drewN nq).cell? ⟨g, 0, none⟩ = some (.slice (some ⟨a, 0, none⟩) k.b.length c) := c0
          have x1' : (w2.drewN nq).cell? ⟨w.heap.size, 1, none⟩ = some (.int .i64 (s : Int)) := x1
          clear c0 x1 c2
          generalize w2.drewN nq = w5 at *
          go_wp2_with fail
          go_quiet (fail)
          have HBC := hide (below_drewN HBC.out nq)
          go_wp2
          go_ret
          exact FIN.out _ HBC.out
end Go.Proofs.Ytcdllbjhcjpleaa
