/-
  A write upon the disk, held against octets.
-/
import Derived.Test.YtcdllbjhcjpleaaDiskP
import Derived.Test.YtcdllbjhcjpleaaDiskW
import Derived.BigQuiet
import Derived.Deep.RegionHeld
namespace Go.Proofs.Ytcdllbjhcjpleaa
open Go.RowKit
set_option linter.unusedVariables false

/-- Behind a step: both are as k says. -/
def Both (P : Nat → Prop) (d g a c : Nat) (k : Dk) (w w' : World) (e : Ending) : Prop :=
  e = .returned (.bool true) ∧ ∃ P' cur, Dsk w' P' d k ∧ (∀ n, P' n → P n ∨ w.heap.size ≤ n) ∧ Bk w' g a c cur k ∧ Touch (fun n => P n ∨ n = g ∨ n = a) w w'
theorem Both.of {P : Nat → Prop} {d g a c : Nat} {k : Dk} {w w' : World} {P' : Nat → Prop} {cur : Array Value} (h1 : Dsk w' P' d k) (h2 : ∀ n, P' n → P n ∨ w.heap.size ≤ n) (h3 : Bk w' g a c cur k) (h4 : Touch (fun n => P n ∨ n = g ∨ n = a) w w') :
    Both P d g a c k w w' (.returned (.bool true)) := ⟨rfl, P', cur, h1, h2, h3, h4⟩

set_option maxHeartbeats 1000000 in
set_option maxRecDepth 10000 in
theorem bwrite_no {P Q : Nat → Prop} {d g a c m : Nat} {cur : Array Value} {k : Dk} (x : DOp) (w : World) (hB : Bk w g a c cur k) (hD : Dsk w P d k) (hk : k.ok m) (hx : x.at w Q) (hg : ¬ P g) (ha : ¬ P a) (hq : ∀ b, Q b → b < w.heap.size → ¬ P b ∧ b ≠ g ∧ b ≠ a) (hm : ¬ k.may x.i x.b) :
    Calls Try.prog 29 #[.pointer (some ⟨g, 0, none⟩), .pointer (some ⟨d, 0, none⟩), x.val] w fun e w' => Both P d g a c k w w' e := by
  obtain ⟨kind, i, num, xA, xm, xc, xb⟩ := x
  obtain ⟨hxr, hxo, hx0, hxi, hxn⟩ := hx
  have hm : ¬ k.may i xb := hm
  have hxl : xb.length = xm := by have := hxr.1; rwa [octs_len] at this
  have hwr : k.write i xb = k := if_neg hm
  have hwo : k.wrote i xb = false := by unfold Dk.wrote; rw [decide_eq_false hm]; rfl
  have hsec := Dk.secs hk
  have hlen := hk.1
  have hlt := dsk_lt hD
  have HW := hide (show ∀ w', Below w.heap.size w w' → Calls Try.prog 17 #[.pointer (some ⟨d, 0, none⟩), .int .i64 i, .slice xA xm xc] w' fun e w2 => DDid Dsk P d k (.bool false) w' w2 e from fun w' hb => by
    have h := dwrite_any (m := m) i xA xm xc xb w' (dsk_keep hD fun b _ hb' => hb.block b hb') hk hxi (hxr.within.below hb fun _ _ h => by have := hb.size; omega) hxo (fun b hQ _ => (hq b hQ.1 hQ.2).1)
    rw [hwr, hwo] at h
    exact h)
  have HB1 := hide ((Below.refl w.heap.size w).alloc (Nat.le_refl _) (.cells #[.int .i64 kind, .int .i64 i, .int .i64 num, .slice xA xm xc] 49))
  have hb0 := hB.1
  have HB := hide hB
  have b1 := hb0.alloc (.cells #[.int .i64 kind, .int .i64 i, .int .i64 num, .slice xA xm xc] 49)
  have c0 := (b1.cell 0).trans rfl
  have c2 := (b1.cell 2).trans rfl
  have hL : ((k.b.length : Nat) : Int).tdiv 32 = (m : Int) := by rw [hlen, Int.tdiv_eq_ediv_of_nonneg (by omega)]; omega
  have hwm : IntKind.i64.wrap (m : Int) = (m : Int) := by have := hk.2.1; rw [IntKind.wrap_i64]; omega
  have hm2 : i < 0 ∨ (m : Int) ≤ i ∨ xm ≠ 32 ∨ k.dead = true := by
    by_cases h0 : i < 0
    · exact .inl h0
    by_cases h1 : (m : Int) ≤ i
    · exact .inr (.inl h1)
    by_cases h2 : xm = 32
    · cases h3 : k.dead with
      | true => exact .inr (.inr (.inr rfl))
      | false => exact absurd ⟨⟨by omega, by rw [hsec]; omega, h3⟩, by omega⟩ hm
    · exact .inr (.inr (.inl h2))
  have HLT := hide hlt
  have HG := hide hg
  have HA := hide ha
  clear hB hD hk hxr hxo hx0 hxi hxn hq hm hwr hwo hxl hlt hg ha b1 hb0 hsec
  unfold DOp.val
  have fin : ∀ (w2 w3 : World) (e : Ending), Below w.heap.size w w2 → DDid Dsk P d k (.bool false) w2 w3 e → e = .returned (.bool false) ∧ Both P d g a c k w w3 (.returned (.bool true)) := by
    rintro w2 w3 e hb ⟨rfl, P', h1, h2, h3⟩
    have ht := h3
    refine ⟨rfl, Both.of (P' := P') h1 (fun n hn => (h2 n hn).imp id fun h => Nat.le_trans hb.size h) (HB.out.keep ?_ ?_) ⟨h3.os.trans hb.os, h3.tape.trans hb.tape, h3.output.trans hb.output, Nat.le_trans hb.size h3.size, fun n hn hp => ?_⟩⟩
    · have := HB.out.1.lt
      exact (h3.block g (Nat.lt_of_lt_of_le this hb.size) HG.out).trans (hb.block g this)
    · have := HB.out.2.1.lt
      exact (h3.block a (Nat.lt_of_lt_of_le this hb.size) HA.out).trans (hb.block a this)
    · exact (h3.block n (Nat.lt_of_lt_of_le hn hb.size) fun h => hp (.inl h)).trans (hb.block n hn)
  have FIN := hide fin
  clear fin hlen
  obtain ⟨kb, fuel, dead, written⟩ := k
  simp only at c0 c2 hL hm2
  generalize kb.length = L at *
  have HM2 := hide hm2
  clear hm2
  by_cases h0 : i < 0
  · skip
    go_enter Try.func29, Try.ntmps29
    go_wp2_with fail
    go_quiet (fail)
    have HBC := hide (below_drewN HB1.out nq)
    go_wp2_with fail
    refine (HW.out _ HBC.out).mono ?_
    rintro e w3 hd
    obtain ⟨rfl, hbo⟩ := FIN.out _ _ _ HBC.out hd
    have HBO := hide hbo
    clear hd hbo
    go_wp2
    go_ret
    exact HBO.out
  have hd0 : decide (i < 0) = false := decide_eq_false h0
  by_cases h1 : (m : Int) ≤ i
  · skip
    go_enter Try.func29, Try.ntmps29
    go_wp2_with fail
    go_quiet (fail)
    have HBC := hide (below_drewN HB1.out nq)
    go_wp2_with fail
    refine (HW.out _ HBC.out).mono ?_
    rintro e w3 hd
    obtain ⟨rfl, hbo⟩ := FIN.out _ _ _ HBC.out hd
    have HBO := hide hbo
    clear hd hbo
    go_wp2
    go_ret
    exact HBO.out
  have hd1 : decide ((m : Int) ≤ i) = false := decide_eq_false h1
  by_cases h2 : xm = 32
  · subst h2
    obtain rfl : dead = true := by
      rcases HM2.out with h | h | h | h
      · exact absurd h h0
      · exact absurd h h1
      · exact absurd rfl h
      · exact h
    go_enter Try.func29, Try.ntmps29
    go_wp2_with fail
    go_quiet (fail)
    have HBC := hide (below_drewN HB1.out nq)
    go_wp2_with fail
    refine (HW.out _ HBC.out).mono ?_
    rintro e w3 hd
    obtain ⟨rfl, hbo⟩ := FIN.out _ _ _ HBC.out hd
    have HBO := hide hbo
    clear hd hbo
    go_wp2
    go_ret
    exact HBO.out
  · have hd2 : ((xm : Int) == 32) = false := beq_eq_false_iff_ne.mpr (by omega)
    have hd3 : ((xm : Int) != 32) = true := by simp [hd2, bne]
    go_enter Try.func29, Try.ntmps29
    go_wp2_with fail
    go_quiet (fail)
    have HBC := hide (below_drewN HB1.out nq)
    go_wp2_with fail
    refine (HW.out _ HBC.out).mono ?_
    rintro e w3 hd
    obtain ⟨rfl, hbo⟩ := FIN.out _ _ _ HBC.out hd
    have HBO := hide hbo
    clear hd hbo
    go_wp2
    go_ret
    exact HBO.out
end Go.Proofs.Ytcdllbjhcjpleaa
