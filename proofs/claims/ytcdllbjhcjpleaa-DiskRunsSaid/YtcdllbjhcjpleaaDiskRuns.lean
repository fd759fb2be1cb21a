/-
  The walk of DiskRuns.
-/
import Derived.Test.YtcdllbjhcjpleaaDiskRun
import Derived.Test.YtcdllbjhcjpleaaDiskAlive
namespace Go.Proofs.Ytcdllbjhcjpleaa
open Go.RowKit
set_option linter.unusedVariables false

theorem DOps.front {w : World} {Q : Nat → Prop} {A : Option Addr} {n c : Nat} {l : List DOp} (h : DOps w Q A n c l) {k : Nat} (hk : k ≤ n) : DOps w Q A k c (l.take k) := by
  refine ⟨?_, fun o ho => h.2 o (List.mem_of_mem_take ho)⟩
  have h1 := h.1.front hk
  rwa [dops, flat_take _ 4 (fun _ => rfl)] at h1
theorem near_near (n lo hi : Int) (h : lo ≤ hi) : near (near n lo hi) lo hi = near n lo hi := by
  have := near_in (n := n) h
  unfold near at *
  split <;> (try split) <;> (try split) <;> omega

set_option maxHeartbeats 2000000 in
theorem diskruns_walk (n : Int) (A : Option Addr) (nl cl : Nat) (l : List DOp) (w : World) (hl : DOps w (· < w.heap.size) A nl cl l) :
    Calls Try.prog 3 #[.int .i64 n, .slice A nl cl] w fun e w' => e = .returned (.bool true) ∧ Below w.heap.size w w' := by
  have hb := near_in (n := n) (show (0 : Int) ≤ 256 by omega)
  obtain ⟨m, hm⟩ : ∃ m : Nat, near n 0 256 = (m : Int) := ⟨(near n 0 256).toNat, by omega⟩
  have hm256 : m ≤ 256 := by omega
  have hmm : near (m : Int) 0 256 = (m : Int) := by rw [← hm]; exact near_near n 0 256 (by omega)
  have HL := hide hl
  have HCL := hide (show nl ≤ cl ∧ cl ≤ 9223372036854775807 from ⟨hl.1.2.1, hl.1.2.2.1⟩)
  have HMM := hide hmm
  clear hb hl hmm
  go_enter Try.func3, Try.ntmps3
  go_wp2_with fail
  refine (alive11 _).mono ?_
  rintro e w1 ⟨rfl, hb1⟩
  have HB1 := hide hb1
  clear hb1
  go_wp2_with fail
  refine (near_any n 0 256 _).mono ?_
  rintro e w' ⟨rfl, rfl⟩
  rw [hm]
  go_wp2_with fail
  refine (begin_any (m : Int) m _ HMM.out hm256).mono ?_
  rintro e w2 ⟨g, a, cur, rfl, hg, ha, hbk, hb2⟩
  have HB2 := hide (HB1.out.trans (hb2.mono HB1.out.size))
  have HBK := hide hbk
  have HG := hide (show w.heap.size ≤ g ∧ w.heap.size ≤ a from ⟨Nat.le_trans HB1.out.size hg, Nat.le_trans HB1.out.size ha⟩)
  clear hg ha hbk hb2
  go_wp2_with fail
  refine (dnew_any (m : Int) _ ⟨by omega, by omega⟩).mono ?_
  rintro e w3 ⟨d, P, rfl, hd, hp, hb3⟩
  rw [HMM.out, Int.toNat_natCast] at hd
  have HB3 := hide (HB2.out.trans (hb3.mono HB2.out.size))
  have HD := hide hd
  have HP := hide (show ∀ n, P n → w2.heap.size ≤ n from hp)
  have hgl := HBK.out.1.lt
  have hal := HBK.out.2.1.lt
  have HBK3 := hide (HBK.out.keep (hb3.block g hgl) (hb3.block a hal))
  have HL3 := hide (DOps.front (k := min nl 50) (HL.out.keep (w' := w3) fun b hb hlt => HB3.out.block b hlt) (by omega))
  have HS2 := hide HB2.out.size
  clear hd hp hb3
  go_wp2_with fail
  refine (few11_any A nl cl _ HCL.out.1 HCL.out.2).mono ?_
  rintro e w' ⟨rfl, rfl⟩
  go_wp2_with fail
  refine (brun_any A (min nl 50) cl _ _ HBK3.out HD.out (Dk.ok_fresh hm256) HL3.out (fun h => by have := HP.out _ h; omega) (fun h => by have := HP.out _ h; omega) (fun b hb _ => ⟨fun h => by have := HP.out _ h; have := HS2.out; omega, by have := HG.out.1; omega, by have := HG.out.2; omega⟩)).mono ?_
  rintro e w4 ⟨rfl, P', cur', h1, h2, h3, h4⟩
  have HBO := hide (show Below w.heap.size w w4 from HB3.out.trans (h4.below HB3.out.size fun n hn h => by
    rcases h with h | h | h
    · have := HP.out _ h; have := HS2.out; omega
    · have := HG.out.1; omega
    · have := HG.out.2; omega))
  clear h1 h2 h3 h4
  go_wp2
  go_ret
  exact ⟨rfl, HBO.out⟩
end Go.Proofs.Ytcdllbjhcjpleaa
