/-
  The contracts of the package that holds things against each other: Octets.
-/
import Derived.Test.YthoedknnchaiaaaOctC
import Derived.Test.YthoedknnchaiaaaParts
import Derived.Test.YthoedknnchaiaaaNear
import Derived.BigQuiet
import Derived.Lib.SlicesS
namespace Go.Proofs.Ythoedknnchaiaaa
open Go.RowKit
set_option linter.unusedVariables false

/-- Unlike octets are unlike texts. -/
theorem text_inj : ∀ {x y : List Int}, Octs x → Octs y → strOfNums x = strOfNums y → x = y := by
  intro x y hx hy h
  have h' : x.map (fun n => UInt8.ofNat n.toNat) = y.map (fun n => UInt8.ofNat n.toNat) := by
    have := congrArg (fun s : ByteArray => s.data.toList) h
    simpa [strOfNums] using this
  clear h
  induction x generalizing y with
  | nil =>
    cases y with
    | nil => rfl
    | cons b y => simp at h'
  | cons a x ih =>
    cases y with
    | nil => simp at h'
    | cons b y =>
      simp only [List.map_cons, List.cons.injEq] at h'
      have ha := hx a List.mem_cons_self
      have hb := hy b List.mem_cons_self
      have e := congrArg UInt8.toNat h'.1
      simp only [UInt8.toNat_ofNat'] at e
      have e2 : a = b := by omega
      rw [e2, ih (fun n hn => hx n (List.mem_cons_of_mem _ hn)) (fun n hn => hy n (List.mem_cons_of_mem _ hn)) h'.2]

theorem text_ne {x y : List Int} (hx : Octs x) (hy : Octs y) (h : x ≠ y) : ((strOfNums x).toList == (strOfNums y).toList) = false :=
  (Lib.bytes_beq_false_iff _ _).2 fun e => h (text_inj hx hy e)

theorem Parts.drewN {w : World} {A : Option Addr} {n : Nat} {ls : List (List Int)} (h : Parts w A n ls) (q : Nat) : Parts (w.drewN q) A n ls := h.below (below_drewN (Below.refl _ w) q)
/-- The same lists of octets are alike. -/
theorem octets_same (A B : Option Addr) (n c d : Nat) (ls : List (List Int)) (w : World) (h : Parts w A n ls) (k : Parts w B n ls) :
    Calls Try.prog 26 #[.slice A n c, .slice B n d] w fun e w' => e = .returned (.bool true) ∧ ∃ q, w' = w.drewN q := by
  obtain rfl : n = ls.length := h.1.symm
  have HA := hide h
  have HB := hide k
  have hb : ls.length ≤ 9223372036854775807 := h.2.1
  clear h k
  go_enter Try.func26, Try.ntmps26
  go_wp2
  go_loopw [5] (fun i wr => ∃ j q : Nat, j ≤ ls.length ∧ i = .int .i64 j ∧ Hid (wr = w.drewN q)) (fun i _ => ls.length - (intOf i).toNat)
  case atStart => exact ⟨0, 0, Nat.zero_le _, rfl, hide rfl⟩
  case round =>
    obtain ⟨j, q, hj, rfl, hq⟩ := hrel
    by_cases hlt : j < ls.length
    · have hpa := HA.out.drewN q
      have hpb := HB.out.drewN q
      rw [← hq.out] at hpa hpb
      obtain ⟨b, o, a, c2, rfl, hca, hra, _⟩ := hpa.at_ hlt
      obtain ⟨b2, o2, a2, d2, rfl, hcb, hrb, _⟩ := hpb.at_ hlt
      have hs1 : ∀ k', (convert 32 9 (.slice a (ls.getD j []).length c2)).run Try.prog (wr.drewN k') = .ok (.string (strOfNums (ls.getD j []))) (wr.drewN k') := fun k' => conv_row (show Row (wr.drewN k') _ _ _ _ _ from hra)
      have hs2 : ∀ k', (convert 32 9 (.slice a2 (ls.getD j []).length d2)).run Try.prog (wr.drewN k') = .ok (.string (strOfNums (ls.getD j []))) (wr.drewN k') := fun k' => conv_row (show Row (wr.drewN k') _ _ _ _ _ from hrb)
      have hjl : (j : Int) < (ls.length : Int) := by omega
      clear hra hrb hpa hpb
      generalize ls.getD j [] = l at *
      generalize strOfNums l = T at *
      go_wp2_with fail
      go_quiet (fail)
      have HQ := hide (show wr.drewN nq = w.drewN (q + nq) by rw [hq.out, World.drewN_drewN])
      go_wp2
      go_roundw
      case rel => exact ⟨j + 1, q + nq, by omega, by go_num, HQ⟩
      case measure => simp [intOf]; omega
    · go_wp2
      go_ret
      exact ⟨rfl, q, hq.out⟩
end Go.Proofs.Ythoedknnchaiaaa
