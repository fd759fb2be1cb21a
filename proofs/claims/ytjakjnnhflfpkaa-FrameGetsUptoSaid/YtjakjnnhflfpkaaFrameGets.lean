/-
  The walk of FrameGets: for at most 40,000,000,000,000 octets.
-/
import Derived.Test.YtjakjnnhflfpkaaFrameAlive
import Derived.Test.YtjakjnnhflfpkaaSince
namespace Go.Proofs.Ytjakjnnhflfpkaa
open Go.RowKit
set_option linter.unusedVariables false

set_option maxRecDepth 100000 in
set_option maxHeartbeats 4000000 in
theorem gets_walk (A : Option Addr) (n c : Nat) (l : List Int) (w : World) (h : Row w (· < w.heap.size) A n c (octs l)) (ho : Octs l) (hn : n ≤ 40000000000000) :
    Calls Try.prog 4 #[.slice A n c] w fun e w' => e = .returned (.bool true) ∧ Below w.heap.size w w' := by
  have H := hide h
  have HO := hide ho
  have hlen : l.length = n := by rw [← h.1, octs_len]
  have HLN := hide hlen
  have hcap := h.2.1
  clear h ho hlen
  go_enter Try.func4, Try.ntmps4
  go_wp2_with fail
  refine (alive04 _).mono ?_
  rintro e w1 ⟨rfl, hbl⟩
  have HB1 := hide hbl
  have H1 := hide (H.out.below hbl (fun _ h _ => h))
  clear hbl
  go_wp2_with fail
  refine (fget_any A n c l _ (H1.out.within.mono fun _ h => h.2) HO.out (by omega)).mono ?_
  rintro e w2 ⟨hx0, hx1, hbl⟩
  have HB2 := hide (HB1.out.trans (hbl.mono HB1.out.size))
  have H2 := hide (H1.out.below hbl (fun _ _ h => h))
  by_cases hf : front l = 0
  · have he := hx0 hf
    subst he
    clear hx0 hx1 hbl
    go_wp2_with fail
    refine (refframe_get A n c l _ (H2.out.within.mono fun _ h => h.2) HO.out (by omega)).mono ?_
    rintro e w3 ⟨hy0, -, hbl⟩
    have he := hy0 hf
    subst he
    have HB3 := hide (HB2.out.trans (hbl.mono HB2.out.size))
    have H3 := hide (H2.out.below hbl (fun _ _ h => h))
    clear hy0 hbl hf
    go_wp2_with fail
    refine (fall_any A n c l _ (H3.out.within.mono fun _ h => h.2) HO.out hn).mono ?_
    rintro e w4 ⟨A4, k4, c4, rfl, hp4, hbl⟩
    have HB4 := hide (HB3.out.trans (hbl.mono HB3.out.size))
    have H4 := hide (H3.out.below hbl (fun _ _ h => h))
    have HP4 := hide hp4
    clear hbl hp4
    go_wp2_with fail
    refine (refframe_all A n c l _ (H4.out.within.mono fun _ h => h.2) HO.out hn).mono ?_
    rintro e w5 ⟨A5, k5, c5, rfl, hp5, hbl⟩
    have HB5 := hide (HB4.out.trans (hbl.mono HB4.out.size))
    have hp4 := HP4.out.below hbl
    have hk : k4 = k5 := by rw [← hp4.1, ← hp5.1]
    subst hk
    have HP5 := hide hp5
    have HP4 := hide hp4
    have hcn : ∀ (W : World), (convert 22 9 (.slice none 0 0)).run Try.prog W = .ok (.string (strOfNums [])) W := fun W => conv_row (Row.nil W (fun _ => True) none)
    generalize strOfNums [] = T at *
    clear hbl hp4 hp5
    go_wp2_with fail
    refine (octets_same _ _ _ _ _ _ _ HP4.out HP5.out).mono ?_
    rintro e w6 ⟨rfl, q, rfl⟩
    have HB6 := hide (below_drewN HB5.out q)
    go_wp2
    go_ret
    exact ⟨rfl, HB6.out⟩
  · obtain ⟨A3, c3, he, hown⟩ := hx1 hf
    subst he
    have HX := hide (own_within hown)
    obtain ⟨f1, f2, f3, -, -⟩ := front_pos hf
    have hmid := fun (W : World) (hr : Row W (· < w.heap.size) A n c (octs l)) => hr.mid (i := 2) (k := front l) (by rw [HLN.out] at f3; omega)
    rw [if_neg (by rw [HLN.out] at f3; omega)] at hmid
    have HMID := hide hmid
    clear hx0 hx1 hbl hown hmid
    go_wp2_with fail
    refine (refframe_get A n c l _ (H2.out.within.mono fun _ h => h.2) HO.out (by omega)).mono ?_
    rintro e w3 ⟨-, hy1, hbl⟩
    have he := hy1 hf
    subst he
    have HB3 := hide (HB2.out.trans (hbl.mono HB2.out.size))
    have H3 := hide (H2.out.below hbl (fun _ _ h => h))
    have HX := hide (HX.out.below hbl (fun _ h _ => h))
    clear hy1 hbl hf
    generalize front l = N at *
    generalize hB : A.map (·.add 2) = B at *
    clear hB
    go_wp2_with fail
    refine (fall_any A n c l _ (H3.out.within.mono fun _ h => h.2) HO.out hn).mono ?_
    rintro e w4 ⟨A4, k4, c4, rfl, hp4, hbl⟩
    have HB4 := hide (HB3.out.trans (hbl.mono HB3.out.size))
    have H4 := hide (H3.out.below hbl (fun _ _ h => h))
    have HP4 := hide hp4
    have HX := hide (HX.out.below hbl (fun _ h hl => hl))
    clear hbl hp4
    go_wp2_with fail
    refine (refframe_all A n c l _ (H4.out.within.mono fun _ h => h.2) HO.out hn).mono ?_
    rintro e w5 ⟨A5, k5, c5, rfl, hp5, hbl⟩
    have HB5 := hide (HB4.out.trans (hbl.mono HB4.out.size))
    have H5 := hide (H4.out.below hbl (fun _ _ h => h))
    have HX := hide (HX.out.below hbl (fun _ h hl => hl))
    have hp4 := HP4.out.below hbl
    have hk : k4 = k5 := by rw [← hp4.1, ← hp5.1]
    subst hk
    have HP5 := hide hp5
    have HP4 := hide hp4
    have hs1 : (convert 22 9 (.slice A3 N c3)).run Try.prog w5 = .ok (.string (strOfNums ((l.drop 2).take N))) w5 := conv_row HX.out
    have hs2 : (convert 22 9 (.slice B N (c - 2))).run Try.prog w5 = .ok (.string (strOfNums ((l.drop 2).take N))) w5 := conv_row (HMID.out w5 H5.out)
    generalize strOfNums ((l.drop 2).take N) = T at *
    have hpos : (0 : Int) < (N : Int) + 7 := by omega
    clear hbl hp4 hp5
    go_wp2_with fail
    refine (octets_same _ _ _ _ _ _ _ HP4.out HP5.out).mono ?_
    rintro e w6 ⟨rfl, q, rfl⟩
    have HB6 := hide (below_drewN HB5.out q)
    go_wp2
    go_ret
    exact ⟨rfl, HB6.out⟩
end Go.Proofs.Ytjakjnnhflfpkaa
