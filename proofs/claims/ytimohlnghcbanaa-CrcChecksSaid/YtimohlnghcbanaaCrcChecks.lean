/-
  The walk of CrcChecks.
-/
import Derived.Test.YtimohlnghcbanaaCrcAlive
import Derived.Test.YtimohlnghcbanaaOctN
import Derived.Deep.DeepCutAuto
import Derived.Deep.Cut
import Derived.Deep.CutRange
import Derived.Deep.RegionWith
namespace Go.Proofs.Ytimohlnghcbanaa
open Go.RowKit
set_option linter.unusedVariables false

/-- What was there in w is there in w' as it was. -/
def Since (w w' : World) : Prop := Below w.heap.size w w'
theorem Since.refl (w : World) : Since w w := Below.refl _ w
theorem Since.drew {w w' : World} (h : Since w w') : Since w w'.drew := Below.drew h
theorem Since.next {w w' w2 : World} (h : Since w w') (hb : Below w'.heap.size w' w2) : Since w w2 := Below.trans h (hb.mono (Below.size h))
theorem Since.row {w w' : World} {P : Nat → Prop} {A : Option Addr} {n c : Nat} {xs : List Value} (h : Since w w') (hr : Row w P A n c xs) : Row w' P A n c xs := hr.below h (fun _ _ h => h)

/-- A fresh row of k octets, whose text is U, was made behind w3. -/
def Text (w3 : World) (k : Nat) (U : ByteArray) (w w' : World) (e : Ending) : Prop :=
  ∃ A c, e = .returned (.slice A k c) ∧ (∀ w'', Since w' w'' → (convert 24 9 (.slice A k c)).run Try.prog w'' = .ok (.string U) w'') ∧ Since w w' ∧ Since w' w' ∧ Since w3 w'
theorem fresh_text {w3 w w' : World} {m : List Int} {e : Ending} {k : Nat} {U : ByteArray} (h3 : Since w3 w) (h : Fresh w m w' e) (hk : m.length = k) (hU : strOfNums m = U) : Text w3 k U w w' e := by
  obtain ⟨A, c, rfl, hown, hb⟩ := h
  subst hk hU
  exact ⟨A, c, rfl, fun w'' hs => conv_row (hs.row (Row.of_own hown)), hb, Since.refl _, h3.next hb⟩

theorem get_num (P : Nat → Prop) (A : Option Addr) (n c : Nat) (l : List Int) (N : Int) (w : World) (hN : N = num l) (h : Row w P A n c (octs l)) (ho : Octs l) (h8 : n ≤ 8) :
    Calls Try.prog 13 #[.slice A n c] w fun e w' => e = .returned (.int .u64 N) ∧ w = w' := by
  rw [hN]
  exact get_any P A n c l w h ho h8

set_option maxRecDepth 100000 in
set_option maxHeartbeats 4000000 in
theorem checks_walk (A : Option Addr) (n c : Nat) (l : List Int) (w : World) (h : Row w (· < w.heap.size) A n c (octs l)) (ho : Octs l) (hn : n ≤ 140737488351232) :
    Calls Try.prog 4 #[.slice A n c] w fun e w' => e = .returned (.bool true) ∧ Below w.heap.size w w' := by
  obtain rfl : n = l.length := by rw [← h.1, octs_len]
  have H := hide h
  have HO := hide ho
  have hM := crc_lt (l := l)
  generalize hMM : crc l = M at *
  have HM := hide hMM.symm
  clear h ho hMM
  go_enter Try.func4, Try.ntmps4
  go_wp2_with fail
  refine (alive03 _).mono ?_
  rintro e w1 ⟨rfl, hbl⟩
  have HB1 := hide hbl
  have H1 := hide (H.out.below hbl (fun _ h _ => h))
  clear hbl
  go_wp2_with fail
  refine (put_any _ _ _ _ l M _ HM.out H1.out HO.out (by omega)).mono ?_
  rintro e w2 ⟨A2, c2, rfl, hown, hbl⟩
  have HL := hide (show (l ++ inOcts (M : Int) 4).length = l.length + 4 by rw [List.length_append, inOcts_len])
  rw [HL.out] at hown ⊢
  have HR2 := hide (Row.of_own hown)
  have HB2 := hide (HB1.out.trans (hbl.mono HB1.out.size))
  have H2 := hide (H1.out.below hbl (fun _ _ h => h))
  clear hown hbl
  have htake : (l ++ inOcts (M : Int) 4).take l.length = l := List.take_left' rfl
  have hdrop : (l ++ inOcts (M : Int) 4).drop l.length = inOcts (M : Int) 4 := List.drop_left' rfl
  have HCK := hide (check_go A2 l.length c2 (l ++ inOcts (M : Int) 4) M true w2 (HR2.out.within.mono fun _ h => h.2) (HO.out.append (inOcts_octs _ _)) (by omega) (by rw [htake]; exact HM.out)
    (by rw [hdrop, num_inOcts _ _ (by omega) (by omega)]; exact (decide_eq_true rfl).symm))
  have HTK := hide htake
  clear htake hdrop
  go_wp2_with fail
  refine HCK.out.mono ?_
  clear HCK
  rintro e w3 ⟨hf, -⟩
  obtain ⟨A3, c3, rfl, hown, hbl⟩ := hf (by trivial)
  rw [HTK.out] at hown ⊢
  have HR3 := hide (Row.of_own hown)
  have HB3 := hide (HB2.out.trans (hbl.mono HB2.out.size))
  have H3 := hide (H2.out.below hbl (fun _ _ h => h))
  clear hown hbl hf HTK HR2
  have hs1 : ∀ w', Since w3 w' → (convert 24 9 (.slice A3 l.length c3)).run Try.prog w' = .ok (.string (strOfNums l)) w' := fun w' h => conv_row (h.row HR3.out)
  have hs2 : ∀ w', Since w3 w' → (convert 24 9 (.slice A l.length c)).run Try.prog w' = .ok (.string (strOfNums l)) w' := fun w' h => conv_row (h.row H3.out)
  generalize strOfNums l = T at *
  obtain ⟨U, HU⟩ : ∃ U, Hid (strOfNums (l ++ inOcts (M : Int) 4) = U) := ⟨_, rfl⟩
  go_wp2_with fail
  have P1 := hide (fun w' (h : Since w3 w') => (put_any _ A l.length c l M w' HM.out (h.row H3.out) HO.out (by omega)).mono fun e w2 hf => fresh_text h hf HL.out HU.out)
  have P2 := hide (fun w' (h : Since w3 w') => ref_eq _ A l.length c l M w' HM.out (h.row H3.out) HO.out)
  have P3 := hide (fun w' (h : Since w3 w') => (refput_yes _ A l.length c l (M : Int) 4 w' (h.row H3.out) HO.out (by omega) (by omega) (by omega) (by omega) (by omega)).mono fun e w2 hf => fresh_text h hf HL.out HU.out)
  have hr0 := (Since.refl w3).drew
  have hwr : IntKind.u64.wrap (M : Int) = (M : Int) := by rw [IntKind.wrap_u64]; omega
  go_cut [36] (fun s36 wx => s36 = .bool false ∧ Hid (Since w3 wx))
  case first =>
    clear HM HL HU HO HR3 H3 H HB1 HB2 H1 H2
    go_region_with (first
      | (go_at_call 11; refine (P1.out _ (by assumption)).mono ?_; rintro e w5 ⟨A5, c5, rfl, hs5, hsi5, hsr5, hst5⟩)
      | (go_at_call 8; refine (P2.out _ (by assumption)).mono ?_; rintro e w6 ⟨rfl, rfl⟩)
      | (go_at_call 12; refine (P3.out _ (by assumption)).mono ?_; rintro e w7 ⟨A7, c7, rfl, hs7, hsi7, hsr7, hst7⟩))
    all_goals (go_wp2_with fail)
    all_goals go_meet
    all_goals exact ⟨rfl, hide hst7⟩
  case rest =>
    obtain ⟨rfl, hsi⟩ := hcut
    have HBC := hide (HB3.out.trans (Below.mono hsi.out HB3.out.size))
    have HC := hide (hsi.out.row H3.out)
    clear hs1 hs2 P1 P2 P3 hr0 hwr HR3 HB1 HB2 HB3 H1 H2 H3 hsi HU HL
    clear HM
    clear hM
    rcases Nat.lt_or_ge l.length 4 with h4 | h4
    · have hneg : (l.length : Int) - 4 < 0 := by omega
      go_wp2_with fail
      refine (check_short A l.length c wc h4).mono ?_
      rintro e w' ⟨rfl, rfl⟩
      go_wp2_with fail
      go_quiet (fail)
      have HBC := hide (below_drewN HBC.out nq)
      generalize wc.drewN nq = w5 at *
      go_wp2
      go_ret
      exact ⟨rfl, HBC.out⟩
    · obtain ⟨k, hk⟩ : ∃ k, l.length = k + 4 := ⟨l.length - 4, by omega⟩
      have hk4 : (l.length : Int) - 4 = (k : Int) := by omega
      have hr := HC.out
      have hcc : l.length ≤ c := hr.2.1
      have HF := hide (hr.head (k := k) (by omega))
      have HT := hide (show Row wc (· < w.heap.size) (A.map (·.add k)) 4 (c - k) (octs (l.drop k)) by
        have := hr.tail (k := k) (by omega) (by omega)
        rwa [show l.length - k = 4 by omega] at this)
      have OF := hide (HO.out.take k)
      have OT := hide (HO.out.drop k)
      obtain ⟨M2, hM2⟩ : ∃ M2, M2 = crc (l.take k) := ⟨_, rfl⟩
      have hM2l : M2 < 4294967296 := by rw [hM2]; exact crc_lt
      have HM2 := hide hM2
      have hchk := fun ok => check_go A k c l M2 ok wc (by rw [← hk]; exact hr.within.mono fun _ h => h.2) HO.out (by omega) hM2
      rw [← hk] at hchk
      have hs1 : ∀ W, (Instr.slice 24 (.slice A l.length c) none (some (.int .i64 (k : Int))) none).run Try.prog W = .ok (.slice A k c) W := fun W => front_run W A l.length c k (by omega)
      have hs2 : ∀ W, (Instr.slice 24 (.slice A l.length c) (some (.int .i64 (k : Int))) none none).run Try.prog W = .ok (.slice (A.map (·.add k)) 4 (c - k)) W := fun W => by
        have := back_run W A l.length c k (by omega) (by omega) (by omega)
        rwa [show l.length - k = 4 by omega] at this
      have hwr : IntKind.u64.wrap (M2 : Int) = (M2 : Int) := by rw [IntKind.wrap_u64]; omega
      have LF := hide (show (l.take k).length = k by rw [List.length_take]; omega)
      clear hM2 hr
      have HKK := hide hk
      clear hk
      generalize l.take k = l1 at *
      generalize l.drop k = l2 at *
      by_cases hq : num l2 = (M2 : Int)
      · have HCK := hide (hchk true (decide_eq_true hq).symm)
        have hq' : ((M2 : Int) != (M2 : Int)) = false := by simp
        have HQ := hide hq
        clear hchk hq
        go_wp2_with fail
        refine HCK.out.mono ?_
        clear HCK
        rintro e w5 ⟨hf, -⟩
        obtain ⟨A5, c5, rfl, hown, hbl⟩ := hf (by trivial)
        rw [LF.out] at hown ⊢
        have HBC := hide (HBC.out.trans (hbl.mono HBC.out.size))
        have HF := hide (HF.out.below hbl (fun _ _ h => h))
        have HT := hide (HT.out.below hbl (fun _ _ h => h))
        have HY := hide (Row.of_own hown)
        have q1 := fun k' : Nat => hide (quiet_same (n := k') (get_num _ _ _ _ l2 (M2 : Int) (w5.drewN k') HQ.out.symm (HT.out.drewN k') OT.out (by omega)))
        have q2 := fun k' : Nat => hide (quiet_same (n := k') (ref_eq _ _ _ _ l1 M2 (w5.drewN k') HM2.out (HF.out.drewN k') OF.out))
        clear hf hown hbl
        go_wp2_with fail
        go_quiet ((first | (with_reducible exact (q1 _).out) | (with_reducible exact (q2 _).out)))
        clear q1 q2
        have HBC := hide (below_drewN HBC.out nq)
        have hf6 := HF.out.drewN nq
        have hy6 := HY.out.drewN nq
        generalize w5.drewN nq = w6 at *
        have hs3 : ∀ k', (convert 24 9 (.slice A k c)).run Try.prog (w6.drewN k') = .ok (.string (strOfNums l1)) (w6.drewN k') := fun k' => conv_row (hf6.drewN k')
        have hs4 : ∀ k', (convert 24 9 (.slice A5 k c5)).run Try.prog (w6.drewN k') = .ok (.string (strOfNums l1)) (w6.drewN k') := fun k' => conv_row (hy6.drewN k')
        clear hf6 hy6 HF HT HY HM2 hwr hs2
        generalize strOfNums l1 = T at *
        go_wp2_with fail
        go_quiet (fail)
        have HBC := hide (below_drewN HBC.out nq)
        generalize w6.drewN nq = w7 at *
        clear hs3 hs4
        go_wp2
        go_ret
        exact ⟨rfl, HBC.out⟩
      · have HCK := hide (hchk false (decide_eq_false hq).symm)
        generalize hN : num l2 = N at *
        have hq' : (N != (M2 : Int)) = true := by simpa using hq
        have HN := hide hN.symm
        clear hchk hq hN
        go_wp2_with fail
        refine HCK.out.mono ?_
        clear HCK
        rintro e w5 ⟨-, hf⟩
        obtain ⟨rfl, hbl⟩ := hf (by trivial)
        have HBC := hide (HBC.out.trans (hbl.mono HBC.out.size))
        have HF := hide (HF.out.below hbl (fun _ _ h => h))
        have HT := hide (HT.out.below hbl (fun _ _ h => h))
        have q1 := fun k' : Nat => hide (quiet_same (n := k') (get_num _ _ _ _ l2 N (w5.drewN k') HN.out (HT.out.drewN k') OT.out (by omega)))
        have q2 := fun k' : Nat => hide (quiet_same (n := k') (ref_eq _ _ _ _ l1 M2 (w5.drewN k') HM2.out (HF.out.drewN k') OF.out))
        clear hf hbl
        go_wp2_with fail
        go_quiet ((first | (with_reducible exact (q1 _).out) | (with_reducible exact (q2 _).out)))
        clear q1 q2
        have HBC := hide (below_drewN HBC.out nq)
        generalize w5.drewN nq = w6 at *
        clear HF HT HM2 hwr hs2 hs1
        go_wp2
        go_ret
        exact ⟨rfl, HBC.out⟩
end Go.Proofs.Ytimohlnghcbanaa
