/-
  The contracts of package frame: Size, told, Put, Get, All.
-/
import Derived.Test.YthoedknnchaiaaaFrameC
import Derived.Test.YthoedknnchaiaaaConcat
namespace Go.Proofs.Ythoedknnchaiaaa
open Go.RowKit
set_option linter.unusedVariables false

theorem fsize_any (n : Int) (w : World) : Calls Try.prog 86 #[.int .i64 n] w fun e w' => e = .returned (.int .i64 (fsize n)) ∧ w = w' := by
  by_cases h : 1 ≤ n ∧ n ≤ 4096
  · have hf : fsize n = n + 7 := if_pos h
    obtain ⟨h1, h2⟩ := h
    have hw : IntKind.i64.wrap (2 + n) = 2 + n := by rw [IntKind.wrap_i64]; omega
    have hw2 : IntKind.i64.wrap (2 + n + 5) = n + 7 := by rw [IntKind.wrap_i64]; omega
    have HF := hide hf
    clear hf
    go_enter Try.func86, Try.ntmps86
    go_wp2_with fail
    refine (in_yes _ _ _ _ h1 h2).mono ?_
    rintro e w' ⟨rfl, rfl⟩
    go_wp2
    go_ret
    refine ⟨?_, rfl⟩
    rw [HF.out]
    rfl
  · have hf : fsize n = 0 := if_neg h
    have HF := hide hf
    have HK := hide (show n < 1 ∨ 4096 < n by omega)
    clear hf h
    go_enter Try.func86, Try.ntmps86
    go_wp2_with fail
    refine (in_no _ _ _ _ HK.out).mono ?_
    rintro e w' ⟨rfl, rfl⟩
    go_wp2
    go_ret
    refine ⟨?_, rfl⟩
    rw [HF.out]
    rfl

theorem parts_new {w : World} {P : Nat → Prop} {vs : Array Value} {ls : List (List Int)} (n : Nat) (t : TypeId) (hn : vs.size = n) (hb : n ≤ maxLen) (h : Vals w P vs.toList ls) :
    Parts (w.alloc (.cells vs t)) (some ⟨w.heap.size, 0, none⟩) n ls :=
  Parts.of_own (base := w.heap.size) (World.ownsRow_lit w vs n (Nat.le_refl _) hb (by rw [hn, Nat.mul_one])) (h.turn fun r => r.alloc _)

theorem fput_any (P : Nat → Prop) (A : Option Addr) (n c : Nat) (l : List Int) (w : World) (h : Row w P A n c (octs l)) (ho : Octs l) :
    Calls Try.prog 58 #[.slice A n c] w fun e w' => FPut w l w' e := by
  obtain rfl : n = l.length := by rw [← h.1, octs_len]
  have hcap := h.2.1
  have hcb := h.2.2.1
  rcases Nat.eq_zero_or_pos l.length with h0 | h0
  · have h0' : ((l.length : Nat) : Int) = 0 := by omega
    have HZ := hide h0
    have hl : l = [] := List.eq_nil_of_length_eq_zero h0
    subst hl
    clear HZ h0 h0'
    go_enter Try.func58, Try.ntmps58
    go_wp2
    go_ret2
    exact ⟨fun _ => rfl, fun h => by simp at h, fun h => by simp at h, Below.refl _ _⟩
  rcases Nat.lt_or_ge 4096 l.length with h1 | h1
  · have h0' : ¬ ((l.length : Int) = 0) := by omega
    have h1' : (4096 : Int) < (l.length : Int) := by omega
    have H0 := hide h0
    have H1 := hide h1
    clear h0 h1 h ho
    go_enter Try.func58, Try.ntmps58
    go_wp2
    go_ret2
    exact ⟨fun h => by have := H0.out; omega, fun _ => rfl, fun _ h => by have := H1.out; omega, Below.refl _ _⟩
  have h0' : ¬ ((l.length : Int) = 0) := by omega
  have h1' : ¬ ((4096 : Int) < (l.length : Int)) := by omega
  have hw : IntKind.u64.wrap (l.length : Int) = (l.length : Int) := by rw [IntKind.wrap_u64]; omega
  have H := hide h.all
  have HO := hide ho
  have hM := crc_lt (l := l)
  have hfr : frameOf l = [inOcts (l.length : Int) 2, l ++ inOcts ((crc l : Nat) : Int) 4, [90]].flatten := by
    simp [frameOf]
  have HF0 := hide (frameOf_len l)
  generalize hMM : crc l = M at *
  have HM := hide hMM.symm
  have HF := hide hfr
  clear h ho hMM hfr
  go_enter Try.func58, Try.ntmps58
  go_wp2_with fail
  refine (put_yes _ none 0 0 [] (l.length : Int) 2 _ (Row.nil _ (fun _ => True) none) (fun n hn => by cases hn) (by omega) (by omega) (by omega) (by omega) (by omega)).mono ?_
  rintro e w1 ⟨A1, c1, rfl, hown, hbl⟩
  rw [List.nil_append, inOcts_len] at hown ⊢
  have HR1 := hide (Row.of_own hown).all
  have HB1 := hide hbl
  have H1 := hide (H.out.below hbl (fun _ _ h => h))
  clear hown hbl
  go_wp2_with fail
  refine (put_any _ _ _ _ l M _ HM.out H1.out HO.out (by omega)).mono ?_
  rintro e w2 ⟨A2, c2, rfl, hown, hbl⟩
  have HR2 := hide (Row.of_own hown).all
  have HB2 := hide (HB1.out.trans (hbl.mono HB1.out.size))
  have HR1 := hide (HR1.out.below hbl (fun _ _ h => h))
  have HL2 := hide (show (l ++ inOcts (M : Int) 4).length = l.length + 4 by rw [List.length_append, inOcts_len])
  have HO2 := hide (HO.out.append (inOcts_octs (M : Int) 4))
  clear hown hbl HB1 H1 H
  generalize l ++ inOcts (M : Int) 4 = m at *
  have HR3 := hide (Row.of_own (World.ownsRow_lit (base := 0) (e := 5) (size := 1) w2 #[.int .u8 90] 1 (Nat.zero_le _) (by unfold maxLen; omega) rfl)).all
  have HO1 := hide (inOcts_octs (l.length : Int) 2)
  have HF2 := hide (show frameOf l = [inOcts (l.length : Int) 2, m, [90]].flatten from HF.out)
  have HFL := hide (show ([inOcts (l.length : Int) 2, m, [90]].flatten).length ≤ 140737488355000 by rw [← HF.out, HF0.out]; omega)
  clear HF
  generalize inOcts (l.length : Int) 2 = k at *
  have hvals : Vals (w2.alloc (.cells #[.int .u8 90] 5)) (fun _ => True) (#[.slice A1 2 c1, .slice A2 (l.length + 4) c2, .slice (some ⟨w2.heap.size, 0, none⟩) 1 1] : Array Value).toList [k, m, [90]] :=
    (((Vals.nil _ (fun _ => True)).snoc (HR1.out.alloc _) HO1.out).snoc (by have := HR2.out.alloc (.cells #[.int .u8 90] 5); rwa [HL2.out] at this) HO2.out).snoc (l := [90]) HR3.out (fun n hn => by rw [List.mem_singleton.1 hn]; omega)
  have hp := parts_new 3 32 rfl (by unfold maxLen; omega) hvals
  rw [show (w2.alloc (.cells #[.int .u8 90] 5)).heap.size = w2.heap.size + 1 by simp] at hp
  have HP := hide hp
  clear hvals hp
  rw [HL2.out]
  go_wp2_with fail
  refine (concat_any _ _ _ _ _ HP.out HFL.out).mono ?_
  rintro e w3 ⟨A3, c3, rfl, hown, hbl⟩
  rw [← HF2.out, HF0.out] at hown ⊢
  have HOW := hide hown
  have HB3 := hide (((HB2.out.alloc HB2.out.size (.cells #[.int .u8 90] 5)).alloc (by have := HB2.out.size; simp; omega) _).trans (hbl.mono (by have := HB2.out.size; simp; omega)))
  clear hown hbl
  go_wp2
  go_ret2
  refine ⟨fun h => absurd h (by omega), fun h => absurd h (by omega), fun _ _ => ⟨A3, c3, rfl, own_base HOW.out (by have := HB2.out.size; simp; omega)⟩, HB3.out⟩

def ftold (l : List Int) : Int := if 2 ≤ l.length then fsize (num (l.take 2)) else 0
theorem fsize_lt (n : Int) : 0 ≤ fsize n ∧ fsize n ≤ 4103 := by
  unfold fsize
  split <;> omega
theorem told_any (A : Option Addr) (n c : Nat) (l : List Int) (w : World) (h : Row w (· < w.heap.size) A n c (octs l)) (ho : Octs l) :
    Calls Try.prog 77 #[.slice A n c] w fun e w' => e = .returned (.int .i64 (ftold l)) ∧ Below w.heap.size w w' := by
  obtain rfl : n = l.length := by rw [← h.1, octs_len]
  have hcap := h.2.1
  have hcb := h.2.2.1
  have HO := hide ho
  rcases Nat.lt_or_ge l.length 2 with h2 | h2
  · have ht : ftold l = 0 := if_neg (by omega)
    have hmn : min (2 : Int) (l.length : Int) = (l.length : Int) := by omega
    have hs1 : ∀ W, (Instr.slice 32 (.slice A l.length c) none (some (.int .i64 (l.length : Int))) none).run Try.prog W = .ok (.slice A l.length c) W := fun W => front_run W A l.length c l.length hcap
    have HT := hide ht
    have HR := hide h
    have H2 := hide h2
    clear h ho ht
    go_enter Try.func77, Try.ntmps77
    go_wp2_with fail
    refine (new_any _ _ _ _ l _ HR.out HO.out (by omega)).mono ?_
    rintro e w1 ⟨g, rfl, hg, hr, hb⟩
    have HRD := hide hr
    have HB := hide hb
    have HG := hide hg
    clear hr hb hg
    go_wp2_with fail
    refine (take_no _ g _ 2 _ HRD.out (by right; right; have := H2.out; omega)).mono ?_
    rintro e w2 ⟨rfl, -, ht⟩
    have HB2 := hide (HB.out.trans (ht.below HB.out.size (fun k hk e => by have := HG.out; omega)))
    clear ht
    go_wp2_with fail
    refine (fsize_any 0 _).mono ?_
    rintro e w' ⟨rfl, rfl⟩
    go_wp2
    go_ret
    refine ⟨?_, HB2.out⟩
    rw [HT.out]
    rfl
  · have ht : ftold l = fsize (num (l.take 2)) := if_pos h2
    have hmn : min (2 : Int) (l.length : Int) = 2 := by omega
    have hs1 : ∀ W, (Instr.slice 32 (.slice A l.length c) none (some (.int .i64 2)) none).run Try.prog W = .ok (.slice A 2 c) W := fun W => front_run W A l.length c 2 (by omega)
    have hl2 : (l.take 2).length = 2 := by rw [List.length_take]; omega
    have hN := num_lt (l.take 2) (ho.take 2)
    rw [hl2] at hN
    have HL2 := hide hl2
    have HT := hide ht
    have HR := hide (h.head (k := 2) h2)
    have HO := hide (ho.take 2)
    clear h ho ht hl2
    have HE := hide (show (l.take 2).take 2 = l.take 2 from List.take_of_length_le (by rw [HL2.out]; omega))
    generalize l.take 2 = m at *
    go_enter Try.func77, Try.ntmps77
    go_wp2_with fail
    refine (new_any _ _ _ _ m _ HR.out HO.out (by omega)).mono ?_
    rintro e w1 ⟨g, rfl, hg, hr, hb⟩
    have HRD := hide hr
    have HB := hide hb
    have HG := hide hg
    clear hr hb hg
    go_wp2_with fail
    refine (take_yes _ g _ 2 _ HRD.out (by rw [HL2.out]; omega) (by omega) (by omega)).mono ?_
    rintro e w2 ⟨rfl, -, ht⟩
    rw [HE.out]
    have HB2 := hide (HB.out.trans (ht.below HB.out.size (fun k hk e => by have := HG.out; omega)))
    clear ht
    generalize num m = N at *
    have hw : IntKind.i64.wrap N = N := by rw [IntKind.wrap_i64]; omega
    go_wp2_with fail
    refine (fsize_any N _).mono ?_
    rintro e w' ⟨rfl, rfl⟩
    go_wp2
    go_ret
    refine ⟨?_, HB2.out⟩
    rw [HT.out]
    rfl

theorem ftold_cases (l : List Int) : (ftold l = 0 ∧ front l = 0) ∨ ∃ N : Nat, 1 ≤ N ∧ N ≤ 4096 ∧ ftold l = (N : Int) + 7 ∧ 2 ≤ l.length ∧ num (l.take 2) = (N : Int) := by
  by_cases h2 : 2 ≤ l.length
  · by_cases hn : 1 ≤ num (l.take 2) ∧ num (l.take 2) ≤ 4096
    · refine .inr ⟨(num (l.take 2)).toNat, by omega, by omega, ?_, h2, by omega⟩
      unfold ftold fsize
      rw [if_pos h2, if_pos hn]
      omega
    · refine .inl ⟨?_, ?_⟩
      · unfold ftold fsize
        rw [if_pos h2, if_neg hn]
      · refine Classical.byContradiction fun hf => ?_
        obtain ⟨p1, p2, p3, p4, p5⟩ := front_pos hf
        omega
  · refine .inl ⟨if_neg h2, ?_⟩
    exact front_short (by omega)

theorem front_iff {l : List Int} {N : Nat} (ho : Octs l) (hN : num (l.take 2) = (N : Int)) (hl : N + 7 ≤ l.length) (hN2 : N < 65536) :
    l.take (N + 7) = frameOf ((l.drop 2).take N) ↔ l.getD (N + 6) 0 = 90 ∧ num (((l.drop 2).take (N + 4)).drop N) = ((crc ((l.drop 2).take N) : Nat) : Int) := by
  have e1 : l.take (N + 7) = l.take 2 ++ ((l.drop 2).take N ++ (((l.drop 2).take (N + 4)).drop N ++ [l.getD (N + 6) 0])) := by
    have a1 : l.take (N + 7) = l.take (N + 6) ++ [l.getD (N + 6) 0] := by
      rw [List.take_add_one, List.getElem?_eq_getElem (by omega), List.getD_eq_getElem?_getD, List.getElem?_eq_getElem (by omega)]
      rfl
    have a2 : l.take (N + 6) = l.take 2 ++ (l.drop 2).take (N + 4) := by
      rw [show N + 6 = 2 + (N + 4) by omega, List.take_add]
    have a3 : (l.drop 2).take (N + 4) = (l.drop 2).take N ++ ((l.drop 2).take (N + 4)).drop N := by
      have := (List.take_append_drop N ((l.drop 2).take (N + 4))).symm
      rwa [List.take_take, Nat.min_eq_left (by omega)] at this
    rw [a1, a2]
    conv => lhs; rw [a3]
    simp
  have l1 : (l.take 2).length = 2 := by rw [List.length_take]; omega
  have l2 : ((l.drop 2).take N).length = N := by rw [List.length_take, List.length_drop]; omega
  have l3 : (((l.drop 2).take (N + 4)).drop N).length = 4 := by rw [List.length_drop, List.length_take, List.length_drop]; omega
  have o1 := ho.take 2
  have o3 : Octs (((l.drop 2).take (N + 4)).drop N) := ((ho.drop 2).take _).drop _
  rw [e1]
  generalize l.take 2 = a at *
  generalize ((l.drop 2).take (N + 4)).drop N = b at *
  generalize (l.drop 2).take N = m at *
  generalize l.getD (N + 6) 0 = z at *
  have hc := crc_lt (l := m)
  have hf : frameOf m = inOcts (N : Int) 2 ++ (m ++ (inOcts ((crc m : Nat) : Int) 4 ++ [90])) := by
    unfold frameOf
    rw [l2]
    simp
  rw [hf]
  constructor
  · intro h
    obtain ⟨h1, h2⟩ := List.append_inj h (by rw [l1, inOcts_len])
    obtain ⟨_, h3⟩ := List.append_inj h2 rfl
    obtain ⟨h4, h5⟩ := List.append_inj h3 (by rw [l3, inOcts_len])
    refine ⟨by injection h5, ?_⟩
    rw [h4, num_inOcts _ _ (by omega) (by omega)]
  · rintro ⟨h1, h2⟩
    have ea : a = inOcts (N : Int) 2 := num_inj 2 _ _ l1 (inOcts_len _ _) o1 (inOcts_octs _ _) (by rw [num_inOcts _ _ (by omega) (by omega)]; exact hN)
    have eb : b = inOcts ((crc m : Nat) : Int) 4 := num_inj 4 _ _ l3 (inOcts_len _ _) o3 (inOcts_octs _ _) (by rw [num_inOcts _ _ (by omega) (by omega)]; exact h2)
    rw [ea, eb, h1]

theorem fgot_none {w w' : World} {l : List Int} {e : Ending} (hf : front l = 0) (he : e = .returned (.tuple #[.slice none 0 0, .int .i64 0, .bool false])) (hb : Below w.heap.size w w') : FGot w l w' e :=
  ⟨fun _ => he, fun h => absurd hf h, hb⟩
theorem fget_any (A : Option Addr) (n c : Nat) (l : List Int) (w : World) (h : Row w (· < w.heap.size) A n c (octs l)) (ho : Octs l) (hn : n ≤ 140737488355000) :
    Calls Try.prog 63 #[.slice A n c] w fun e w' => FGot w l w' e := by
  obtain rfl : n = l.length := by rw [← h.1, octs_len]
  have hcap := h.2.1
  have hcb := h.2.2.1
  have HO := hide ho
  rcases ftold_cases l with ⟨ht, hf⟩ | ⟨N, hN1, hN2, ht, hl2, hnum⟩
  · have HF := hide hf
    have HR := hide h
    have HT := hide ht
    clear h ho ht hf
    go_enter Try.func63, Try.ntmps63
    go_wp2_with fail
    refine (told_any _ _ _ l _ HR.out HO.out).mono ?_
    rintro e w1 ⟨rfl, hb⟩
    have HB := hide hb
    clear hb
    rw [HT.out]
    go_wp2
    go_ret3
    exact fgot_none HF.out rfl HB.out
  · rcases Nat.lt_or_ge l.length (N + 7) with h7 | h7
    · have hf : front l = 0 := by
        refine Classical.byContradiction fun hf => ?_
        obtain ⟨p1, p2, p3, p4, p5⟩ := front_pos hf
        omega
      have HF := hide hf
      have HR := hide h
      have HT := hide ht
      have h0 : ¬ ((N : Int) + 7 = 0) := by omega
      have h7' : (l.length : Int) < (N : Int) + 7 := by omega
      clear h ho ht hf hnum
      go_enter Try.func63, Try.ntmps63
      go_wp2_with fail
      refine (told_any _ _ _ l _ HR.out HO.out).mono ?_
      rintro e w1 ⟨rfl, hb⟩
      have HB := hide hb
      clear hb
      rw [HT.out]
      go_wp2
      go_ret3
      exact fgot_none HF.out rfl HB.out
    · obtain ⟨b, o, rfl, -, -, -⟩ := h.some_ (by omega)
      have hfi := front_iff ho hnum h7 (by omega)
      have hfr : front l = if l.take (N + 7) = frameOf ((l.drop 2).take N) then N else 0 := by
        unfold front
        rw [hnum, Int.toNat_natCast]
        by_cases he : l.take (N + 7) = frameOf ((l.drop 2).take N)
        · rw [if_pos ⟨hN1, hN2, h7, he⟩, if_pos he]
        · rw [if_neg (fun h => he h.2.2.2), if_neg he]
      have HT := hide ht
      have HR := hide h
      have h0 : ¬ ((N : Int) + 7 = 0) := by omega
      have h7' : ¬ ((l.length : Int) < (N : Int) + 7) := by omega
      have h0b : (((N : Int) + 7) == 0) = false := by simpa using h0
      have h7b : decide ((l.length : Int) < (N : Int) + 7) = false := by simpa using h7'
      have h6 : (N : Int) + 7 - 1 = ((N + 6 : Nat) : Int) := by omega
      have h6' : ((N + 6 : Nat) : Int) < (l.length : Int) := by omega
      have hw : IntKind.i64.wrap ((N : Int) + 7 - 1) = ((N + 6 : Nat) : Int) := by rw [IntKind.wrap_i64]; omega
      have HFI := hide hfi
      have HFR := hide hfr
      have HO2 := hide ((HO.out.drop 2).take (N + 4))
      have HZ := HO.out.getD (N + 6)
      clear h ho ht hfi hfr hnum
      go_enter Try.func63, Try.ntmps63
      go_wp2_with fail
      refine (told_any _ _ _ l _ HR.out HO.out).mono ?_
      rintro e w1 ⟨rfl, hb⟩
      have hr1 := HR.out.below hb (fun _ h _ => h)
      obtain ⟨b', o', he, -, hbl, hc⟩ := hr1.some_ (by omega)
      injection he with he
      injection he with he1 he2 he3
      subst he1 he2
      have hcell := (hc (N + 6) (by omega)).trans (octs_at l (N + 6) (by omega))
      have HR1 := hide hr1
      have HB := hide hb
      rw [HT.out]
      clear hb hc hr1 he3
      generalize hz : l.getD (N + 6) 0 = z at *
      have HZE := hide hz
      clear hz
      by_cases hz : z = 90
      · subst hz
        have hrow := HR1.out.mid (i := 2) (k := N + 4) (by omega)
        rw [if_neg (by omega)] at hrow
        have HROW := hide (show Row w1 (· < w.heap.size) (some ⟨b, o + 2, none⟩) (N + 4) (c - 2) (octs ((l.drop 2).take (N + 4))) from hrow)
        have HE := hide (show ((l.drop 2).take (N + 4)).take N = (l.drop 2).take N by rw [List.take_take, Nat.min_eq_left (by omega)])
        have HLM := hide (show ((l.drop 2).take N).length = N by rw [List.length_take, List.length_drop]; omega)
        have hfi := HFI.out
        simp only [true_and] at hfi
        have HFJ := hide hfi
        clear hrow hfi HFI
        generalize (l.drop 2).take (N + 4) = m at *
        generalize hqe : (l.drop 2).take N = q at *
        have HQ := hide hqe
        obtain ⟨S, hS⟩ : ∃ S, S = crc q := ⟨_, rfl⟩
        rw [← hS] at HFJ
        have HS := hide hS
        clear hS hqe
        go_wp2_with fail
        refine (check_go _ N _ m S (decide (num (m.drop N) = (S : Int))) _ (HROW.out.mono fun _ h => Nat.lt_of_lt_of_le h HB.out.size) HO2.out (by omega) (by rw [HE.out]; exact HS.out) rfl).mono ?_
        rintro e w2 ⟨hy, hno⟩
        by_cases hq : num (m.drop N) = (S : Int)
        · obtain ⟨A3, c3, rfl, hown, hbl⟩ := hy (decide_eq_true hq)
          have HF := hide (show front l = N by rw [HFR.out, if_pos (HFJ.out.2 hq)])
          rw [HE.out, HLM.out] at hown ⊢
          have HOW := hide (own_base hown HB.out.size)
          have HB2 := hide (HB.out.trans (hbl.mono HB.out.size))
          clear hy hno hown hbl hq
          go_wp2
          go_ret3
          refine ⟨fun h => by have := HF.out; omega, fun _ => ⟨A3, c3, ?_, ?_⟩, HB2.out⟩
          · rw [HF.out]; rfl
          · have := HOW.out
            rw [HF.out, HQ.out]
            exact this
        · obtain ⟨rfl, hbl⟩ := hno (decide_eq_false hq)
          have HF := hide (show front l = 0 by rw [HFR.out, if_neg (fun he => hq (HFJ.out.1 he))])
          have HB2 := hide (HB.out.trans (hbl.mono HB.out.size))
          clear hy hno hbl hq
          go_wp2
          go_ret3
          exact fgot_none HF.out rfl HB2.out
      · have hz' : (z != 90) = true := by simpa using hz
        have hf : front l = 0 := by rw [HFR.out, if_neg (fun he => hz (HFI.out.1 he).1)]
        have HF := hide hf
        clear hf
        go_wp2
        go_ret3
        exact fgot_none HF.out rfl HB.out

/-- Neither the list's own block, nor one to come. -/
def Far (v : Value) (w : World) (b : Nat) : Prop := some b ≠ v.ownBlock ∧ b < w.heap.size
theorem Row.inb {w : World} {P : Nat → Prop} {A : Option Addr} {n c : Nat} {xs : List Value} (h : Row w P A n c xs) : Row w (fun b => P b ∧ b < w.heap.size) A n c xs := by
  refine ⟨h.1, h.2.1, h.2.2.1, ?_⟩
  rcases Nat.eq_zero_or_pos n with h0 | h0
  · exact .inl h0
  · obtain ⟨b, o, e, hp, hlt, hc⟩ := h.some_ h0
    exact .inr ⟨b, o, e, ⟨hp, hlt⟩, hc⟩
theorem vals_later {w w1 : World} {v : Value} {vs : List Value} {acc : List (List Int)} (h : Vals w (Far v w) vs acc) (hb : Below w.heap.size w w1) : Vals w1 (Far v w1) vs acc :=
  h.turn fun r => (r.keep fun b hp _ => hb.block b hp.2).mono fun b hp => ⟨hp.1, Nat.lt_of_lt_of_le hp.2 hb.size⟩
theorem vals_grown {w w1 : World} {v v' : Value} {vs : List Value} {acc : List (List Int)} (h : Vals w (Far v w) vs acc) (hg : w.grownBy w1 v.ownBlock) (hv : v'.ownBlock = v.ownBlock ∨ v'.ownBlock = some w.heap.size) : Vals w1 (Far v' w1) vs acc :=
  h.turn fun r => (r.keep fun b hp _ => hg.block b hp.2 hp.1).mono fun b hp => ⟨by
    rcases hv with e | e
    · rw [e]; exact hp.1
    · rw [e]; intro h; injection h with h; have := hp.2; omega, Nat.lt_of_lt_of_le hp.2 hg.size⟩
theorem row_far {w w1 : World} {v : Value} {A : Option Addr} {k c : Nat} {xs : List Value} (h : w1.ownsRow w.heap.size 5 1 (.slice A k c) k xs) (hv : ∀ g, v.ownBlock = some g → g < w.heap.size) : Row w1 (Far v w1) A k c xs :=
  (Row.of_own h).inb.mono fun b hp => ⟨fun e => by have := hv b e.symm; have := hp.1; omega, hp.2⟩
theorem own_lt {w : World} {base : Nat} {e : TypeId} {size : Nat} {v : Value} {n : Nat} {xs : List Value} (h : w.ownsRow base e size v n xs) : ∀ g, v.ownBlock = some g → g < w.heap.size := fun g hg => (h.lt g hg).2

/-- .. with the list's capacity. -/
def ListedC (w : World) (l : List Int) (w' : World) (e : Ending) : Prop :=
  ∃ A c, e = .returned (.tuple #[.slice A (frames l).1.length c, .int .i64 ((frames l).2 : Int)]) ∧ Parts w' A (frames l).1.length (frames l).1 ∧ (frames l).1.length ≤ c ∧ c ≤ 9223372036854775807 ∧ Below w.heap.size w w'
theorem fallc_any (A : Option Addr) (n c : Nat) (l : List Int) (w : World) (h : Row w (· < w.heap.size) A n c (octs l)) (ho : Octs l) (hn : n ≤ 40000000000000) :
    Calls Try.prog 41 #[.slice A n c] w fun e w' => ListedC w l w' e := by
  obtain rfl : n = l.length := by rw [← h.1, octs_len]
  obtain ⟨i6, hi, hz0, hz1, hz2⟩ := info_parts info24
  have H := hide h
  have HO := hide ho
  have hcap := h.2.1
  have hcb := h.2.2.1
  have hmx := frames_le l.length l (Nat.le_refl _)
  generalize hF : frames l = F at *
  have HF := hide hF
  clear h ho hF
  go_enter Try.func41, Try.ntmps41
  go_wp2
  go_loopw [4, 5] (fun v i wr => ∃ (p : Nat) (acc : List (List Int)) (vs : List Value), p ≤ l.length ∧ 8 * acc.length ≤ l.length ∧ i = .int .i64 p ∧ Hid (∃ A' c', v = .slice A' acc.length c') ∧ Hid (wr.ownsRow w.heap.size 32 1 v acc.length vs) ∧ Hid (Vals wr (Far v wr) vs acc) ∧ Hid (acc ++ (frames (l.drop p)).1 = F.1) ∧ Hid (p + (frames (l.drop p)).2 = F.2) ∧ Hid (Below w.heap.size w wr)) (fun _ i _ => l.length - (intOf i).toNat)
  case atStart => exact ⟨0, [], [], Nat.zero_le _, by simp, rfl, hide ⟨none, 0, rfl⟩, hide (own_none _ _ _), hide (Vals.nil _ _), hide (by rw [List.drop_zero, HF.out]; rfl), hide (by rw [List.drop_zero, HF.out]; omega), hide (Below.refl _ _)⟩
  case round =>
    obtain ⟨p, acc, vs, hp, hac, rfl, hv, how, hvs, hfr, hat, hbl⟩ := hrel
    obtain ⟨A', c', rfl⟩ := hv.out
    have hs1 : ∀ W, (Instr.slice 32 (.slice A l.length c) (some (.int .i64 (p : Int))) none none).run Try.prog W = .ok (.slice (if c = p then A else A.map (·.add p)) (l.length - p) (c - p)) W := fun W => tail_run W A l.length c p hp hcap
    have hrow := (H.out.below hbl.out (fun _ h _ => h)).back hp
    rw [octs_drop] at hrow
    generalize (if c = p then A else A.map (·.add p)) = B at *
    have HR := hide hrow
    have HOD := hide (HO.out.drop p)
    have hpb : (p : Int) ≤ (l.length : Int) := by omega
    clear hrow
    go_wp2_with fail
    refine (fget_any B _ _ (l.drop p) _ (HR.out.mono fun _ h => Nat.lt_of_lt_of_le h hbl.out.size) HOD.out (by omega)).mono ?_
    rintro e w1 ⟨hg0, hg1, hb1⟩
    have HB1 := hide (hbl.out.trans (hb1.mono hbl.out.size))
    by_cases hf : front (l.drop p) = 0
    · have he := hg0 hf
      subst he
      have hst := frames_stop hf
      have e1 := hfr.out
      have e2 := hat.out
      rw [hst] at e1 e2
      simp only [List.append_nil, Nat.add_zero] at e1 e2
      have hpart := (Parts.of_own how.out hvs.out).below hb1
      have hro := Row.of_own how.out
      have HRO := hide (And.intro hro.2.1 hro.2.2.1)
      have HP := hide hpart
      have HE1 := hide e1
      have HE2 := hide e2
      clear hg0 hg1 hb1 hf hst e1 e2 hpart hro how hvs hfr hat hbl HR
      go_wp2
      go_ret2
      refine ⟨A', c', ?_, by rw [HF.out, ← HE1.out]; exact HP.out, by rw [HF.out, ← HE1.out]; exact HRO.out.1, HRO.out.2, HB1.out⟩
      rw [HF.out, ← HE2.out, ← HE1.out]
      rfl
    · obtain ⟨A3, c3, he, hown3⟩ := hg1 hf
      subst he
      have hst := frames_step hf
      obtain ⟨q1, q2, q3, q4, -⟩ := front_pos hf
      rw [List.length_drop] at q3
      have e1 := hfr.out
      have e2 := hat.out
      rw [hst] at e1 e2
      have hdd : (l.drop p).drop (front (l.drop p) + 7) = l.drop (p + (front (l.drop p) + 7)) := by rw [List.drop_drop]
      rw [hdd] at e1 e2
      clear hdd
      have hrx := row_far hown3 (own_lt how.out)
      have hox := (HOD.out.drop 2).take (front (l.drop p))
      have hF1 : acc.length + 1 ≤ F.1.length := by rw [← e1]; simp
      generalize hN : front (l.drop p) = N at *
      generalize ((l.drop p).drop 2).take N = x at *
      have HRX := hide hrx
      have HOX := hide hox
      have HE1 := hide (show (acc ++ [x]) ++ (frames (l.drop (p + (N + 7)))).1 = F.1 by rw [← e1]; simp)
      have HE2 := hide (show p + (N + 7) + (frames (l.drop (p + (N + 7)))).2 = F.2 by rw [← e2]; omega)
      have HOW := hide (own_below how.out hb1)
      have HVS := hide ((vals_later hvs.out hb1).snoc HRX.out HOX.out)
      have HC1 := hide (show acc.length + 1 ≤ maxLen by unfold maxLen; omega)
      clear hg0 hg1 hst e1 e2 hrx hox how hvs hfr hat hbl HR hb1 q4 hN hf hown3 HRX HOX
      go_wp2_with (at_builtin; refine wpList_append_own_at _ rfl _ _ 37 rfl w.heap.size 32 i6 (.slice none 0 0) 1 24 Try.underlying37 hi hz0 hz1 hz2 rfl (by decide) _ acc.length _ rfl (HOW.out.alloc _) ⟨w1.heap.size, 0, none⟩ 1 1 [.slice A3 N c3] rfl rfl (cell_one_new _ _ _) (by simp [Value.oneCell']) HC1.out ?c2 ?c3 ?_)
      case c2 => omega
      case c3 => have := HB1.out.size; simp; omega
      intro v' w2 hown' hgrow _ hat'
      have HB2 := hide ((HB1.out.alloc HB1.out.size (.cells #[.slice A3 N c3] 32)).grown hgrow (by have := HB1.out.size; simp; omega) (own_block HOW.out))
      have hsz : (w1.alloc (.cells #[.slice A3 N c3] 32)).heap.size = w1.heap.size + 1 := by simp
      have HV := hide (vals_grown (vals_later HVS.out ((Below.refl _ w1).alloc (Nat.le_refl _) (.cells #[.slice A3 N c3] 32))) hgrow (by rw [hsz]; exact hat'))
      clear hsz
      have HO2 := hide hown'
      have HF2 := hide (own_form hown')
      have hla : (acc ++ [x]).length = acc.length + 1 := by simp
      have HLA := hide hla
      clear hown' hgrow hla hat'
      go_wp2
      go_roundw
      case rel => exact ⟨p + (N + 7), acc ++ [x], _, by omega, by rw [HLA.out]; omega, by go_num, by rw [HLA.out]; exact HF2, by rw [HLA.out]; exact HO2, HV, HE1, HE2, HB2⟩
      case measure => simp [intOf]; omega
theorem fall_any (A : Option Addr) (n c : Nat) (l : List Int) (w : World) (h : Row w (· < w.heap.size) A n c (octs l)) (ho : Octs l) (hn : n ≤ 40000000000000) :
    Calls Try.prog 41 #[.slice A n c] w fun e w' => Listed w l w' e := (fallc_any A n c l w h ho hn).mono fun e w' h => by
  obtain ⟨A', c', h1, h2, h3, h4, h5⟩ := h
  exact ⟨A', _, c', h1, h2, h5⟩
end Go.Proofs.Ythoedknnchaiaaa
