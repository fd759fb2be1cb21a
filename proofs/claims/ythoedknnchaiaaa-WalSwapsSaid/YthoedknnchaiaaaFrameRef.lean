/-
  The contracts of the reference's frames: Put, Get, All.
-/
import Derived.Test.YthoedknnchaiaaaFrameM
import Derived.Test.YthoedknnchaiaaaPlain
import Derived.Test.YthoedknnchaiaaaCrcB
import Derived.Test.YthoedknnchaiaaaSliceRow
namespace Go.Proofs.Ythoedknnchaiaaa
open Go.RowKit
set_option linter.unusedVariables false

theorem own_none (w : World) (base : Nat) (t : TypeId) : w.ownsRow base t 1 (.slice none 0 0) 0 [] := ⟨rfl, .inl ⟨rfl, rfl⟩⟩
theorem own_base {w : World} {base base' : Nat} {e : TypeId} {size : Nat} {v : Value} {n : Nat} {xs : List Value} (h : w.ownsRow base e size v n xs) (hb : base' ≤ base) : w.ownsRow base' e size v n xs := own_mono h hb
theorem own_block {w : World} {base : Nat} {e : TypeId} {size : Nat} {v : Value} {n : Nat} {xs : List Value} (h : w.ownsRow base e size v n xs) : ∀ g, v.ownBlock = some g → base ≤ g := fun g hg => (h.lt g hg).1

theorem refframe_put (P : Nat → Prop) (A : Option Addr) (n c : Nat) (l : List Int) (w : World) (h : Row w P A n c (octs l)) (ho : Octs l) (hn : n ≤ 140737488355000) :
    Calls Try.prog 53 #[.slice A n c] w fun e w' => Fresh w (frameOf l) w' e := by
  obtain rfl : n = l.length := by rw [← h.1, octs_len]
  obtain ⟨i5, hi, hz0, hz1, hz2⟩ := info_parts info5
  have H := hide h.all
  have HO := hide ho
  have hM := crc_lt (l := l)
  have hfr : frameOf l = inOcts (l.length : Int) 2 ++ l ++ inOcts ((crc l : Nat) : Int) 4 ++ [90] := rfl
  generalize hMM : crc l = M at *
  have HM := hide hMM.symm
  have HF := hide hfr
  clear h ho hMM hfr
  go_enter Try.func53, Try.ntmps53
  go_wp2_with fail
  refine (refput_yes _ none 0 0 [] (l.length : Int) 2 _ (Row.nil _ (fun _ => True) none) (fun n hn => by cases hn) (by omega) (by omega) (by omega) (by omega) (by omega)).mono ?_
  rintro e w1 ⟨A1, c1, rfl, hown, hbl⟩
  rw [List.nil_append, inOcts_len] at hown ⊢
  have HR := hide (Row.of_own hown).all
  have HB := hide hbl
  have HN := hide (own_none w1 w.heap.size 5)
  clear hown hbl
  go_wp2_with (at_builtin; refine wpList_append_row _ rfl _ _ 32 rfl w.heap.size 5 i5 (.int .u8 0) 1 Try.underlying32 hi hz0 hz1 hz2 rfl _ 0 [] rfl HN.out _ A1 2 c1 (octs (inOcts (l.length : Int) 2)) rfl HR.out (octs_one _) ?h1 ?h2 HB.out.size ?_)
  case h1 => unfold maxLen; omega
  case h2 => omega
  intro v2 w2 hown hgr _
  have hown : w2.ownsRow w.heap.size 5 1 v2 2 (octs (inOcts (l.length : Int) 2)) := by simpa using hown
  obtain ⟨A2, c2, rfl⟩ := own_form hown
  have HOW := hide hown
  have HB2 := hide (HB.out.grown hgr HB.out.size (own_block HN.out))
  have H2 := hide (H.out.below HB2.out (fun _ _ h => h))
  clear hown hgr HR HB HN
  go_wp2_with (at_builtin; refine wpList_append_row _ rfl _ _ 32 rfl w.heap.size 5 i5 (.int .u8 0) 1 Try.underlying32 hi hz0 hz1 hz2 rfl _ 2 _ rfl HOW.out _ A l.length c (octs l) rfl H2.out (octs_one _) ?h1 ?h2 HB2.out.size ?_)
  case h1 => unfold maxLen; omega
  case h2 => omega
  intro v3 w3 hown hgr _
  obtain ⟨A3, c3, rfl⟩ := own_form hown
  rw [octs_append] at hown
  have HB3 := hide (HB2.out.grown hgr HB2.out.size (own_block HOW.out))
  have HOW := hide hown
  have H3 := hide (H.out.below HB3.out (fun _ _ h => h))
  clear hown hgr HB2 H2
  go_wp2_with fail
  refine (ref_eq _ _ _ _ l M _ HM.out H3.out HO.out).mono ?_
  rintro e w' ⟨rfl, rfl⟩
  go_wp2_with fail
  refine (refput_yes _ none 0 0 [] (M : Int) 4 _ (Row.nil _ (fun _ => True) none) (fun n hn => by cases hn) (by omega) (by omega) (by omega) (by omega) (by omega)).mono ?_
  rintro e w4 ⟨A4, c4, rfl, hown, hbl⟩
  rw [List.nil_append, inOcts_len] at hown ⊢
  have HR := hide (Row.of_own hown).all
  have HB4 := hide (HB3.out.trans (hbl.mono HB3.out.size))
  have HOW := hide (own_below HOW.out hbl)
  clear hown hbl HB3 H3
  go_wp2_with (at_builtin; refine wpList_append_row _ rfl _ _ 32 rfl w.heap.size 5 i5 (.int .u8 0) 1 Try.underlying32 hi hz0 hz1 hz2 rfl _ (2 + l.length) _ rfl HOW.out _ A4 4 c4 (octs (inOcts (M : Int) 4)) rfl HR.out (octs_one _) ?h1 ?h2 HB4.out.size ?_)
  case h1 => unfold maxLen; omega
  case h2 => omega
  intro v5 w5 hown hgr _
  obtain ⟨A5, c5, rfl⟩ := own_form hown
  rw [octs_append] at hown
  have HB5 := hide (HB4.out.grown hgr HB4.out.size (own_block HOW.out))
  have HOW := hide hown
  clear hown hgr HB4 HR
  go_wp2_with (at_builtin; refine wpList_append_own_at _ rfl _ _ 32 rfl w.heap.size 5 i5 (.int .u8 0) 1 1 Try.underlying32 hi hz0 hz1 hz2 rfl (by decide) _ (2 + l.length + 4) _ rfl (HOW.out.alloc _) ⟨w5.heap.size, 0, none⟩ 1 1 [.int .u8 90] rfl rfl (cell_one_new _ _ _) (by simp [Value.oneCell']) ?h1 ?h2 ?h3 ?_)
  case h1 => unfold maxLen; omega
  case h2 => omega
  case h3 => have := HB5.out.size; simp; omega
  intro v6 w6 hown hgr _ _
  obtain ⟨A6, c6, rfl⟩ := own_form hown
  rw [← octs_append', show inOcts (l.length : Int) 2 ++ (l ++ inOcts (M : Int) 4) ++ [90] = frameOf l by rw [HF.out]; simp] at hown
  have HB6 := hide ((HB5.out.alloc HB5.out.size (.cells #[.int .u8 90] 5)).grown hgr (by have := HB5.out.size; simp; omega) (own_block HOW.out))
  have HOW := hide hown
  clear hown hgr HB5
  have HL := hide (frameOf_len l)
  go_wp2
  go_ret
  have e : 2 + l.length + 4 + 1 = (frameOf l).length := by rw [HL.out]; omega
  have ho := HOW.out
  rw [e] at ho
  refine ⟨A6, c6, ?_, ho, HB6.out⟩
  rw [← e]
  rfl

theorem front_short {l : List Int} (h : l.length < 8) : front l = 0 := by
  refine Classical.byContradiction fun hf => ?_
  have := front_pos hf
  omega
theorem head_two (l : List Int) (h : 2 ≤ l.length) : num (l.take 2) = l.getD 0 0 * 256 + l.getD 1 0 := by
  rw [num_more l 1 (by omega), num_more l 0 (by omega)]
  simp [num]

/-- What the reference's Get answers. -/
def RefGot (w : World) (A : Option Addr) (c : Nat) (l : List Int) (w' : World) (e : Ending) : Prop :=
  (front l = 0 → e = .returned (.tuple #[.slice none 0 0, .int .i64 0])) ∧ (front l ≠ 0 → e = .returned (.tuple #[.slice (A.map (·.add 2)) (front l) (c - 2), .int .i64 ((front l : Int) + 7)])) ∧ Below w.heap.size w w'
theorem refgot_none {w w' : World} {A : Option Addr} {c : Nat} {l : List Int} {e : Ending} (hf : front l = 0) (he : e = .returned (.tuple #[.slice none 0 0, .int .i64 0])) (hb : Below w.heap.size w w') : RefGot w A c l w' e :=
  ⟨fun _ => he, fun h => absurd hf h, hb⟩
theorem refgot_some {w w' : World} {A : Option Addr} {c n : Nat} {l : List Int} {e : Ending} (hf : front l = n) (hn : 1 ≤ n) (he : e = .returned (.tuple #[.slice (A.map (·.add 2)) n (c - 2), .int .i64 ((n : Int) + 7)])) (hb : Below w.heap.size w w') : RefGot w A c l w' e :=
  ⟨fun h => by omega, fun _ => by rw [hf]; exact he, hb⟩

theorem refframe_get (A : Option Addr) (n c : Nat) (l : List Int) (w : World) (h : Row w (· < w.heap.size) A n c (octs l)) (ho : Octs l) (hn : n ≤ 140737488355000) :
    Calls Try.prog 80 #[.slice A n c] w fun e w' => RefGot w A c l w' e := by
  obtain rfl : n = l.length := by rw [← h.1, octs_len]
  rcases Nat.lt_or_ge l.length 8 with h8 | h8
  · have hf := hide (front_short h8)
    go_enter Try.func80, Try.ntmps80
    go_wp2
    go_ret2
    exact refgot_none hf.out rfl (Below.refl _ _)
  · obtain ⟨b, o, rfl, -, -, hc⟩ := h.some_ (by omega)
    have hc0 := (hc 0 (by omega)).trans (octs_at l 0 (by omega))
    have hc1 := (hc 1 (by omega)).trans (octs_at l 1 (by omega))
    rw [Nat.add_zero] at hc0
    have z0 := ho.getD 0
    have z1 := ho.getD 1
    have h2 := head_two l (by omega)
    have hcap := h.2.1
    have hl0 : (0 : Int) < (l.length : Int) := by omega
    have hl1 : (1 : Int) < (l.length : Int) := by omega
    generalize l.getD 0 0 = x0 at *
    generalize l.getD 1 0 = x1 at *
    obtain ⟨N, hN⟩ : ∃ N : Nat, x0 * 256 + x1 = (N : Int) := ⟨(x0 * 256 + x1).toNat, by omega⟩
    have hN2 : N < 65536 := by omega
    have hfr : front l = if 1 ≤ N ∧ N ≤ 4096 ∧ N + 7 ≤ l.length ∧ l.take (N + 7) = frameOf ((l.drop 2).take N) then N else 0 := by
      unfold front
      rw [h2, hN, Int.toNat_natCast]
    have HFR := hide hfr
    have H := hide h
    have HO := hide ho
    clear hc h2 hfr h ho
    have hw : IntKind.i64.wrap (x0 * 256) = x0 * 256 := by rw [IntKind.wrap_i64]; omega
    have hw2 : IntKind.i64.wrap (x0 * 256 + x1) = (N : Int) := by rw [hN, IntKind.wrap_i64]; omega
    go_enter Try.func80, Try.ntmps80
    go_wp2_with fail
    go_quiet (fail)
    have H := hide (H.out.drewN nq)
    have HB := hide (below_drewN (Below.refl w.heap.size w) nq)
    have HZ := hide (show (w.drewN nq).heap.size = w.heap.size from rfl)
    generalize w.drewN nq = w1 at *
    clear hc0 hc1 hw hw2
    have none_ : ∀ {w'}, Below w.heap.size w w' → front l = 0 → RefGot w (some ⟨b, o, none⟩) c l w' (.returned (.tuple #[.slice none 0 0, .int .i64 0])) := fun hb hf => refgot_none hf rfl hb
    rcases Nat.lt_or_ge N 1 with hn1 | hn1
    · have hf : front l = 0 := by rw [HFR.out, if_neg (by omega)]
      have NN := hide (none_ HB.out hf)
      clear none_ hf
      go_wp2
      go_ret2
      exact NN.out
    rcases Nat.lt_or_ge 4096 N with hn2 | hn2
    · have hf : front l = 0 := by rw [HFR.out, if_neg (by omega)]
      have NN := hide (none_ HB.out hf)
      clear none_ hf
      go_wp2
      go_ret2
      exact NN.out
    rcases Nat.lt_or_ge l.length (N + 7) with hn3 | hn3
    · have hf : front l = 0 := by rw [HFR.out, if_neg (by omega)]
      have NN := hide (none_ HB.out hf)
      clear none_ hf
      go_wp2
      go_ret2
      exact NN.out
    have hs1 : ∀ W, (Instr.slice 32 (.slice (some ⟨b, o, none⟩) l.length c) (some (.int .i64 2)) (some (.int .i64 (2 + (N : Int)))) none).run Try.prog W = .ok (.slice (some ⟨b, o + 2, none⟩) N (c - 2)) W := fun W => by
      have := cut_run W (some ⟨b, o, none⟩) l.length c 2 N (by omega)
      rw [if_neg (by omega)] at this
      exact this
    have hs2 : ∀ W, (Instr.slice 32 (.slice (some ⟨b, o, none⟩) l.length c) none (some (.int .i64 ((N : Int) + 7))) none).run Try.prog W = .ok (.slice (some ⟨b, o, none⟩) (N + 7) c) W := fun W => by
      have := front_run W (some ⟨b, o, none⟩) l.length c (N + 7) (by omega)
      simpa using this
    have hmid := H.out.mid (i := 2) (k := N) (by omega)
    rw [if_neg (by omega)] at hmid
    have HM := hide (show Row w1 (· < w.heap.size) (some ⟨b, o + 2, none⟩) N (c - 2) (octs ((l.drop 2).take N)) from hmid)
    have HOM := hide ((HO.out.drop 2).take N)
    have HFT := hide (H.out.head (k := N + 7) (by omega))
    have HOT := hide (HO.out.take (N + 7))
    have hlm : ((l.drop 2).take N).length = N := by rw [List.length_take, List.length_drop]; omega
    have HLF := hide (show (frameOf ((l.drop 2).take N)).length = N + 7 by rw [frameOf_len, hlm])
    have hfr : front l = if l.take (N + 7) = frameOf ((l.drop 2).take N) then N else 0 := by
      rw [HFR.out]
      by_cases he : l.take (N + 7) = frameOf ((l.drop 2).take N)
      · rw [if_pos ⟨hn1, hn2, hn3, he⟩, if_pos he]
      · rw [if_neg (fun h => he h.2.2.2), if_neg he]
    have HFR := hide hfr
    have HFO := hide (frameOf_octs HOM.out)
    clear hmid hlm hfr
    generalize (l.drop 2).take N = m at *
    generalize l.take (N + 7) = t at *
    go_wp2_with fail
    refine (refframe_put _ _ _ _ m _ HM.out HOM.out (by omega)).mono ?_
    rintro e w2 ⟨A2, c2, rfl, hown, hbl⟩
    rw [HLF.out] at hown ⊢
    have HR2 := hide (Row.of_own hown)
    have HB2 := hide (HB.out.trans (hbl.mono (by rw [HZ.out]; exact Nat.le_refl _)))
    have HT2 := hide (HFT.out.below hbl (fun _ _ h => h))
    clear hown hbl
    have hq1 : ∀ k', (convert 32 9 (.slice A2 (N + 7) c2)).run Try.prog (w2.drewN k') = .ok (.string (strOfNums (frameOf m))) (w2.drewN k') := fun k' => conv_row (HR2.out.drewN k')
    have hq2 : ∀ k', (convert 32 9 (.slice (some ⟨b, o, none⟩) (N + 7) c)).run Try.prog (w2.drewN k') = .ok (.string (strOfNums t)) (w2.drewN k') := fun k' => conv_row (HT2.out.drewN k')
    by_cases he : t = frameOf m
    · have hfl : front l = N := by rw [HFR.out, if_pos he]
      have HFL := hide hfl
      rw [← he] at hq1
      clear hfl he
      generalize strOfNums t = T at *
      go_wp2_with fail
      go_quiet (fail)
      have HB2 := hide (below_drewN HB2.out nq)
      generalize w2.drewN nq = w3 at *
      clear hq1 hq2 none_
      go_wp2
      go_ret2
      exact refgot_some HFL.out hn1 rfl HB2.out
    · have hfl : front l = 0 := by rw [HFR.out, if_neg he]
      have hne := text_ne HFO.out HOT.out (fun e => he e.symm)
      have NN := hide (fun w' hb => none_ (w' := w') hb hfl)
      clear hfl he none_
      generalize strOfNums (frameOf m) = T1 at *
      generalize strOfNums t = T2 at *
      go_wp2_with fail
      go_quiet (fail)
      have HB2 := hide (below_drewN HB2.out nq)
      generalize w2.drewN nq = w3 at *
      clear hq1 hq2
      go_wp2
      go_ret2
      exact NN.out _ HB2.out

/-- The frames that l begins with, as a list of slices. -/
def Listed (w : World) (l : List Int) (w' : World) (e : Ending) : Prop :=
  ∃ A k c, e = .returned (.tuple #[.slice A k c, .int .i64 ((frames l).2 : Int)]) ∧ Parts w' A k (frames l).1 ∧ Below w.heap.size w w'

/-- The same, with its memory: an own row of slices, which lie where the octets do. -/
def ListedV (w : World) (P : Nat → Prop) (l : List Int) (w' : World) (e : Ending) : Prop :=
  ∃ A k c vs, e = .returned (.tuple #[.slice A k c, .int .i64 ((frames l).2 : Int)]) ∧ w'.ownsRow w.heap.size 32 1 (.slice A k c) k vs ∧ Vals w' P vs (frames l).1 ∧ Below w.heap.size w w'

set_option maxRecDepth 100000 in
theorem refframe_vals {w : World} (P : Nat → Prop) (hP : ∀ b, P b → b < w.heap.size) (A : Option Addr) (n c : Nat) (l : List Int) (h : Row w P A n c (octs l)) (ho : Octs l) (hn : n ≤ 40000000000000) :
    Calls Try.prog 72 #[.slice A n c] w fun e w' => ListedV w P l w' e := by
  obtain rfl : n = l.length := by rw [← h.1, octs_len]
  obtain ⟨i6, hi, hz0, hz1, hz2⟩ := info_parts info24
  have H := hide h
  have HO := hide ho
  have hcap := h.2.1
  have hcb := h.2.2.1
  have hmx := frames_le l.length l (Nat.le_refl _)
  generalize hF : frames l = F at *
  have HF := hide hF
  clear h ho hF
  go_enter Try.func72, Try.ntmps72
  go_wp2
  go_loopw [4, 5] (fun v i wr => ∃ (p : Nat) (acc : List (List Int)) (vs : List Value), p ≤ l.length ∧ 8 * acc.length ≤ l.length ∧ i = .int .i64 p ∧ Hid (∃ A' c', v = .slice A' acc.length c') ∧ Hid (wr.ownsRow w.heap.size 32 1 v acc.length vs) ∧ Hid (Vals wr P vs acc) ∧ Hid (acc ++ (frames (l.drop p)).1 = F.1) ∧ Hid (p + (frames (l.drop p)).2 = F.2) ∧ Hid (Below w.heap.size w wr)) (fun _ i _ => l.length - (intOf i).toNat)
  case atStart => exact ⟨0, [], [], Nat.zero_le _, by simp, rfl, hide ⟨none, 0, rfl⟩, hide (own_none _ _ _), hide (Vals.nil _ _), hide (by rw [List.drop_zero, HF.out]; rfl), hide (by rw [List.drop_zero, HF.out]; omega), hide (Below.refl _ _)⟩
  case round =>
    obtain ⟨p, acc, vs, hp, hac, rfl, hv, how, hvs, hfr, hat, hbl⟩ := hrel
    obtain ⟨A', c', rfl⟩ := hv.out
    have hs1 : ∀ W, (Instr.slice 32 (.slice A l.length c) (some (.int .i64 (p : Int))) none none).run Try.prog W = .ok (.slice (if c = p then A else A.map (·.add p)) (l.length - p) (c - p)) W := fun W => tail_run W A l.length c p hp hcap
    have hrow := (H.out.below hbl.out (fun b h _ => hP b h)).back hp
    rw [octs_drop] at hrow
    generalize (if c = p then A else A.map (·.add p)) = B at *
    have HR := hide hrow
    have HOD := hide (HO.out.drop p)
    have hpb : (p : Int) ≤ (l.length : Int) := by omega
    clear hrow
    go_wp2_with fail
    refine (refframe_get B _ _ (l.drop p) _ (HR.out.mono fun b h => Nat.lt_of_lt_of_le (hP b h) hbl.out.size) HOD.out (by omega)).mono ?_
    rintro e w1 ⟨hg0, hg1, hb1⟩
    have HB1 := hide (hbl.out.trans (hb1.mono hbl.out.size))
    by_cases hf : front (l.drop p) = 0
    · have he := hg0 hf
      subst he
      have hst := frames_stop hf
      have e1 := hfr.out
      have e2 := hat.out
      rw [hst] at e1 e2
      simp only [List.append_nil, Nat.add_zero] at e1 e2
      have hpart := And.intro (own_below how.out hb1) (hvs.out.below hb1 (fun _ _ h => h))
      have HP := hide hpart
      have HE1 := hide e1
      have HE2 := hide e2
      clear hg0 hg1 hb1 hf hst e1 e2 hpart how hvs hfr hat hbl HR
      go_wp2
      go_ret2
      refine ⟨A', acc.length, c', vs, ?_, HP.out.1, by rw [HF.out, ← HE1.out]; exact HP.out.2, HB1.out⟩
      rw [HF.out, ← HE2.out]
      rfl
    · have he := hg1 hf
      subst he
      have hst := frames_step hf
      obtain ⟨q1, q2, q3, q4, -⟩ := front_pos hf
      rw [List.length_drop] at q3
      have e1 := hfr.out
      have e2 := hat.out
      rw [hst] at e1 e2
      have hdd : (l.drop p).drop (front (l.drop p) + 7) = l.drop (p + (front (l.drop p) + 7)) := by rw [List.drop_drop]
      rw [hdd] at e1 e2
      clear hdd
      have hrx := (HR.out.below hb1 (fun _ _ h => h)).mid (i := 2) (k := front (l.drop p)) (by omega)
      rw [if_neg (by omega)] at hrx
      have hox := (HOD.out.drop 2).take (front (l.drop p))
      have hF1 : acc.length + 1 ≤ F.1.length := by rw [← e1]; simp
      generalize hN : front (l.drop p) = N at *
      generalize ((l.drop p).drop 2).take N = x at *
      have HRX := hide hrx
      have HOX := hide hox
      have HE1 := hide (show (acc ++ [x]) ++ (frames (l.drop (p + (N + 7)))).1 = F.1 by rw [← e1]; simp)
      have HE2 := hide (show p + (N + 7) + (frames (l.drop (p + (N + 7)))).2 = F.2 by rw [← e2]; omega)
      have HOW := hide (own_below how.out hb1)
      have HVS := hide (hvs.out.below hb1 (fun _ _ h => h))
      have hc1 : acc.length + 1 ≤ maxLen := by unfold maxLen; omega
      have HC1 := hide hc1
      clear hg0 hg1 hst e1 e2 hrx hox how hvs hfr hat hbl HR hb1 hc1 q4 hN hf
      go_wp2_with (at_builtin; refine wpList_append_own_at _ rfl _ _ 37 rfl w.heap.size 32 i6 (.slice none 0 0) 1 24 Try.underlying37 hi hz0 hz1 hz2 rfl (by decide) _ acc.length _ rfl (HOW.out.alloc _) ⟨w1.heap.size, 0, none⟩ 1 1 [.slice (B.map (·.add 2)) N (c - p - 2)] rfl rfl (cell_one_new _ _ _) (by simp [Value.oneCell']) HC1.out ?c2 ?c3 ?_)
      case c2 => omega
      case c3 => have := HB1.out.size; simp; omega
      intro v' w2 hown' hgrow _ _
      have hba := HB1.out.alloc HB1.out.size (.cells #[.slice (B.map (·.add 2)) N (c - p - 2)] 32)
      have hb2 : Below w.heap.size w w2 := hba.grown hgrow (by have := HB1.out.size; simp; omega) (own_block HOW.out)
      have hb12 : Below w.heap.size w1 w2 := ((Below.refl _ w1).alloc HB1.out.size _).grown hgrow (by have := HB1.out.size; simp; omega) (own_block HOW.out)
      have HV := hide (show Vals w2 P (vs ++ [.slice (B.map (·.add 2)) N (c - p - 2)]) (acc ++ [x]) from (HVS.out.below hb12 (fun b h _ => hP b h)).snoc (HRX.out.below hb12 (fun b h _ => hP b h)) HOX.out)
      have HO2 := hide hown'
      have HF2 := hide (own_form hown')
      have HB2 := hide hb2
      have hla : (acc ++ [x]).length = acc.length + 1 := by simp
      have HLA := hide hla
      clear hown' hgrow hba hb2 hb12 hla
      go_wp2
      go_roundw
      case rel => exact ⟨p + (N + 7), acc ++ [x], _, by omega, by rw [HLA.out]; omega, by go_num, by rw [HLA.out]; exact HF2, by rw [HLA.out]; exact HO2, HV, HE1, HE2, HB2⟩
      case measure => simp [intOf]; omega
theorem refframe_all (A : Option Addr) (n c : Nat) (l : List Int) (w : World) (h : Row w (· < w.heap.size) A n c (octs l)) (ho : Octs l) (hn : n ≤ 40000000000000) :
    Calls Try.prog 72 #[.slice A n c] w fun e w' => Listed w l w' e :=
  (refframe_vals (· < w.heap.size) (fun _ h => h) A n c l h ho hn).mono fun e w' ⟨A', k, c', vs, he, h1, h2, h3⟩ => ⟨A', k, c', he, Parts.of_own h1 h2, h3⟩
end Go.Proofs.Ythoedknnchaiaaa
