/-
  The contracts of the library's Grow (of nothing), Clone and Concat at changes; the program's Without, Find, Last.
-/
import Derived.Test.YtfidglkhpikdbaaStampC
import Derived.Lib.AppendZerosOnto
import Derived.Lib.SliceRun
import Derived.Deep.CondSized
namespace Go.Proofs.Ytfidglkhpikdbaa
open Go.RowKit
set_option linter.unusedVariables false

/-- A slice without an element, in memory of its own or none. -/
def GrownC (w w' : World) (e : Ending) : Prop :=
  ∃ A c, e = .returned (.slice A 0 c) ∧ w'.ownsRow w.heap.size 25 9 (.slice A 0 c) 0 [] ∧ Below w.heap.size w w'
set_option maxHeartbeats 1000000 in
theorem growC_any (k : Nat) (w : World) (hk : k ≤ 1000000000100) :
    Calls Try.prog 28 #[.slice none 0 0, .int .i64 (k : Int)] w fun e w' => GrownC w w' e := by
  obtain ⟨i9, hi, hz0, hz1, hz2⟩ := info_parts infoChg
  rcases Nat.eq_zero_or_pos k with rfl | h0
  · go_enter Try.func28, Try.ntmps28
    go_wp2
    go_ret
    exact ⟨none, 0, rfl, ⟨rfl, .inl ⟨rfl, rfl⟩⟩, Below.refl _ _⟩
  · have h1 : ¬ ((k : Int) < 0) := by omega
    have h4 : (0 : Int) < (k : Int) := by omega
    have hs0 : ∀ W, (Instr.slice 28 (.slice none 0 0) none (some (.int .i64 0)) none).run Try.prog W = .ok (.slice none 0 0) W := fun W => by
      have := front_runC W none 0 0 0 (by omega)
      simpa using this
    have hrz := fun ty => Lib.run_append_grow_zeros (P := Try.prog) w 28 3 ty 25 i9 (.agg #[.int .i64 0, .int .i64 0, .int .i64 0, .int .i64 0, .int .i64 0, .int .i64 0, .int .i64 0, .int .i64 0, .int .i64 0]) .i64 .i64 Try.underlying28 Try.underlying3 hi hz0 none 0 0 [] (run_firstCells_none w.drew i9.size 0 0 0) k h0 (by rw [hz1]; decide) (by omega) (by omega)
        (by rw [hz2]; omega) (by have := growslice_fits (need := k) (old := 0) (bytes := i9.bytes) (by omega) (by rw [hz2]; omega); simpa using this)
    simp only [Nat.zero_add] at hrz
    have hGn : k ≤ grownCap w k 0 25 := grownCap_ge w _ _ _
    have hG2 := grownCap_le_maxLen w k 0 25 (by unfold maxLen; omega)
    generalize grownCap w k 0 25 = G at *
    unfold maxLen at hG2
    have hs1 : ∀ W, (Instr.slice 28 (.slice (some ⟨w.heap.size, 0, none⟩) k G) none (some (.int .i64 0)) none).run Try.prog W = .ok (.slice (some ⟨w.heap.size, 0, none⟩) 0 G) W := fun W => by
      have := front_runC W (some ⟨w.heap.size, 0, none⟩) k G 0 (by omega)
      simpa using this
    have HG := hide hGn
    have HG2 := hide hG2
    clear hGn hG2
    have hsz : (#[] ++ Builtin.zeroCells (Value.agg #[.int .i64 0, .int .i64 0, .int .i64 0, .int .i64 0, .int .i64 0, .int .i64 0, .int .i64 0, .int .i64 0, .int .i64 0]).cells k ++ Builtin.zeroCells (Value.agg #[.int .i64 0, .int .i64 0, .int .i64 0, .int .i64 0, .int .i64 0, .int .i64 0, .int .i64 0, .int .i64 0, .int .i64 0]).cells (G - k)).size = G * 9 := by
      have := HG.out
      simp [Builtin.zeroCells, Value.cells]
      omega
    have HSZ := hide hsz
    clear hsz
    generalize (#[] ++ Builtin.zeroCells (Value.agg #[.int .i64 0, .int .i64 0, .int .i64 0, .int .i64 0, .int .i64 0, .int .i64 0, .int .i64 0, .int .i64 0, .int .i64 0]).cells k ++ Builtin.zeroCells (Value.agg #[.int .i64 0, .int .i64 0, .int .i64 0, .int .i64 0, .int .i64 0, .int .i64 0, .int .i64 0, .int .i64 0, .int .i64 0]).cells (G - k)) = Z at *
    go_enter Try.func28, Try.ntmps28
    go_wp2_with (at_builtin; refine Lib.wpList_append_run _ rfl _ _ _ _ rfl _ _ rfl rfl _ _ (hrz _) ?_)
    go_ret
    refine ⟨_, G, rfl, ⟨rfl, .inr ⟨w.heap.size, G, Z, rfl, Nat.le_refl _, heap_alloc_new _ _, Nat.zero_le _, HG2.out, HSZ.out, by simp⟩⟩, ?_⟩
    exact (Below.refl _ w).drew.alloc (Nat.le_refl _) _

/-- A slice of slices of changes at block b: the lists ls. -/
def PartsC (w : World) (b : Nat) (ls : List (List Chg)) : Prop :=
  ∀ i (h : i < ls.length), ∃ (a : Option Addr) (c : Nat), w.cell? ⟨b, i, none⟩ = some (.slice a ls[i].length c) ∧ RowK w (fun _ => True) 9 a ls[i].length c (chgs ls[i])
theorem PartsC.below {w w' : World} {b : Nat} {ls : List (List Chg)} (h : PartsC w b ls) (hb : Below w.heap.size w w') : PartsC w' b ls := fun i hi => by
  obtain ⟨a, c, h1, h2⟩ := h i hi
  exact ⟨a, c, (hb.cell (World.block_lt_of_cell? w _ h1)).trans h1, h2.below (by omega) hb (fun _ _ h => h)⟩
theorem flat_takeC (ls : List (List Chg)) (j : Nat) (h : j < ls.length) : (ls.take (j + 1)).flatten = (ls.take j).flatten ++ ls[j] := by
  rw [List.take_succ_eq_append_getElem h, List.flatten_append]
  simp
theorem flat_take_leC (ls : List (List Chg)) (j : Nat) : (ls.take j).flatten.length ≤ ls.flatten.length := by
  conv => rhs; rw [← List.take_append_drop j ls, List.flatten_append, List.length_append]
  omega

set_option maxHeartbeats 1000000 in
theorem concatC_any (b n c : Nat) (ls : List (List Chg)) (w : World) (h : PartsC w b ls) (hl : n = ls.length) (hc : n ≤ 1000) (hn : ls.flatten.length ≤ 1000000000100) :
    Calls Try.prog 22 #[.slice (some ⟨b, 0, none⟩) n c] w fun e w' => FreshC w ls.flatten w' e := by
  subst hl
  obtain ⟨i9, hi, hz0, hz1, hz2⟩ := info_parts infoChg
  have HP := hide h
  have HN := hide hn
  clear h hn
  go_enter Try.func22, Try.ntmps22
  go_wp2
  go_loop [3, 11] (fun v i => ∃ (m j : Nat), j ≤ ls.length ∧ m ≤ 1000000000100 ∧ v = .int .i64 (m : Int) ∧ i = .int .i64 j ∧ Hid (m = (ls.take j).flatten.length)) (fun _ i => ls.length - (intOf i).toNat)
  case atStart => exact ⟨0, 0, Nat.zero_le _, by omega, rfl, rfl, hide (by simp)⟩
  case round =>
    obtain ⟨m, j, hj, hm', rfl, rfl, hmr⟩ := hrel
    by_cases hlt : j < ls.length
    · obtain ⟨a, c2, hcell, hrow⟩ := HP.out j hlt
      have hk : m + ls[j].length = (ls.take (j + 1)).flatten.length := by
        rw [flat_takeC ls j hlt, List.length_append, ← hmr.out]
      have hk2 : m + ls[j].length ≤ 1000000000100 := by
        rw [hk]
        exact Nat.le_trans (flat_take_leC ls _) HN.out
      have HK := hide hk
      clear hrow hk
      generalize ls[j].length = q at *
      have h0 : ¬ ((m : Int) + (q : Int) < 0) := by omega
      go_wp2
      go_round
      case rel => exact ⟨m + q, j + 1, by omega, by omega, by go_num, by go_num, HK⟩
      case measure => simp [intOf]; omega
    · obtain rfl : j = ls.length := by omega
      clear hlt
      go_wp2_with fail
      refine (growC_any m _ (by omega)).mono ?_
      rintro e w1 ⟨A1, c1, rfl, hown, hbl⟩
      have HOW := hide hown
      have HB := hide hbl
      clear hown hbl hmr
      go_wp2
      go_loopw [6, 27] (fun v i wr => ∃ (j : Nat), j ≤ ls.length ∧ i = .int .i64 j ∧ Hid (∃ A' c', v = .slice A' (ls.take j).flatten.length c') ∧ Hid (wr.ownsRow w.heap.size 25 9 v (ls.take j).flatten.length (chgs (ls.take j).flatten)) ∧ Hid (Below w.heap.size w wr)) (fun _ i _ => ls.length - (intOf i).toNat)
      case atStart => exact ⟨0, Nat.zero_le _, rfl, hide ⟨A1, c1, rfl⟩, HOW, HB⟩
      case round =>
        obtain ⟨j, hj, rfl, hv, how, hbl⟩ := hrel
        obtain ⟨A', c', rfl⟩ := hv.out
        by_cases hlt : j < ls.length
        · obtain ⟨a, c2, hcell, hrow⟩ := (HP.out.below hbl.out) j hlt
          have hk : chgs (ls.take j).flatten ++ chgs ls[j] = chgs (ls.take (j + 1)).flatten := by
            rw [flat_takeC ls j hlt, chgs_append]
          have hk1 : (ls.take j).flatten.length + ls[j].length = (ls.take (j + 1)).flatten.length := by
            rw [flat_takeC ls j hlt, List.length_append]
          have hk2 : (ls.take j).flatten.length + ls[j].length ≤ 1000000000100 := by
            rw [hk1]
            exact Nat.le_trans (flat_take_leC ls _) HN.out
          have HK := hide hk
          have HK1 := hide hk1
          have HK2 := hide hk2
          have HR := hide hrow
          clear hrow hk hk1 hk2 hv HOW HB
          generalize ls[j] = l at *
          generalize (ls.take j).flatten = p at *
          go_wp2_with (at_builtin; refine wpList_append_rowK _ rfl _ _ 28 rfl w.heap.size 25 i9 _ 9 72 Try.underlying28 hi hz0 hz1 hz2 rfl (by decide) _ p.length _ rfl how.out _ a l.length c2 (chgs l) rfl HR.out (chgs_one _) ?h1 ?h2 hbl.out.size ?_)
          case h1 => have := HK2.out; unfold maxLen; omega
          case h2 => have := HK2.out; omega
          intro v2 w2 hown hgr _
          obtain ⟨A2, c2', rfl⟩ := own_formK hown
          have HB2 := hide (hbl.out.grown hgr hbl.out.size (fun g hg => (how.out.lt g hg).1))
          rw [HK.out] at hown
          have HOW := hide hown
          clear hown hgr
          go_wp2
          go_roundw
          case rel => exact ⟨j + 1, by omega, by go_num, hide ⟨A2, c2', by rw [HK1.out]⟩, hide (by have := HOW.out; rw [HK1.out] at this ⊢; exact this), HB2⟩
          case measure => simp [intOf]; omega
        · obtain rfl : j = ls.length := by omega
          clear hlt
          have how := how.out
          rw [List.take_length] at how ⊢
          have HOW := hide how
          clear how hv
          go_wp2
          go_ret
          exact ⟨A', c', rfl, HOW.out, hbl.out⟩

theorem cloneC_any (P : Nat → Prop) (A : Option Addr) (n c : Nat) (l : List Chg) (w : World) (h : RowK w P 9 A n c (chgs l)) (hn : n ≤ 1000000000000) :
    Calls Try.prog 23 #[.slice A n c] w fun e w' => FreshC w l w' e := by
  have hl : l.length = n := by have := h.1; rw [chgs_len] at this; omega
  obtain ⟨i9, hi, hz0, hz1, hz2⟩ := info_parts infoChg
  cases A with
  | none =>
    have h0 : n = 0 := by
      rcases Nat.eq_zero_or_pos n with h0 | h0
      · exact h0
      · obtain ⟨b, o, e, _⟩ := h.some_ (by omega) h0
        cases e
    subst h0
    have hnil : l = [] := List.eq_nil_of_length_eq_zero hl
    subst hnil
    have hq := fun W => Lib.run_eql_slice_nil (P := Try.prog) W 28 25 none 0 c 0 0 Try.underlying28
    clear h hl
    go_enter Try.func23, Try.ntmps23
    go_wp2
    go_ret
    exact ⟨none, 0, rfl, ⟨rfl, .inl ⟨rfl, rfl⟩⟩, Below.refl _ _⟩
  | some a =>
    have hq := fun W => Lib.run_eql_slice_nil (P := Try.prog) W 28 25 (some a) n c 0 0 Try.underlying28
    have H := hide h
    have HL := hide hl
    clear h hl
    have hown : (w.alloc (.cells #[] 25)).ownsRow w.heap.size 25 9 (.slice (some ⟨w.heap.size, 0, none⟩) 0 0) 0 [] := ⟨rfl, .inr ⟨w.heap.size, 0, #[], rfl, Nat.le_refl _, heap_alloc_new _ _, Nat.le_refl _, by unfold maxLen; omega, rfl, rfl⟩⟩
    have HO := hide hown
    clear hown
    go_enter Try.func23, Try.ntmps23
    go_wp2_with (at_builtin; refine wpList_append_rowK _ rfl _ _ 28 rfl w.heap.size 25 i9 _ 9 72 Try.underlying28 hi hz0 hz1 hz2 rfl (by decide) _ 0 [] rfl HO.out _ (some a) n c (chgs l) rfl (H.out.alloc (by omega) _) (chgs_one _) ?h1 ?h2 ?h3 ?_)
    case h1 => unfold maxLen; omega
    case h2 => omega
    case h3 => simp
    intro v' w1 hown' hgrow _
    obtain ⟨A', c', rfl⟩ := own_formK hown'
    have HB := hide (show Below w.heap.size w w1 from ((Below.refl _ w).alloc (Nat.le_refl _) _).grown hgrow (by simp) (by simp [Value.ownBlock]))
    have HW := hide hown'
    clear hown' hgrow
    go_wp2
    go_ret
    refine ⟨A', c', ?_, ?_, HB.out⟩
    · rw [HL.out]; simp
    · have := HW.out
      rw [HL.out]
      simpa using this

theorem skip_out (i : Int) : ∀ (l : List Chg) (k : Nat), (i < (k : Int) ∨ (k : Int) + (l.length : Int) ≤ i) → skip i k l = l := by
  intro l
  induction l with
  | nil => intro k _; rfl
  | cons x l ih =>
    intro k h
    rw [List.length_cons] at h
    rw [skip, if_neg (by omega), ih (k + 1) (by omega)]
theorem skip_in : ∀ (l : List Chg) (k j : Nat), j < l.length → skip ((k + j : Nat) : Int) k l = l.take j ++ l.drop (j + 1) := by
  intro l
  induction l with
  | nil => intro k j h; exact absurd h (by simp)
  | cons x l ih =>
    intro k j h
    rw [List.length_cons] at h
    cases j with
    | zero =>
      rw [skip, if_pos (by omega), skip_out _ l (k + 1) (by omega)]
      rfl
    | succ j =>
      rw [skip, if_neg (by omega), show k + (j + 1) = k + 1 + j by omega, ih (k + 1) j (by omega)]
      rfl
set_option maxHeartbeats 1000000 in
theorem swithout_any (P : Nat → Prop) (A : Option Addr) (n c : Nat) (l : List Chg) (i : Int) (w : World) (h : RowK w P 9 A n c (chgs l)) (hn : n ≤ 1000000000000) :
    Calls Try.prog 11 #[.slice A n c, .int .i64 i] w fun e w' => FreshC w (skip i 0 l) w' e := by
  have hl : l.length = n := by have := h.1; rw [chgs_len] at this; omega
  have hcl := cloneC_any P A n c l w h hn
  have CL := hide hcl
  clear hcl
  by_cases h0 : i < 0
  · rw [skip_out i l 0 (by omega)]
    clear h hl
    go_enter Try.func11, Try.ntmps11
    go_wp2_with (go_at_call 23; refine CL.out.mono ?_; rintro e w1 ⟨A1, c1, rfl, hown, hbl⟩)
    go_ret
    exact ⟨A1, c1, rfl, hown, hbl⟩
  · by_cases h1 : (n : Int) ≤ i
    · rw [skip_out i l 0 (by omega)]
      clear h hl
      go_enter Try.func11, Try.ntmps11
      go_wp2_with (go_at_call 23; refine CL.out.mono ?_; rintro e w1 ⟨A1, c1, rfl, hown, hbl⟩)
      go_ret
      exact ⟨A1, c1, rfl, hown, hbl⟩
    · obtain ⟨j, rfl⟩ : ∃ j : Nat, i = (j : Int) := ⟨i.toNat, by omega⟩
      have hj : j < n := by omega
      have hsk := skip_in l 0 j (by omega)
      rw [Nat.zero_add] at hsk
      rw [hsk]
      have hcap := h.2.1
      have hcb := h.2.2.1
      have hfr := h.front (i := j) (by omega)
      rw [chgs_take] at hfr
      have hbk := h.back (i := j + 1) (by omega)
      rw [chgs_drop] at hbk
      have hs1 : ∀ W, (Instr.slice 28 (.slice A n c) none (some (.int .i64 (j : Int))) none).run Try.prog W = .ok (.slice A j c) W := fun W => front_runC W A n c j (by omega)
      have hs2 : ∀ W, (Instr.slice 28 (.slice A n c) (some (.int .i64 ((j : Int) + 1))) none none).run Try.prog W = .ok (.slice (if c = j + 1 then A else A.map (·.add ((j + 1) * 9))) (n - (j + 1)) (c - (j + 1))) W := fun W => by
        have := tail_runC W A n c (j + 1) (by omega) hcap
        rwa [show ((j + 1 : Nat) : Int) = (j : Int) + 1 by omega] at this
      generalize (if c = j + 1 then A else A.map (·.add ((j + 1) * 9))) = B at *
      have LEN := hide (show (l.take j).length = j ∧ (l.drop (j + 1)).length = n - (j + 1) by rw [List.length_take, List.length_drop]; omega)
      generalize l.take j = l1 at *
      generalize l.drop (j + 1) = l2 at *
      have CC : Hid (∀ v, Since w v → Calls Try.prog 22 #[.slice (some ⟨v.heap.size, 0, none⟩) 2 2] (v.alloc (.cells #[.slice A j c, .slice B (n - (j + 1)) (c - (j + 1))] 28)).drew fun e w' => FreshC w (l1 ++ l2) w' e) := by
        intro v hv
        have hp : PartsC (v.alloc (.cells #[.slice A j c, .slice B (n - (j + 1)) (c - (j + 1))] 28)) v.heap.size [l1, l2] := by
          intro i hi
          have hle := LEN.out
          rcases i with _ | _ | i
          · refine ⟨A, c, ?_, ?_⟩
            · simp [hle.1]
            · have := ((hfr.below (by omega) hv (fun _ _ h => h)).alloc (by omega) (.cells #[.slice A j c, .slice B (n - (j + 1)) (c - (j + 1))] 28)).mono (Q := fun _ => True) (fun _ _ => trivial)
              simpa [hle.1] using this
          · refine ⟨B, c - (j + 1), ?_, ?_⟩
            · simp [hle.2]
            · have := ((hbk.below (by omega) hv (fun _ _ h => h)).alloc (by omega) (.cells #[.slice A j c, .slice B (n - (j + 1)) (c - (j + 1))] 28)).mono (Q := fun _ => True) (fun _ _ => trivial)
              simpa [hle.2] using this
          · exact absurd hi (by simp)
        refine (concatC_any v.heap.size 2 2 [l1, l2] (v.alloc (.cells #[.slice A j c, .slice B (n - (j + 1)) (c - (j + 1))] 28)).drew hp rfl (by omega) (by have := LEN.out; simp; omega)).mono ?_
        rintro e w' ⟨A1, c1, rfl, hown, hbl⟩
        have hb : Below w.heap.size w (v.alloc (.cells #[.slice A j c, .slice B (n - (j + 1)) (c - (j + 1))] 28)).drew := (hv.alloc _).drew
        simp only [List.flatten_cons, List.flatten_nil, List.append_nil] at hown ⊢
        exact ⟨A1, c1, rfl, own_baseK hown (Below.size hb), hb.trans (hbl.mono (Below.size hb))⟩
      have rj : IntKind.i64.wrap ((j : Int) + 1) = (j : Int) + 1 := by rw [IntKind.wrap_i64]; omega
      have hr0 := (Since.refl w).drew
      clear h hl hfr hbk hsk CL LEN
      go_enter Try.func11, Try.ntmps11
      go_wp2_with fail
      go_region_held (fun w' => Since w w') (first | assumption | exact Since.alloc (by assumption) _) (first
        | (go_at_call 22; refine (CC.out _ (by first | assumption | exact Since.refl _)).mono ?_; rintro e w5 ⟨A1, c1, rfl, hown, hbl⟩; have hs5 : Since w w5 := hbl))
      all_goals go_wp2
      all_goals go_ret
      all_goals exact ⟨A1, c1, by rw [List.length_append]; rfl, by rw [List.length_append] at hown ⊢; exact hown, hbl⟩

theorem sfind_any (P : Nat → Prop) (A : Option Addr) (n c : Nat) (l : List Chg) (r s : Int) (w : World) (h : RowK w P 9 A n c (chgs l)) :
    Calls Try.prog 15 #[.slice A n c, .agg #[.int .i64 r, .int .i64 s]] w fun e w' => e = .returned (.int .i64 (seek r s 0 l)) ∧ Below w.heap.size w w' := by
  have hl : l.length = n := by have := h.1; rw [chgs_len] at this; omega
  have hcap := h.2.1
  have hcb := h.2.2.1
  have H := hide (h.inb (by omega))
  have HL := hide hl
  generalize hF : seek r s 0 l = F at *
  have HF := hide hF
  obtain ⟨W, hW⟩ : ∃ W, W = w.alloc (.cells #[.int .i64 r, .int .i64 s] 23) := ⟨_, rfl⟩
  have HX := hide (show Blk W w.heap.size 23 #[.int .i64 r, .int .i64 s] by rw [hW]; exact Blk.new w _ _)
  have HBW := hide (show Below w.heap.size w W by rw [hW]; exact (Below.refl _ w).alloc (Nat.le_refl _) _)
  have HW := hide hW
  clear h hl hF hW
  go_enter Try.func15, Try.ntmps15
  go_wp2
  rw [← HW.out]
  go_loopw [8] (fun k wr => ∃ (j : Nat), j ≤ n ∧ k = .int .i64 j ∧ Hid (seek r s j (l.drop j) = F) ∧ Hid (Since W wr)) (fun k _ => n - (intOf k).toNat)
  case atStart => exact ⟨0, Nat.zero_le _, rfl, hide (by rw [List.drop_zero, HF.out]), hide (Since.refl _)⟩
  case round =>
    obtain ⟨j, hj, rfl, hfr, hs⟩ := hrel
    have HB := hide (HBW.out.trans (Below.mono hs.out HBW.out.size))
    by_cases hlt : j < n
    · obtain ⟨b, o, x, rfl, -, hb, hx, hat⟩ := chgs_at (H.out.below (by omega) HB.out (fun _ h _ => h.2)) hlt
      have e := hfr.out
      rw [drop_step hx, seek] at e
      have HI := HX.out.below hs.out HX.out.lt
      have i0 := (HI.cell 0).trans rfl
      have i1 := (HI.cell 1).trans rfl
      obtain ⟨x0, x1, x2, x3, x4, x5, x6, x7, x8⟩ := hat
      by_cases hid : x.r = r ∧ x.s = s
      · rw [if_pos hid] at e
        have HE := hide e
        have hq : ∀ W, (Op.equalIn 10000 23 (.agg #[.int .i64 x.r, .int .i64 x.s]) (.agg #[.int .i64 r, .int .i64 s])).run Try.prog W = .ok true W := fun W => by
          have := id_equal x.r x.s r s 9998 W
          rwa [decide_eq_true hid] at this
        clear e hx HI hid x2 x3 x4 x5 x6 x7 x8
        go_wp2_with fail
        go_quiet (fail)
        have HB3 := hide (below_drewN HB.out nq)
        generalize wr.drewN nq = w3 at *
        clear x0 x1 i0 i1 hq
        go_wp2
        go_ret
        exact ⟨by rw [← HE.out]; rfl, HB3.out⟩
      · rw [if_neg hid] at e
        have HE := hide e
        have hq : ∀ W, (Op.equalIn 10000 23 (.agg #[.int .i64 x.r, .int .i64 x.s]) (.agg #[.int .i64 r, .int .i64 s])).run Try.prog W = .ok false W := fun W => by
          have := id_equal x.r x.s r s 9998 W
          rwa [decide_eq_false hid] at this
        clear e hx HI hid x2 x3 x4 x5 x6 x7 x8
        go_wp2_with fail
        go_quiet (fail)
        have HS3 := hide (show Since W (wr.drewN nq) from below_drewN hs.out nq)
        generalize wr.drewN nq = w3 at *
        clear x0 x1 i0 i1 hq
        go_wp2
        go_roundw
        case rel => exact ⟨j + 1, by omega, by go_num, HE, HS3⟩
        case measure => simp [intOf]; omega
    · obtain rfl : j = n := by omega
      have e := hfr.out
      rw [List.drop_of_length_le (by rw [HL.out]; exact Nat.le_refl _), seek] at e
      subst e
      clear hlt hfr HF
      go_wp2
      go_ret
      exact ⟨rfl, HB.out⟩


theorem lastT_step {l : List Chg} {j : Nat} {x : Chg} (h : l[j]? = some x) : lastT (l.take (j + 1)) = max (lastT (l.take j)) x.t := by
  unfold lastT
  rw [List.take_add_one, h]
  simp
theorem slast_any (P : Nat → Prop) (A : Option Addr) (n c : Nat) (l : List Chg) (w : World) (h : RowK w P 9 A n c (chgs l)) (ho : ∀ x ∈ l, x.ok) :
    Calls Try.prog 17 #[.slice A n c] w fun e w' => e = .returned (.int .i64 (lastT l)) ∧ Below w.heap.size w w' := by
  have hl : l.length = n := by have := h.1; rw [chgs_len] at this; omega
  have hcap := h.2.1
  have hcb := h.2.2.1
  have H := hide (h.inb (by omega))
  have HL := hide hl
  clear h hl ho
  go_enter Try.func17, Try.ntmps17
  go_wp2
  go_loopw [3, 8] (fun m k wr => ∃ (j : Nat) (M : Int), j ≤ n ∧ k = .int .i64 j ∧ m = .int .i64 M ∧ Hid (M = lastT (l.take j)) ∧ Hid (Since w wr)) (fun _ k _ => n - (intOf k).toNat)
  case atStart => exact ⟨0, 0, Nat.zero_le _, rfl, rfl, hide (by simp [lastT]), hide (Since.refl _)⟩
  case round =>
    obtain ⟨j, M, hj, rfl, rfl, hM, hs⟩ := hrel
    by_cases hlt : j < n
    · obtain ⟨b, o, x, rfl, -, hb, hx, hat⟩ := chgs_at (H.out.below (by omega) hs.out (fun _ h _ => h.2)) hlt
      have E := hide (lastT_step hx)
      have HS := hide (show ∀ ob, Since w (wr.alloc ob) from fun ob => hs.out.alloc ob)
      obtain ⟨x0, x1, x2, x3, x4, x5, x6, x7, x8⟩ := hat
      obtain ⟨xr, xs, xt, xk, xa, xb, xn, xp, xq⟩ := x
      simp only at x0 x1 x2 x3 x4 x5 x6 x7 x8
      clear hx hs
      by_cases hm : M < xt
      · have E2 := hide (show xt = lastT (l.take (j + 1)) by rw [E.out, ← hM.out]; simp only; omega)
        clear E
        go_wp2
        go_roundw
        case rel => exact ⟨j + 1, xt, by omega, by go_num, rfl, E2, HS.out _⟩
        case measure => simp [intOf]; omega
      · have E2 := hide (show M = lastT (l.take (j + 1)) by rw [E.out, ← hM.out]; simp only; omega)
        clear E
        go_wp2
        go_roundw
        case rel => exact ⟨j + 1, M, by omega, by go_num, rfl, E2, HS.out _⟩
        case measure => simp [intOf]; omega
    · obtain rfl : j = n := by omega
      have e := hM.out
      rw [List.take_of_length_le (by rw [HL.out]; exact Nat.le_refl _)] at e
      subst e
      clear hlt hM
      go_wp2
      go_ret
      exact ⟨rfl, hs.out⟩
end Go.Proofs.Ytfidglkhpikdbaa
