/-
  The program's contracts: Sorted (the others: StampC, StampQ, Place).
-/
import Derived.Test.YtfidglkhpikdbaaPlace
import Derived.Test.YtfidglkhpikdbaaStable
import Derived.Sort.OwnSorted
namespace Go.Proofs.Ytfidglkhpikdbaa
open Go.RowKit Go.Shelf
open Go.Sort (SWO grow putRow putCells mapBlock onCells flatK HoldsK size_flatK)
set_option linter.unusedVariables false

instance : Inhabited Chg := ⟨noChg⟩
theorem bearsChg : Bears Try.prog 9 where
  mixed := by kernel_rfl
  fStable := Try.func29
  fIns := Try.func32
  fSym := Try.func33
  fRot := Try.func34
  fSwp := Try.func35
  t0 := Try.underlying0
  a0 := Try.isAgg0
  z0 := Try.sizeOf0
  v0 := Try.zeroValue0
  t3 := Try.underlying3
  a3 := Try.isAgg3
  z3 := Try.sizeOf3
  v3 := Try.zeroValue3
  t4 := Try.underlying4
  a4 := Try.isAgg4
  z4 := Try.sizeOf4
  v4 := Try.zeroValue4
  t22 := Try.underlying28
  a22 := Try.isAgg28
  z22 := Try.sizeOf28
  v22 := Try.zeroValue28
  t25 := Try.underlying38
  a25 := Try.isAgg38
  z25 := Try.sizeOf38
  v25 := Try.zeroValue38
  t54 := Try.underlying54
  a54 := Try.isAgg54
  z54 := Try.sizeOf54
  aE := Try.isAgg25
  zE := Try.sizeOf25

theorem ltOf_cmpC : Go.Proofs.ltOf cmpC = lessC := by
  funext x y
  exact cmpC_less x y
theorem swo_less : SWO lessC where
  irrefl x := by unfold lessC; simp
  trans x y z h1 h2 := by unfold lessC at *; simp only [decide_eq_true_eq] at *; omega
  ntrans x y z h1 h2 := by unfold lessC at *; simp only [decide_eq_false_iff_not] at *; omega
theorem cmpLays_chg (blk off size : Nat) (w : World) : CmpLays Try.prog 20 #[] Chg.cells 9 cmpC blk off size w := fun m os dk _ x y => scompare_any x y _

/-! ### putC sorts, and keeps the order of what is alike -/
theorem lastAt_spec (x : Chg) (l : List Chg) : ∀ j, j ≤ l.length → (∀ i (h : i < l.length), lastAt x l j ≤ i → i < j → lessC x l[i] = true) ∧ (∀ h : 0 < lastAt x l j, ∃ h2 : lastAt x l j - 1 < l.length, lessC x l[lastAt x l j - 1] = false) := by
  intro j
  induction j with
  | zero => intro _; exact ⟨fun i _ _ h => absurd h (Nat.not_lt_zero _), fun h => absurd h (Nat.lt_irrefl _)⟩
  | succ j ih =>
    intro hj
    obtain ⟨ih1, ih2⟩ := ih (by omega)
    have hjl : j < l.length := by omega
    have e : lastAt x l (j + 1) = if lessC x l[j] = true then lastAt x l j else j + 1 := by
      rw [lastAt, List.getElem?_eq_getElem hjl]
    by_cases hc : lessC x l[j] = true
    · rw [if_pos hc] at e
      rw [e]
      refine ⟨fun i h h1 h2 => ?_, ih2⟩
      rcases Nat.lt_or_ge i j with h3 | h3
      · exact ih1 i h h1 h3
      · obtain rfl : i = j := by omega
        exact hc
    · rw [if_neg hc] at e
      rw [e]
      exact ⟨fun i _ h1 h2 => by omega, fun _ => ⟨by omega, by simpa using hc⟩⟩
theorem putC_srt (l : List Chg) (x : Chg) (h : Srt lessC l) : Srt lessC (putC l x) ∧ Stab lessC (l ++ [x]) (putC l x) := by
  obtain ⟨h1, h2⟩ := lastAt_spec x l l.length (Nat.le_refl _)
  have hle := lastAt_le x l l.length
  unfold putC
  generalize lastAt x l l.length = q at *
  have hh := h
  rw [← List.take_append_drop q l] at hh
  have := put_right swo_less (y := x) hh (by
    refine fun z hz => upon_all swo_less (x1 := l.take q) (y2 := [x]) hh.left (Srt.one x) ?_ z hz x (by simp)
    rcases Nat.eq_zero_or_pos q with h0 | h0
    · left; rw [h0]; rfl
    · obtain ⟨h3, h4⟩ := h2 h0
      right; right
      refine ⟨l.take (q - 1), l[q - 1], x, [], ?_, rfl, h4⟩
      have := List.take_succ_eq_append_getElem h3
      rwa [show q - 1 + 1 = q by omega] at this) (fun z hz => by
    obtain ⟨i, hi, rfl⟩ := List.getElem_of_mem hz
    rw [List.length_drop] at hi
    rw [List.getElem_drop]
    exact h1 (q + i) (by omega) (by omega) (by omega))
  rwa [List.take_append_drop] at this
theorem sortC_srt (l : List Chg) : Srt lessC (sortC l) ∧ Stab lessC l (sortC l) := by
  have key : ∀ (l acc : List Chg), Srt lessC acc → Srt lessC (l.foldl putC acc) ∧ Stab lessC (acc ++ l) (l.foldl putC acc) := by
    intro l
    induction l with
    | nil => intro acc h; exact ⟨h, by rw [List.append_nil]; exact Stab.refl _⟩
    | cons x l ih =>
      intro acc h
      obtain ⟨h1, h2⟩ := putC_srt acc x h
      obtain ⟨h3, h4⟩ := ih _ h1
      refine ⟨h3, ?_⟩
      have := (h2.append (Stab.refl l)).trans h4
      rwa [List.append_assoc] at this
  have := key l [] Srt.none_
  rwa [List.nil_append] at this
theorem stab_sortC {l c : List Chg} (h1 : Srt lessC c) (h2 : Stab lessC l c) : c = sortC l :=
  stab_unique swo_less _ _ h1 (sortC_srt l).1 (h2.symm.trans (sortC_srt l).2)

/-! ### From a slice of the call's own to the sort's words, and back -/
theorem flatK_chgs (l : List Chg) : (flatK Chg.cells 9 l.toArray).toList = chgs l := by
  apply List.ext_getElem?
  intro t
  rw [Array.getElem?_toList]
  by_cases h : t < l.length * 9
  · have e : t = t / 9 * 9 + t % 9 := by omega
    have h9 : t / 9 < l.length := by omega
    conv => rhs; rw [e, chgs, flat_get _ 9 chg_len _ _ _ (by omega), List.getElem?_eq_getElem h9]
    simp only [flatK, Array.getElem?_map, List.size_toArray, Option.bind_some]
    rw [Array.getElem?_range]
    rw [if_pos h]
    simp only [Option.map_some]
    rw [List.getElem?_eq_getElem (by rw [chg_len]; omega)]
    congr 1
    rw [show (l.toArray)[t / 9]! = l[t / 9] from arr_get l.toArray _ (by simpa using h9)]
    rw [getElem!_pos _ _ (by rw [chg_len]; omega)]
  · rw [Array.getElem?_eq_none (by simp; omega), List.getElem?_eq_none (by rw [chgs_len]; omega)]
theorem holds_own {w : World} {g : Nat} {cur : Array Value} {e : TypeId} (l : List Chg) (hb : w.heap[g]? = some (.cells cur e (0, 0))) (ht : cur.toList.take (l.length * 9) = chgs l) : HoldsK Chg.cells 9 w g 0 l.toArray := by
  intro j hj
  rw [size_flatK, List.size_toArray] at hj
  refine ⟨?_, by simp [World.frozen?, hb]⟩
  have h1 : (cur.toList.take (l.length * 9))[j]? = (flatK Chg.cells 9 l.toArray).toList[j]? := by rw [ht, flatK_chgs]
  rw [List.getElem?_take_of_lt hj] at h1
  simp only [World.cell?, hb, Nat.zero_add]
  simp only [Option.isSome_none, Bool.false_eq_true, if_false]
  rw [← Array.getElem?_toList, h1, Array.getElem?_toList, id]
  rw [Array.getElem?_eq_getElem (by rw [size_flatK]; simpa using hj), getElem!_pos _ _ (by rw [size_flatK]; simpa using hj)]
theorem heap_back {w : World} {g n : Nat} {os : Array Obj} {cur : Array Value} {e : TypeId} {fr : Nat × Nat} (d : Array Value) (hb : w.heap[g]? = some (.cells cur e fr)) :
    (grow (putRow id (Go.Sort.ahead w n) g 0 d) os).heap[g]? = some (.cells (putCells id 0 d cur) e fr) := by
  have hg : g < w.heap.size := (Array.getElem?_eq_some_iff.1 hb).1
  rw [Go.Sort.heap_grow_old _ _ (by simpa using hg)]
  simp [putRow, mapBlock, Go.Sort.ahead, Array.getElem?_modify, hb, onCells]
theorem grownBy_back {w : World} {g n : Nat} {os : Array Obj} (d : Array Value) : w.grownBy (grow (putRow id (Go.Sort.ahead w n) g 0 d) os) (some g) := by
  refine ⟨rfl, rfl, rfl, by simp, fun k hk hne => ?_⟩
  rw [Go.Sort.heap_grow_old _ _ (by simpa using hk)]
  have : g ≠ k := fun e => hne (by rw [e])
  simp [putRow, mapBlock, Go.Sort.ahead, Array.getElem?_modify, this]
theorem take_back (cur d : Array Value) (h : d.size ≤ cur.size) : (putCells id 0 d cur).toList.take d.size = d.toList := by
  apply List.ext_getElem?
  intro j
  by_cases hj : j < d.size
  · rw [List.getElem?_take_of_lt hj, Array.getElem?_toList]
    simp [putCells, hj, show j < cur.size by omega]
  · rw [List.getElem?_take_eq_none (by omega), List.getElem?_eq_none (by simp; omega)]

theorem insNone_any (A : Option Addr) (c : Nat) (w : World) :
    Calls Try.prog 32 #[.slice A 0 c, .int .i64 0, .int .i64 0, .func (.func 20) #[] #[]] w fun e w' => e = .returned (.tuple #[]) ∧ w' = w := by
  go_enter Try.func32, Try.ntmps32
  go_wp2_with fail
  refine wp_loop_rounds 1 ?_
  rw [rounds_succ]
  go_wp2
  go_end0
  exact ⟨rfl, rfl⟩
theorem stableNone_any (A : Option Addr) (c : Nat) (w : World) :
    Calls Try.prog 29 #[.slice A 0 c, .int .i64 0, .func (.func 20) #[] #[]] w fun e w' => e = .returned (.tuple #[]) ∧ w' = w := by
  go_enter Try.func29, Try.ntmps29
  go_wp2_with fail
  refine wp_loop_rounds 1 ?_
  rw [rounds_succ]
  go_wp2_with fail
  refine (insNone_any A c _).mono ?_
  rintro e w1 ⟨rfl, rfl⟩
  go_wp2_with fail
  refine wp_loop_rounds 1 ?_
  rw [rounds_succ]
  go_wp2
  go_end0
  exact ⟨rfl, rfl⟩

set_option maxHeartbeats 1000000 in
theorem ssorted_any (P : Nat → Prop) (A : Option Addr) (n c : Nat) (l : List Chg) (w : World) (h : RowK w P 9 A n c (chgs l)) (hn : n ≤ 1000000000000) :
    Calls Try.prog 18 #[.slice A n c] w fun e w' => FreshC w (sortC l) w' e := by
  have hl : l.length = n := by have := h.1; rw [chgs_len] at this; omega
  subst hl
  have CL := hide (cloneC_any P A l.length c l w h hn)
  have STB : Hid (∀ w1 A1 c1, w1.ownsRow w.heap.size 25 9 (.slice A1 l.length c1) l.length (chgs l) → Below w.heap.size w w1 →
      Calls Try.prog 29 #[.slice A1 l.length c1, .int .i64 (l.length : Int), .func (.func 20) #[] #[]] w1 fun e w' => e = .returned (.tuple #[]) ∧
        w'.ownsRow w.heap.size 25 9 (.slice A1 l.length c1) l.length (chgs (sortC l)) ∧ Below w.heap.size w w') := by
    intro w1 A1 c1 hown hbl
    rcases Nat.eq_zero_or_pos l.length with h0 | h0
    · have hnil : l = [] := List.eq_nil_of_length_eq_zero h0
      subst hnil
      refine (stableNone_any A1 c1 w1).mono ?_
      rintro e w' ⟨rfl, rfl⟩
      exact ⟨rfl, hown, hbl⟩
    · rcases hown.2 with ⟨h1, h2⟩ | ⟨g, cap, cur, hv, hg, hb, hnc, hcm, hsz, ht⟩
      · injection h1 with h3 h4 h5
        omega
      · injection hv with h3 h4 h5
        subst h3 h5
        have hgl : g < w1.heap.size := (Array.getElem?_eq_some_iff.1 hb).1
        have hH := holds_own l hb ht
        have R : Go.Proofs.RowK Chg.cells 9 w1 g 0 l.toArray := ⟨chg_len, fun x v hv => chgs_one [x] v (by simpa [chgs] using hv), hH, hgl⟩
        refine (stable_any bearsChg Chg.cells cmpC (by rw [ltOf_cmpC]; exact swo_less) 20 #[] g 0 c1 w1 l.toArray R (by simpa using hn) (enters_of Try.func20 (by kernel_rfl) rfl) (cmpLays_chg _ _ _ _) l l.length w1 (by simp) (by simp) (SWK.start hH)).mono ?_
        rintro e w' ⟨rfl, cc, hcl, hcs, hct, n', os, rfl⟩
        rw [ltOf_cmpC] at hcs hct
        obtain rfl := stab_sortC hcs hct
        have hw : sortWorldK Chg.cells 9 w1 g 0 n' (sortC l).toArray os = grow (putRow id (Go.Sort.ahead w1 n') g 0 (flatK Chg.cells 9 (sortC l).toArray)) os := rfl
        have hf : (flatK Chg.cells 9 (sortC l).toArray).size = l.length * 9 := by rw [size_flatK, List.size_toArray, sortC_len]
        have hfl := flatK_chgs (sortC l)
        have hcl2 : (chgs (sortC l)).length = l.length * 9 := by rw [chgs_len, sortC_len]
        rw [hw]
        clear hw hH R hcs hct hcl
        generalize flatK Chg.cells 9 (sortC l).toArray = F at *
        have h6 := heap_back (n := n') (os := os) F hb
        have h7 : Below w.heap.size w (grow (putRow id (Go.Sort.ahead w1 n') g 0 F) os) := hbl.grown (grownBy_back F) hbl.size (fun k e => by cases e; exact hg)
        have h8 : (putCells id 0 F cur).toList.take (l.length * 9) = chgs (sortC l) := by
          rw [← hf, take_back _ _ (by rw [hf, hsz]; exact Nat.mul_le_mul_right _ hnc), hfl]
        have h9 : (putCells id 0 F cur).size = cur.size := by simp [putCells]
        generalize grow (putRow id (Go.Sort.ahead w1 n') g 0 F) os = w2 at *
        generalize putCells id 0 F cur = cur2 at *
        exact ⟨rfl, ⟨hcl2, .inr ⟨g, _, cur2, rfl, hg, h6, hnc, hcm, h9.trans hsz, h8⟩⟩, h7⟩
  clear h
  go_enter Try.func18, Try.ntmps18
  go_wp2_with (first
    | (go_at_call 23; refine CL.out.mono ?_; rintro e w1 ⟨A1, c1, rfl, hown, hbl⟩)
    | (go_at_call 29; refine (STB.out _ _ _ hown hbl).mono ?_; rintro e w2 ⟨rfl, hown2, hbl2⟩)
    | go_in)
  go_ret
  exact ⟨A1, c1, by rw [sortC_len]; rfl, by rw [sortC_len]; exact hown2, hbl2⟩
end Go.Proofs.Ytfidglkhpikdbaa
