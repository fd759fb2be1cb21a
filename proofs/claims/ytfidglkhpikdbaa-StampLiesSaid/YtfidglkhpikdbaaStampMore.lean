/-
  The reference's Without, Find, Sorted.
-/
import Derived.Test.YtfidglkhpikdbaaStampPut
namespace Go.Proofs.Ytfidglkhpikdbaa
open Go.RowKit
set_option linter.unusedVariables false

/-- All but that at place i; k is the place of the first. -/
def skip (i : Int) : Nat → List Chg → List Chg
  | _, [] => []
  | k, x :: l => if (k : Int) = i then skip i (k + 1) l else x :: skip i (k + 1) l
theorem skip_len (i : Int) : ∀ (l : List Chg) (k : Nat), (skip i k l).length ≤ l.length := by
  intro l
  induction l with
  | nil => intro k; exact Nat.le_refl _
  | cons x l ih =>
    intro k
    unfold skip
    have := ih (k + 1)
    split
    · rw [List.length_cons]; omega
    · rw [List.length_cons, List.length_cons]; omega
/-- The place of the first with an Id; -1: there is none. -/
def seek (r s : Int) : Nat → List Chg → Int
  | _, [] => -1
  | k, x :: l => if x.r = r ∧ x.s = s then (k : Int) else seek r s (k + 1) l
/-- The greatest Time. -/
def lastT (l : List Chg) : Int := l.foldl (fun m x => max m x.t) 0
def sortC (l : List Chg) : List Chg := l.foldl putC []
theorem drop_step {l : List Chg} {j : Nat} {x : Chg} (h : l[j]? = some x) : l.drop j = x :: l.drop (j + 1) := by
  obtain ⟨hj, rfl⟩ := List.getElem?_eq_some_iff.1 h
  exact List.drop_eq_getElem_cons hj
theorem sortC_step {l : List Chg} {j : Nat} {x : Chg} (h : l[j]? = some x) : sortC (l.take (j + 1)) = putC (sortC (l.take j)) x := by
  unfold sortC
  rw [List.take_add_one, h]
  simp
theorem putC_len (l : List Chg) (x : Chg) : (putC l x).length = l.length + 1 := by
  unfold putC
  have := lastAt_le x l l.length
  rw [List.length_append, List.length_cons, List.length_take, List.length_drop]
  omega
theorem sortC_len (l : List Chg) : (sortC l).length = l.length := by
  unfold sortC
  have key : ∀ (l acc : List Chg), (l.foldl putC acc).length = acc.length + l.length := by
    intro l
    induction l with
    | nil => intro acc; rfl
    | cons x l ih => intro acc; rw [List.foldl_cons, ih, putC_len, List.length_cons]; omega
  rw [key]
  simp

theorem refwithout_any (P : Nat → Prop) (A : Option Addr) (n c : Nat) (l : List Chg) (i : Int) (w : World) (h : RowK w P 9 A n c (chgs l)) (hn : n ≤ 1000000000000) :
    Calls Try.prog 14 #[.slice A n c, .int .i64 i] w fun e w' => FreshC w (skip i 0 l) w' e := by
  have hl : l.length = n := by have := h.1; rw [chgs_len] at this; omega
  obtain ⟨i9, hi, hz0, hz1, hz2⟩ := info_parts infoChg
  have H := hide (h.inb (by omega))
  have HL := hide hl
  generalize hF : skip i 0 l = F at *
  have HF := hide hF
  clear h hl hF
  go_enter Try.func14, Try.ntmps14
  go_wp2
  go_loopw [5, 6] (fun v k wr => ∃ (j : Nat) (acc : List Chg), j ≤ n ∧ k = .int .i64 j ∧ acc.length ≤ j ∧ Hid (∃ A' c', v = .slice A' acc.length c') ∧ Hid (wr.ownsRow w.heap.size 25 9 v acc.length (chgs acc)) ∧ Hid (acc ++ skip i j (l.drop j) = F) ∧ Hid (Below w.heap.size w wr)) (fun _ k _ => n - (intOf k).toNat)
  case atStart => exact ⟨0, [], Nat.zero_le _, rfl, Nat.le_refl _, hide ⟨none, 0, rfl⟩, hide ⟨rfl, .inl ⟨rfl, rfl⟩⟩, hide (by rw [List.drop_zero, HF.out]; rfl), hide (Below.refl _ _)⟩
  case round =>
    obtain ⟨j, acc, hj, rfl, hac, hv, how, hfr, hbl⟩ := hrel
    obtain ⟨A', c', rfl⟩ := hv.out
    by_cases hlt : j < n
    · obtain ⟨b, o, x, rfl, -, hb, hx, hat⟩ := chgs_at (H.out.below (by omega) hbl.out (fun _ h _ => h.2)) hlt
      have e := hfr.out
      rw [drop_step hx, skip] at e
      by_cases hji : (j : Int) = i
      · rw [if_pos hji] at e
        have HE := hide e
        clear e hat hx
        subst hji
        go_wp2
        go_roundw
        case rel => exact ⟨j + 1, acc, by omega, by go_num, by omega, hide ⟨A', c', rfl⟩, how, HE, hbl⟩
        case measure => simp [intOf]; omega
      · rw [if_neg hji] at e
        have HE := hide (show (acc ++ [x]) ++ skip i (j + 1) (l.drop (j + 1)) = F by rw [← e]; simp)
        have HLA := hide (show (acc ++ [x]).length = acc.length + 1 by simp)
        obtain ⟨x0, x1, x2, x3, x4, x5, x6, x7, x8⟩ := hat
        clear e hx
        go_wp2_with (at_builtin; refine wpList_append_own_at _ rfl _ _ 28 rfl w.heap.size 25 i9 _ 9 72 Try.underlying28 hi hz0 hz1 hz2 rfl (by decide) _ acc.length _ rfl (how.out.alloc _) ⟨wr.heap.size, 0, none⟩ 1 1 x.cells rfl rfl (cells_new _ _ _) (fun u hu => chgs_one [x] u (by simpa [chgs] using hu)) ?h1 ?h2 ?h3 ?_)
        case h1 => unfold maxLen; omega
        case h2 => omega
        case h3 => have := hbl.out.size; simp; omega
        intro v' w2 hown hgr _ _
        rw [show chgs acc ++ x.cells = chgs (acc ++ [x]) by simp [chgs]] at hown
        have HB2 := hide ((hbl.out.alloc hbl.out.size _).grown hgr (by have := hbl.out.size; simp; omega) (fun g hg => (how.out.lt g hg).1))
        have HV := hide (own_formK hown)
        have HO2 := hide hown
        clear hown hgr x0 x1 x2 x3 x4 x5 x6 x7 x8
        go_wp2
        go_roundw
        case rel => exact ⟨j + 1, acc ++ [x], by omega, by go_num, by rw [HLA.out]; omega, by rw [HLA.out]; exact HV, by rw [HLA.out]; exact HO2, HE, HB2⟩
        case measure => simp [intOf]; omega
    · obtain rfl : j = n := by omega
      have e := hfr.out
      rw [List.drop_of_length_le (by rw [HL.out]; exact Nat.le_refl _), skip, List.append_nil] at e
      subst e
      clear hlt hfr HF
      go_wp2
      go_ret
      exact ⟨A', c', rfl, how.out, hbl.out⟩

theorem refseek_any (P : Nat → Prop) (A : Option Addr) (n c : Nat) (l : List Chg) (r s : Int) (w : World) (h : RowK w P 9 A n c (chgs l)) :
    Calls Try.prog 16 #[.slice A n c, .agg #[.int .i64 r, .int .i64 s]] w fun e w' => e = .returned (.int .i64 (seek r s 0 l)) ∧ Below w.heap.size w w' := by
  have hl : l.length = n := by have := h.1; rw [chgs_len] at this; omega
  have hcap := h.2.1
  have hcb := h.2.2.1
  have H := hide (h.inb (by omega))
  have HL := hide hl
  generalize hF : seek r s 0 l = F at *
  have HF := hide hF
  obtain ⟨W, hW⟩ : ∃ W, W = w.alloc (.cells #[.int .i64 r, .int .i64 s] 23) := ⟨_, rfl⟩
  have HX := hide (show Blk W w.heap.size 23 #[.int .i64 r, .int .i64 s] by rw [hW]; exact Blk.new w _ _)
  have HBW := hide (show Below w.heap.size w W by rw [hW]; exact (Below.refl _ w).alloc (Nat.le_refl _) _)
  have HW := hide hW
  clear h hl hF hW
  go_enter Try.func16, Try.ntmps16
  go_wp2
  rw [← HW.out]
  go_loopw [5] (fun k wr => ∃ (j : Nat), j ≤ n ∧ k = .int .i64 j ∧ Hid (seek r s j (l.drop j) = F) ∧ Hid (Since W wr)) (fun k _ => n - (intOf k).toNat)
  case atStart => exact ⟨0, Nat.zero_le _, rfl, hide (by rw [List.drop_zero, HF.out]), hide (Since.refl _)⟩
  case round =>
    obtain ⟨j, hj, rfl, hfr, hs⟩ := hrel
    have HB := hide (HBW.out.trans (Below.mono hs.out HBW.out.size))
    by_cases hlt : j < n
    · obtain ⟨b, o, x, rfl, -, hb, hx, hat⟩ := chgs_at (H.out.below (by omega) HB.out (fun _ h _ => h.2)) hlt
      have e := hfr.out
      rw [drop_step hx, seek] at e
      have HI := HX.out.below hs.out HX.out.lt
      have i0 := (HI.cell 0).trans rfl
      have i1 := (HI.cell 1).trans rfl
      obtain ⟨x0, x1, x2, x3, x4, x5, x6, x7, x8⟩ := hat
      by_cases hid : x.r = r ∧ x.s = s
      · rw [if_pos hid] at e
        have HE := hide e
        have hq : ∀ W, (Op.equalIn 10000 23 (.agg #[.int .i64 x.r, .int .i64 x.s]) (.agg #[.int .i64 r, .int .i64 s])).run Try.prog W = .ok true W := fun W => by
          have := id_equal x.r x.s r s 9998 W
          rwa [decide_eq_true hid] at this
        clear e hx HI hid x2 x3 x4 x5 x6 x7 x8
        go_wp2_with fail
        go_quiet (fail)
        have HB3 := hide (below_drewN HB.out nq)
        generalize wr.drewN nq = w3 at *
        clear x0 x1 i0 i1 hq
        go_wp2
        go_ret
        exact ⟨by rw [← HE.out]; rfl, HB3.out⟩
      · rw [if_neg hid] at e
        have HE := hide e
        have hq : ∀ W, (Op.equalIn 10000 23 (.agg #[.int .i64 x.r, .int .i64 x.s]) (.agg #[.int .i64 r, .int .i64 s])).run Try.prog W = .ok false W := fun W => by
          have := id_equal x.r x.s r s 9998 W
          rwa [decide_eq_false hid] at this
        clear e hx HI hid x2 x3 x4 x5 x6 x7 x8
        go_wp2_with fail
        go_quiet (fail)
        have HS3 := hide (show Since W (wr.drewN nq) from below_drewN hs.out nq)
        generalize wr.drewN nq = w3 at *
        clear x0 x1 i0 i1 hq
        go_wp2
        go_roundw
        case rel => exact ⟨j + 1, by omega, by go_num, HE, HS3⟩
        case measure => simp [intOf]; omega
    · obtain rfl : j = n := by omega
      have e := hfr.out
      rw [List.drop_of_length_le (by rw [HL.out]; exact Nat.le_refl _), seek] at e
      subst e
      clear hlt hfr HF
      go_wp2
      go_ret
      exact ⟨rfl, HB.out⟩

theorem refsorted_any (P : Nat → Prop) (A : Option Addr) (n c : Nat) (l : List Chg) (w : World) (h : RowK w P 9 A n c (chgs l)) (hn : n ≤ 1000000000000) :
    Calls Try.prog 19 #[.slice A n c] w fun e w' => FreshC w (sortC l) w' e := by
  have hl : l.length = n := by have := h.1; rw [chgs_len] at this; omega
  have hcap := h.2.1
  have hcb := h.2.2.1
  have H := hide (h.inb (by omega))
  have HL := hide hl
  clear h hl
  go_enter Try.func19, Try.ntmps19
  go_wp2
  go_loopw [3, 4] (fun v k wr => ∃ (j : Nat), j ≤ n ∧ k = .int .i64 j ∧ Hid (∃ A' c', v = .slice A' j c') ∧ Hid (wr.ownsRow w.heap.size 25 9 v j (chgs (sortC (l.take j)))) ∧ Hid (Below w.heap.size w wr)) (fun _ k _ => n - (intOf k).toNat)
  case atStart => exact ⟨0, Nat.zero_le _, rfl, hide ⟨none, 0, rfl⟩, hide ⟨rfl, .inl ⟨rfl, rfl⟩⟩, hide (Below.refl _ _)⟩
  case round =>
    obtain ⟨j, hj, rfl, hv, how, hbl⟩ := hrel
    obtain ⟨A', c', rfl⟩ := hv.out
    by_cases hlt : j < n
    · obtain ⟨b, o, x, rfl, -, hb, hx, hat⟩ := chgs_at (H.out.below (by omega) hbl.out (fun _ h _ => h.2)) hlt
      have e := sortC_step hx
      have el : (sortC (l.take (j + 1))).length = j + 1 := by rw [sortC_len, List.length_take]; have := HL.out; omega
      have HE := hide e
      have HEL := hide el
      obtain ⟨x0, x1, x2, x3, x4, x5, x6, x7, x8⟩ := hat
      clear e el hx
      generalize ht2 : sortC (l.take (j + 1)) = t2 at *
      have HT2 := hide ht2
      clear ht2
      generalize sortC (l.take j) = t1 at *
      go_wp2_with fail
      refine (refsput_any _ _ _ _ t1 x _ (RowK.of_own how.out) (by omega)).mono ?_
      rintro e w2 ⟨A2, c2, rfl, hown, hb2⟩
      rw [← HE.out, HEL.out] at hown ⊢
      have HO2 := hide (own_baseK hown hbl.out.size)
      have HB2 := hide (hbl.out.trans (hb2.mono hbl.out.size))
      clear hown hb2 x0 x1 x2 x3 x4 x5 x6 x7 x8
      go_wp2
      go_roundw
      case rel => exact ⟨j + 1, by omega, by go_num, hide ⟨A2, c2, rfl⟩, by rw [HT2.out]; exact HO2, HB2⟩
      case measure => simp [intOf]; omega
    · obtain rfl : j = n := by omega
      have how := how.out
      rw [List.take_of_length_le (by rw [HL.out]; exact Nat.le_refl _)] at how
      have HO := hide how
      have HSL := hide (show (sortC l).length = j by rw [sortC_len, HL.out])
      clear how hlt
      go_wp2
      go_ret
      refine ⟨A', c', ?_, ?_, hbl.out⟩
      · rw [HSL.out]; rfl
      · rw [HSL.out]; exact HO.out
end Go.Proofs.Ytfidglkhpikdbaa
