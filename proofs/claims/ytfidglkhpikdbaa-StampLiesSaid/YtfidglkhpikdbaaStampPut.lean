/-
  The reference's Put, Without, Find: one more change, one less, where one stands.
-/
import Derived.Test.YtfidglkhpikdbaaStampRef
import Derived.Test.YtfidglkhpikdbaaAppK
import Derived.Test.YtfidglkhpikdbaaLater
import Derived.Deep.RegionHeld
namespace Go.Proofs.Ytfidglkhpikdbaa
open Go.RowKit
set_option linter.unusedVariables false

theorem infoChg : (Try.prog.info? 25).map (fun i => (i.zero, i.size, i.bytes)) = some (some (.agg #[.int .i64 0, .int .i64 0, .int .i64 0, .int .i64 0, .int .i64 0, .int .i64 0, .int .i64 0, .int .i64 0, .int .i64 0]), 9, 72) := by kernel_rfl
theorem front_runC (w : World) (A : Option Addr) (n c k : Nat) (hk : k ≤ c) :
    (Instr.slice 28 (.slice A n c) none (some (.int .i64 (k : Int))) none).run Try.prog w = .ok (.slice A k c) w := by
  have h := run_slice_h (P := Try.prog) (w := w) 28 A n c (by kernel_rfl) .i64 (k : Int) (by omega) (by omega)
  rw [h]
  have hs : (sizeOf (Try.prog.elem 28)).run Try.prog w = .ok 9 w := by kernel_rfl
  rw [hs]
  cases A <;> simp [Result.andThen, sliced, Addr.add]
theorem tail_runC (w : World) (A : Option Addr) (n c i : Nat) (hi : i ≤ n) (hc : n ≤ c) :
    (Instr.slice 28 (.slice A n c) (some (.int .i64 (i : Int))) none none).run Try.prog w = .ok (.slice (if c = i then A else A.map (·.add (i * 9))) (n - i) (c - i)) w := by
  have h := run_slice_l (P := Try.prog) (w := w) 28 A n c (by kernel_rfl) .i64 (i : Int) (by omega) (by omega)
  rw [h]
  have hs : (sizeOf (Try.prog.elem 28)).run Try.prog w = .ok 9 w := by kernel_rfl
  rw [hs]
  simp [Result.andThen, sliced]

/-- A list of changes in memory of its own. -/
def FreshC (w : World) (m : List Chg) (w' : World) (e : Ending) : Prop :=
  ∃ A c, e = .returned (.slice A m.length c) ∧ w'.ownsRow w.heap.size 25 9 (.slice A m.length c) m.length (chgs m) ∧ Below w.heap.size w w'
/-- Behind the last one of the first j that is not above c. -/
def lastAt (c : Chg) (l : List Chg) : Nat → Nat
  | 0 => 0
  | j + 1 => match l[j]? with
    | some x => if lessC c x then lastAt c l j else j + 1
    | none => lastAt c l j
theorem lastAt_le (c : Chg) (l : List Chg) (j : Nat) : lastAt c l j ≤ j := by
  induction j with
  | zero => exact Nat.le_refl _
  | succ j ih =>
    unfold lastAt
    split
    · split <;> omega
    · omega
def putC (l : List Chg) (c : Chg) : List Chg := l.take (lastAt c l l.length) ++ c :: l.drop (lastAt c l l.length)
theorem Since.trans {a b c : World} (h : Since a b) (k : Since b c) : Since a c := Below.trans h (Below.mono k (Below.size h))
theorem own_formK {w : World} {base : Nat} {e : TypeId} {size : Nat} {v : Value} {n : Nat} {xs : List Value} (h : w.ownsRow base e size v n xs) : ∃ A c, v = .slice A n c := by
  rcases h.2 with ⟨rfl, rfl⟩ | ⟨g, cap, cur, rfl, _⟩
  · exact ⟨_, _, rfl⟩
  · exact ⟨_, _, rfl⟩
theorem own_baseK {w : World} {base base' : Nat} {e : TypeId} {size : Nat} {v : Value} {n : Nat} {xs : List Value} (h : w.ownsRow base e size v n xs) (hb : base' ≤ base) : w.ownsRow base' e size v n xs :=
  ⟨h.1, h.2.imp id fun ⟨g, cap, cur, hv, hg, r⟩ => ⟨g, cap, cur, hv, Nat.le_trans hb hg, r⟩⟩
theorem At.later {w1 w' : World} {b o : Nat} {x : Chg} (h : At w1 b o x) (hb : b < w1.heap.size) (hs : Since w1 w') : At w' b o x := h.below hs hb

set_option maxHeartbeats 1000000 in
theorem refsput_any (P : Nat → Prop) (A : Option Addr) (n c : Nat) (l : List Chg) (x : Chg) (w : World) (h : RowK w P 9 A n c (chgs l)) (hn : n ≤ 1000000000000) :
    Calls Try.prog 13 #[.slice A n c, x.val] w fun e w' => FreshC w (putC l x) w' e := by
  have hl : l.length = n := by have := h.1; rw [chgs_len] at this; omega
  obtain ⟨i9, hi, hz0, hz1, hz2⟩ := info_parts infoChg
  have hcap := h.2.1
  have hcb := h.2.2.1
  have H := hide (h.inb (by omega))
  have HL := hide hl
  obtain ⟨W, hW⟩ : ∃ W, W = w.alloc (.cells #[.int .i64 x.r, .int .i64 x.s, .int .i64 x.t, .int .i64 x.k, .int .i64 x.a, .int .i64 x.b, .int .i64 x.n, .int .i64 x.p, .int .i64 x.q] 25) := ⟨_, rfl⟩
  have HX := hide (show At W w.heap.size 0 x by rw [hW]; exact at_new w x _)
  have HXl := hide (show w.heap.size < W.heap.size by rw [hW]; simp)
  have HBW := hide (show Below w.heap.size w W by rw [hW]; exact (Below.refl _ w).alloc (Nat.le_refl _) _)
  have HW := hide hW
  clear h hl hW
  unfold Chg.val
  go_enter Try.func13, Try.ntmps13
  go_wp2
  rw [← HW.out]
  go_loopw [5, 6] (fun a i wr => ∃ (j q : Nat), j ≤ n ∧ i = .int .i64 j ∧ a = .int .i64 q ∧ Hid (q = lastAt x l j) ∧ Hid (Since W wr)) (fun _ i _ => n - (intOf i).toNat)
  case atStart => exact ⟨0, 0, Nat.zero_le _, rfl, rfl, hide rfl, hide (Since.refl _)⟩
  case round =>
    obtain ⟨j, q, hj, rfl, rfl, hq, hs⟩ := hrel
    have HB := hide (HBW.out.trans (Below.mono hs.out HBW.out.size))
    by_cases hlt : j < n
    · obtain ⟨b, o, y, rfl, -, hb, hy, hat⟩ := chgs_at (H.out.below (by omega) HB.out (fun _ h _ => h.2)) hlt
      have hla : lastAt x l (j + 1) = if lessC x y then lastAt x l j else j + 1 := by
        rw [lastAt]
        rw [hy]
      have HLA := hide hla
      have hxw := HX.out.later HXl.out hs.out
      have kx := fun w' (h : Since wr w') => hxw.later (Nat.lt_of_lt_of_le HXl.out (Below.size hs.out)) h
      have ky := fun w' (h : Since wr w') => hat.later hb h
      have x0 := fun w' h => (kx w' h).1
      have x1 := fun w' h => (kx w' h).2.1
      have x2 := fun w' h => (kx w' h).2.2.1
      have x3 := fun w' h => (kx w' h).2.2.2.1
      have x4 := fun w' h => (kx w' h).2.2.2.2.1
      have x5 := fun w' h => (kx w' h).2.2.2.2.2.1
      have x6 := fun w' h => (kx w' h).2.2.2.2.2.2.1
      have x7 := fun w' h => (kx w' h).2.2.2.2.2.2.2.1
      have x8 := fun w' h => (kx w' h).2.2.2.2.2.2.2.2
      have y0 := fun w' h => (ky w' h).1
      have y1 := fun w' h => (ky w' h).2.1
      have y2 := fun w' h => (ky w' h).2.2.1
      have y3 := fun w' h => (ky w' h).2.2.2.1
      have y4 := fun w' h => (ky w' h).2.2.2.2.1
      have y5 := fun w' h => (ky w' h).2.2.2.2.2.1
      have y6 := fun w' h => (ky w' h).2.2.2.2.2.2.1
      have y7 := fun w' h => (ky w' h).2.2.2.2.2.2.2.1
      have y8 := fun w' h => (ky w' h).2.2.2.2.2.2.2.2
      have hr0 := (Since.refl wr).drew
      have P1 := hide (fun w' (h : Since wr w') => (refsless_any x y w').mono fun e w2 hh => And.intro hh.1 (Since.next h hh.2))
      clear hla kx ky hxw hat hy
      go_wp2_with fail
      go_region_held (fun w' => Since wr w') (assumption) (first | (go_at_call 8; refine (P1.out _ (by assumption)).mono ?_; rintro e w5 ⟨rfl, hs5⟩))
      clear x0 x1 x2 x3 x4 x5 x6 x7 x8 y0 y1 y2 y3 y4 y5 y6 y7 y8 hr0 P1
      have HS5 := hide (Since.trans hs.out hs5)
      cases hc : lessC x y with
      | true =>
        have hl5 : lastAt x l (j + 1) = q := by rw [HLA.out, hc, if_pos rfl, hq.out]
        have HL5 := hide hl5.symm
        clear hl5 hs5
        go_wp2
        go_roundw
        case rel => exact ⟨j + 1, q, by omega, by go_num, rfl, HL5, HS5⟩
        case measure => simp [intOf]; omega
      | false =>
        have hl5 : lastAt x l (j + 1) = j + 1 := by rw [HLA.out, hc]; rfl
        have HL5 := hide hl5.symm
        clear hl5 hs5
        go_wp2
        go_roundw
        case rel => exact ⟨j + 1, j + 1, by omega, by go_num, by go_num, HL5, HS5⟩
        case measure => simp [intOf]; omega
    · obtain rfl : j = n := by omega
      have hqn : q ≤ j := by rw [hq.out]; exact lastAt_le _ _ _
      have hs1 : ∀ W, (Instr.slice 28 (.slice A j c) none (some (.int .i64 (q : Int))) none).run Try.prog W = .ok (.slice A q c) W := fun W => front_runC W A j c q (by omega)
      have hs2 : ∀ W, (Instr.slice 28 (.slice A j c) (some (.int .i64 (q : Int))) none none).run Try.prog W = .ok (.slice (if c = q then A else A.map (·.add (q * 9))) (j - q) (c - q)) W := fun W => tail_runC W A j c q hqn hcap
      have hr := H.out.below (by omega) HB.out (fun _ h _ => h.2)
      have hfr := hr.front hqn
      rw [chgs_take] at hfr
      have hbk := hr.back hqn
      rw [chgs_drop] at hbk
      generalize (if c = q then A else A.map (·.add (q * 9))) = B at *
      have HFR := hide hfr
      have HBK := hide hbk
      have HXw := hide (HX.out.later HXl.out hs.out)
      have HXwl := hide (Nat.lt_of_lt_of_le HXl.out (Below.size hs.out))
      have HP := hide (show putC l x = l.take q ++ [x] ++ l.drop q by unfold putC; rw [HL.out, ← hq.out]; simp)
      have HT := hide (show (l.take q).length = q by rw [List.length_take, HL.out]; omega)
      have HD := hide (show (l.drop q).length = j - q by rw [List.length_drop, HL.out])
      clear hr hfr hbk hlt hq
      generalize l.take q = l1 at *
      generalize l.drop q = l2 at *
      go_wp2_with (at_builtin; refine wpList_append_rowK _ rfl _ _ 28 rfl w.heap.size 25 i9 _ 9 72 Try.underlying28 hi hz0 hz1 hz2 rfl (by decide) _ 0 [] rfl ⟨rfl, .inl ⟨rfl, rfl⟩⟩ _ A q c (chgs l1) rfl HFR.out (chgs_one _) ?h1 ?h2 HB.out.size ?_)
      case h1 => unfold maxLen; omega
      case h2 => omega
      intro v2 w2 hown hgr _
      obtain ⟨A2, c2, rfl⟩ := own_formK hown
      have HB2 := hide (HB.out.grown hgr HB.out.size (fun g hg => by cases hg))
      have HBK2 := hide (HBK.out.below (by omega) (Below.grown (Below.refl w.heap.size wr) hgr HB.out.size (fun g hg => by cases hg)) (fun _ h _ => h.2))
      have HXw2 := hide (HXw.out.below (Below.grown (Below.refl wr.heap.size wr) hgr (Nat.le_refl _) (fun g hg => by cases hg)) HXwl.out)
      obtain ⟨x0, x1, x2, x3, x4, x5, x6, x7, x8⟩ := HXw2.out
      have HOW := hide hown
      clear hown hgr HBK HXw HFR HB hs
      go_wp2_with (at_builtin; refine wpList_append_own_at _ rfl _ _ 28 rfl w.heap.size 25 i9 _ 9 72 Try.underlying28 hi hz0 hz1 hz2 rfl (by decide) _ q _ rfl (HOW.out.alloc _) ⟨w2.heap.size, 0, none⟩ 1 1 x.cells rfl rfl (cells_new _ _ _) (fun u hu => chgs_one [x] u (by simpa [chgs] using hu)) ?h1 ?h2 ?h3 ?_)
      case h1 => unfold maxLen; omega
      case h2 => omega
      case h3 => have := HB2.out.size; simp; omega
      intro v3 w3 hown hgr _ _
      obtain ⟨A3, c3, rfl⟩ := own_formK hown
      rw [show chgs l1 ++ x.cells = chgs (l1 ++ [x]) by simp [chgs]] at hown
      have hb23 := (((Below.refl w.heap.size w2).alloc HB2.out.size (.cells #[.int .i64 x.r, .int .i64 x.s, .int .i64 x.t, .int .i64 x.k, .int .i64 x.a, .int .i64 x.b, .int .i64 x.n, .int .i64 x.p, .int .i64 x.q] 25)).grown hgr (by have := HB2.out.size; simp; omega) (fun g hg => (HOW.out.lt g hg).1))
      have HB3 := hide (HB2.out.trans hb23)
      have HBK3 := hide (HBK2.out.below (by omega) hb23 (fun _ h _ => h.2))
      have HOW3 := hide hown
      clear hown hgr hb23 HBK2 HXw2 HOW x0 x1 x2 x3 x4 x5 x6 x7 x8
      go_wp2_with (at_builtin; refine wpList_append_rowK _ rfl _ _ 28 rfl w.heap.size 25 i9 _ 9 72 Try.underlying28 hi hz0 hz1 hz2 rfl (by decide) _ (q + 1) _ rfl HOW3.out _ B (j - q) (c - q) (chgs l2) rfl HBK3.out (chgs_one _) ?h1 ?h2 HB3.out.size ?_)
      case h1 => unfold maxLen; omega
      case h2 => omega
      intro v4 w4 hown hgr _
      obtain ⟨A4, c4, rfl⟩ := own_formK hown
      rw [chgs_append, ← HP.out] at hown
      have HB4 := hide (HB3.out.grown hgr HB3.out.size (fun g hg => (HOW3.out.lt g hg).1))
      have HOW4 := hide hown
      have HPL := hide (show (putC l x).length = q + 1 + (j - q) by rw [HP.out, List.length_append, List.length_append, HT.out, HD.out]; rfl)
      clear hown hgr
      go_wp2
      go_ret
      refine ⟨A4, c4, ?_, ?_, HB4.out⟩
      · rw [HPL.out]; rfl
      · rw [HPL.out]; exact HOW4.out
end Go.Proofs.Ytfidglkhpikdbaa
