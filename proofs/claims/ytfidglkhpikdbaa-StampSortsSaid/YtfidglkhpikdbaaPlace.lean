/-
  slices.Backward at changes; the program's placeFor, a loop over it; Put.
-/
import Derived.Test.YtfidglkhpikdbaaStampQ
import Derived.RangeFuncNested
import Derived.RangeFuncBound
import Derived.RangeFuncCalls
import Derived.RangeFuncLeaves
import Derived.Shelf.Abstract
import Derived.Shelf.RegionOpen
import Derived.WalkKit
import Derived.OwnWalkIn
import Derived.TacticsInMore
import Derived.LoopNIn
import Derived.LoopIn
namespace Go.Proofs.Ytfidglkhpikdbaa
open Go.RowKit Go.Shelf
set_option linter.unusedVariables false
attribute [local go_sem] Oper.semAt_some

/-- What has come when k rounds are over: f 0, .., f (k - 1). -/
def upto {α : Type} (f : Nat → α) (k : Nat) : List α := (List.range k).map f
theorem upto_succ {α : Type} (f : Nat → α) (k : Nat) : upto f (k + 1) = upto f k ++ [f k] := by simp [upto, List.range_succ]
theorem upto_length {α : Type} (f : Nat → α) (k : Nat) : (upto f k).length = k := by simp [upto]
def noChg : Chg := ⟨0, 0, 0, 0, 0, 0, 0, 0, 0⟩
/-- The pairs that come of a list from its end on. -/
def backAt (l : List Chg) (j : Nat) : Nat × Chg := (l.length - 1 - j, l[l.length - 1 - j]?.getD noChg)

set_option maxRecDepth 100000 in
set_option maxHeartbeats 2000000 in
theorem back1_in (F : Fence) (n : Nat) (hF : F.fn 31) (hro : F.round = none) (hn : 1 ≤ n) (l Bs n₀ c : Nat) (A : Option Addr) (zs : List Chg) (hBs0 : Bs < n₀) (J Jx : List (Nat × Chg) → World → Prop)
    (hY : ∀ pre x W, J pre W → pre.length < zs.length → YieldAt F (n - 1) Try.prog l #[.int .i64 (x.1 : Int), x.2.val] W fun e W' =>
      (e = .returned (.bool true) ∧ J (pre ++ [x]) W' ∧ Below n₀ W W') ∨ (e = .returned (.bool false) ∧ Jx (pre ++ [x]) W'))
    (W : World) (hBs : W.cell? ⟨Bs, 0, none⟩ = some (.slice A zs.length c)) (hc : ∀ j, j < zs.length → ∃ b o, A = some ⟨b, o, none⟩ ∧ b < n₀ ∧ At W b (o + j * 9) (zs[j]?.getD noChg)) (hsm : zs.length ≤ 1000000000000) (h0 : J [] W) :
    CallsIn F n Try.prog 31 #[.func (.yield l) #[] #[], .pointer (some ⟨Bs, 0, none⟩)] W fun e W' => (∃ v, e = .returned v) ∧
      ((∃ ys, ys = upto (backAt zs) zs.length ∧ J ys W') ∨ (∃ pre, (∃ k, k ≤ zs.length ∧ pre = upto (backAt zs) k) ∧ Jx pre W')) := by
  refine callsIn_of_wp Try.func31 rfl hF ?_ hro
  simp only [Try.ntmps31, List.size_toArray, List.length_cons, List.length_nil, Nat.reduceAdd, Nat.reduceSub, Array.replicate_succ, Array.replicate_zero, List.push_toArray, List.append_toArray, List.nil_append, List.cons_append]
  gi_wp2
  gi_loopw [3] (fun i wr => ∃ (m : Nat) (z : Int), m ≤ zs.length ∧ i = .int .i64 z ∧ z = (m : Int) - 1 ∧ Hid (J (upto (backAt zs) (zs.length - m)) wr) ∧ Hid (Below n₀ W wr))
    (fun i _ => (intOf i + 1).toNat)
  case atStart => exact ⟨zs.length, (zs.length : Int) - 1, Nat.le_refl _, rfl, rfl, by rw [Nat.sub_self]; exact h0, Below.refl _ _⟩
  case round =>
    obtain ⟨m, z, hm, rfl, hz, hJs, hnx⟩ := hrel
    cases m with
    | zero =>
      have hz0 : ¬ (0 : Int) ≤ z := by omega
      have hz1 : z < 0 := by omega
      clear hz
      gi_wp2
      go_end0
      have HJ := hJs.out
      rw [Nat.sub_zero] at HJ
      exact ⟨⟨_, rfl⟩, .inl HJ⟩
    | succ j =>
      obtain rfl : z = (j : Int) := by omega
      clear hz
      obtain ⟨b, o, rfl, hb, hat⟩ := hc j (by omega)
      have hat := hat.below hnx.out hb
      have hbs := (hnx.out.cell (p := ⟨Bs, 0, none⟩) hBs0).trans hBs
      obtain ⟨fn, tmps, assign, body, hy, hR⟩ := hY _ (j, zs[j]?.getD noChg) wr hJs.out (by rw [upto_length]; omega)
      dsimp only at hy
      have hup := hide (show upto (backAt zs) (zs.length - (j + 1)) ++ [(j, zs[j]?.getD noChg)] = upto (backAt zs) (zs.length - j) by
        rw [show zs.length - j = zs.length - (j + 1) + 1 by omega, upto_succ, backAt, show zs.length - 1 - (zs.length - (j + 1)) = j by omega])
      have hlt : (j : Int) < (zs.length : Int) := by omega
      have HK := hide (show zs.length - j ≤ zs.length by omega)
      generalize zs[j]?.getD noChg = y at *
      obtain ⟨yr, ys, yt, yk, ya, yb, yn, yp, yq⟩ := y
      obtain ⟨x0, x1, x2, x3, x4, x5, x6, x7, x8⟩ := hat
      simp only at x0 x1 x2 x3 x4 x5 x6 x7 x8
      unfold Chg.val at hy
      dsimp only at hy
      clear hc
      gi_wp2
      refine hR.mono ?_
      rintro e W3 (⟨rfl, hJ3, hk3⟩ | ⟨rfl, hJx3⟩)
      · rw [hup.out] at hJ3
        have HJ3 := hide hJ3
        have HN3 := hide (hnx.out.trans hk3)
        clear hJ3 hk3 x0 x1 x2 x3 x4 x5 x6 x7 x8 hy hbs
        gi_wp2
        go_roundw
        case rel => exact ⟨j, (j : Int) - 1, by omega, rfl, rfl, HJ3, HN3⟩
        case measure => simp [intOf]
      · rw [hup.out] at hJx3
        have HJ3 := hide hJx3
        clear hJx3 x0 x1 x2 x3 x4 x5 x6 x7 x8 hy hbs
        gi_wp2
        refine bodyPost_ret (results_none rfl _ _ _) rfl ?_
        exact ⟨⟨_, rfl⟩, .inr ⟨_, ⟨_, HK.out, rfl⟩, HJ3.out⟩⟩

set_option maxHeartbeats 1000000 in
theorem back_in (F : Fence) (n : Nat) (hF : F.fn 27) (hro : F.round = none) (a : Option Addr) (len cap : Nat) (w : World) :
    CallsIn F n Try.prog 27 #[.slice a len cap] w fun e w' => e = .returned (.func (.func 31) #[] #[.pointer (some ⟨w.heap.size, 0, none⟩)]) ∧ w' = w.alloc (.cells #[.slice a len cap] 28) := by
  refine callsIn_of_wp Try.func27 rfl hF ?_ hro
  simp only [Try.ntmps27, List.size_toArray, List.length_cons, List.length_nil, Nat.reduceAdd, Nat.reduceSub, Array.replicate_succ, Array.replicate_zero, List.push_toArray, List.append_toArray, List.nil_append, List.cons_append]
  gi_wp2
  go_ret
  exact ⟨rfl, rfl⟩

theorem back_stops (F : Fence) (n : Nat) (hF : F.fn 31) (hro : F.round = none) (hn : 1 ≤ n) (Bs n₀ c : Nat) (A : Option Addr) (zs : List Chg) (hsm : zs.length ≤ 1000000000000) (w : World) (hBs : Bs < n₀) (hn₀ : n₀ ≤ w.heap.size)
    (hs : w.cell? ⟨Bs, 0, none⟩ = some (.slice A zs.length c)) (hc : ∀ j, j < zs.length → ∃ b o, A = some ⟨b, o, none⟩ ∧ b < n₀ ∧ At w b (o + j * 9) (zs[j]?.getD noChg)) :
    SeqStopsK F n Try.prog 31 #[.pointer (some ⟨Bs, 0, none⟩)] (fun x : Nat × Chg => #[Value.int .i64 (x.1 : Int), x.2.val]) (Below n₀) (fun ys => ys = upto (backAt zs) zs.length)
      (fun pre => ∃ k, k ≤ zs.length ∧ pre = upto (backAt zs) k) zs.length w := fun l J Jx W hW _ _ hY h0 =>
  back1_in F n hF hro hn l Bs n₀ c A zs hBs J Jx hY W ((hW.cell (p := ⟨Bs, 0, none⟩) (show Bs < w.heap.size by omega)).trans hs)
    (fun j hj => by
      obtain ⟨b, o, e, hb, hat⟩ := hc j hj
      exact ⟨b, o, e, hb, hat.below hW (by omega)⟩) hsm h0

/-- Where all that comes is above c, the place is further ahead. -/
theorem lastAt_skip (x : Chg) (l : List Chg) : ∀ k, k ≤ l.length → (∀ j, j < k → lessC x (backAt l j).2 = true) → lastAt x l l.length = lastAt x l (l.length - k) := by
  intro k
  induction k with
  | zero => intro _ _; rfl
  | succ k ih =>
    intro hk h
    rw [ih (by omega) (fun j hj => h j (by omega))]
    have h1 := h k (by omega)
    unfold backAt at h1
    simp only at h1
    rw [show l.length - k = l.length - 1 - k + 1 by omega, lastAt, show l.length - (k + 1) = l.length - 1 - k by omega]
    rw [List.getElem?_eq_getElem (by omega : l.length - 1 - k < l.length)] at h1 ⊢
    simp only [Option.getD_some] at h1 ⊢
    rw [if_pos h1]
theorem lastAt_stop (x : Chg) (l : List Chg) (k : Nat) (hk : k < l.length) (h : lessC x (backAt l k).2 = false) : lastAt x l (l.length - k) = (backAt l k).1 + 1 := by
  unfold backAt at h ⊢
  simp only at h ⊢
  rw [show l.length - k = l.length - 1 - k + 1 by omega, lastAt]
  rw [List.getElem?_eq_getElem (by omega : l.length - 1 - k < l.length)] at h ⊢
  simp only [Option.getD_some] at h ⊢
  rw [if_neg (by rw [h]; decide)]
theorem At.kept {W W' : World} {row : Option Nat} {b o : Nat} {x : Chg} (h : At W b o x) (hg : W.grownBy W' row) (hr : ∀ r, row = some r → ∃ ob : Obj, W.heap[r]? = some ob ∧ ob.isCells = false) : At W' b o x := by
  obtain ⟨h0, h1, h2, h3, h4, h5, h6, h7, h8⟩ := h
  exact ⟨cell_kept h0 hg hr, cell_kept h1 hg hr, cell_kept h2 hg hr, cell_kept h3 hg hr, cell_kept h4 hg hr, cell_kept h5 hg hr, cell_kept h6 hg hr, cell_kept h7 hg hr, cell_kept h8 hg hr⟩
theorem keeps_of_below {W W' : World} (h : Below W.heap.size W W') : KeepsOthers W W' :=
  ⟨h.size, fun k o hk _ => (h.block k (Array.getElem?_eq_some_iff.1 hk).1).trans hk⟩

set_option maxRecDepth 100000 in
set_option maxHeartbeats 4000000 in
theorem place_any (P : Nat → Prop) (A : Option Addr) (n c : Nat) (l : List Chg) (x : Chg) (w : World) (h : RowK w P 9 A n c (chgs l)) (hn : n ≤ 1000000000000) :
    Calls Try.prog 21 #[.slice A n c, x.val] w fun e w' => e = .returned (.int .i64 (lastAt x l n : Nat)) ∧ Below w.heap.size w w' := by
  have hl : l.length = n := by have := h.1; rw [chgs_len] at this; omega
  subst hl
  obtain ⟨xr, xs, xt, xk, xa, xb, xn, xp, xq⟩ := x
  obtain ⟨xc, hxc⟩ : ∃ xc : Chg, xc = ⟨xr, xs, xt, xk, xa, xb, xn, xp, xq⟩ := ⟨_, rfl⟩
  rw [← hxc]
  have PL := hide (fun (y : Chg) W => callsIn_wide (n := 3).2 (sless_any xc y W))
  have hxv : xc.val = .agg #[.int .i64 xr, .int .i64 xs, .int .i64 xt, .int .i64 xk, .int .i64 xa, .int .i64 xb, .int .i64 xn, .int .i64 xp, .int .i64 xq] := by rw [hxc]; rfl
  have HXV := hide hxv
  rw [hxv]
  -- the three boxes
  have hX0 := at_new w xc 25
  have hB1 := (Below.refl w.heap.size w).alloc (Nat.le_refl _) (.cells #[.int .i64 xr, .int .i64 xs, .int .i64 xt, .int .i64 xk, .int .i64 xa, .int .i64 xb, .int .i64 xn, .int .i64 xp, .int .i64 xq] 25)
  refine (callsIn_wide (n := 6)).1 ?_
  have hro : Fence.wide.round = none := rfl
  refine callsIn_of_wp_marks Try.func21 rfl trivial ?_ hro
  simp only [Try.ntmps21, List.size_toArray, List.length_cons, List.length_nil, Nat.reduceAdd, Nat.reduceSub, Array.replicate_succ, Array.replicate_zero, List.push_toArray, List.append_toArray, List.nil_append, List.cons_append]
  gi_wp2_with (refine ⟨trivial, ?_⟩; gi_at_call 27; refine (back_in Fence.wide 5 trivial hro _ _ _ _).mono ?_; rintro e w' ⟨rfl, rfl⟩)
  have bR := (Boxed.new (w.alloc (.cells #[.int .i64 xr, .int .i64 xs, .int .i64 xt, .int .i64 xk, .int .i64 xa, .int .i64 xb, .int .i64 xn, .int .i64 xp, .int .i64 xq] 25)) 3 (.int .i64 0)).alloc (.cells #[.slice A l.length c] 28)
  have bN := Boxed.new ((w.alloc (.cells #[.int .i64 xr, .int .i64 xs, .int .i64 xt, .int .i64 xk, .int .i64 xa, .int .i64 xb, .int .i64 xn, .int .i64 xp, .int .i64 xq] 25)).alloc (.cells #[.int .i64 0] 3)) 28 (.slice A l.length c)
  simp only [World.size_alloc] at bR bN
  have hB0 : Below w.heap.size w (((w.alloc (.cells #[.int .i64 xr, .int .i64 xs, .int .i64 xt, .int .i64 xk, .int .i64 xa, .int .i64 xb, .int .i64 xn, .int .i64 xp, .int .i64 xq] 25)).alloc (.cells #[.int .i64 0] 3)).alloc (.cells #[.slice A l.length c] 28)) := (((Below.refl _ w).alloc (Nat.le_refl _) _).alloc (by simp) _).alloc (by simp; omega) _
  have hX : At (((w.alloc (.cells #[.int .i64 xr, .int .i64 xs, .int .i64 xt, .int .i64 xk, .int .i64 xa, .int .i64 xb, .int .i64 xn, .int .i64 xp, .int .i64 xq] 25)).alloc (.cells #[.int .i64 0] 3)).alloc (.cells #[.slice A l.length c] 28)) w.heap.size 0 xc := by
    have := (at_new w ⟨xr, xs, xt, xk, xa, xb, xn, xp, xq⟩ 25).later (by simp) (((Since.refl _).alloc (.cells #[.int .i64 0] 3)).alloc (.cells #[.slice A l.length c] 28))
    rw [hxc]
    exact this
  have hsz : (((w.alloc (.cells #[.int .i64 xr, .int .i64 xs, .int .i64 xt, .int .i64 xk, .int .i64 xa, .int .i64 xb, .int .i64 xn, .int .i64 xp, .int .i64 xq] 25)).alloc (.cells #[.int .i64 0] 3)).alloc (.cells #[.slice A l.length c] 28)).heap.size = w.heap.size + 3 := by simp
  obtain ⟨W0, hW0⟩ : ∃ W0, ((w.alloc (.cells #[.int .i64 xr, .int .i64 xs, .int .i64 xt, .int .i64 xk, .int .i64 xa, .int .i64 xb, .int .i64 xn, .int .i64 xp, .int .i64 xq] 25)).alloc (.cells #[.int .i64 0] 3)).alloc (.cells #[.slice A l.length c] 28) = W0 := ⟨_, rfl⟩
  rw [hW0] at bR bN hB0 hX hsz ⊢
  clear hW0 hX0 hB1
  have hcells : ∀ j, j < l.length → ∃ b o, A = some ⟨b, o, none⟩ ∧ b < w.heap.size + 3 ∧ At W0 b (o + j * 9) (l[j]?.getD noChg) := fun j hj => by
    obtain ⟨b, o, y, e, -, hb, hy, hat⟩ := chgs_at h hj
    refine ⟨b, o, e, by omega, ?_⟩
    rw [hy]
    exact hat.below hB0 hb
  clear h
  refine wpIn_rangeFunc_ownH hro (by decide) (gf := 31) (lb := #[.pointer (some ⟨w.heap.size + 1 + 1, 0, none⟩)]) rfl trivial (enters_of Try.func31 (by kernel_rfl) rfl)
    (back_stops Fence.wide 5 trivial hro (by decide) (w.heap.size + 1 + 1) (w.heap.size + 3) c A l hn W0 (by omega) (by omega) bN.cell hcells) belowK_t (belowK_b (by omega)) (Below.refl _ _) (fun _ => rfl)
    (fun pre W => (∀ p ∈ pre, lessC xc p.2 = true) ∧ Below (w.heap.size + 3) W0 W)
    (fun cd pre W => (cd = .ret ∧ ∃ ini last, pre = ini ++ [last] ∧ (∀ p ∈ ini, lessC xc p.2 = true) ∧ lessC xc last.2 = false ∧ W.cell? ⟨w.heap.size + 1, 0, none⟩ = some (.int .i64 (wrap64 ((last.1 : Int) + 1)))) ∧ Below w.heap.size w W)
    (OwnFrom.and (fun _ _ _ _ hs _ _ => hs) (ownFrom_below (by omega) (by omega)))
    (fun _ => OwnFrom.and (Own.from (fun s A B row hs hg hr => by obtain ⟨hc, ini, last, e1, e2, e3, e4⟩ := hs; exact ⟨hc, ini, last, e1, e2, e3, cell_kept e4 hg hr⟩) _) (ownFrom_below (Nat.le_refl _) (by omega)))
    ⟨by simp, Below.refl _ _⟩
    (fun p a' W => ∃ Bx, w.heap.size + 3 ≤ Bx ∧ At W Bx 0 p.2 ∧ a' = { tmps := #[.slice A l.length c, .agg #[.int .i64 xr, .int .i64 xs, .int .i64 xt, .int .i64 xk, .int .i64 xa, .int .i64 xb, .int .i64 xn, .int .i64 xp, .int .i64 xq], undef, .pointer (some ⟨w.heap.size, 0, none⟩), .pointer (some ⟨w.heap.size + 1, 0, none⟩), .int .i64 (p.1 : Int), .pointer (some ⟨Bx, 0, none⟩), .slice A l.length c, .func (.func 31) #[] #[.pointer (some ⟨w.heap.size + 1 + 1, 0, none⟩)], .int .i64 (p.1 : Int), p.2.val, undef, undef, undef, undef, undef, undef], defers := [] })
    (fun p a' _ X Y row hs hg hr => by obtain ⟨Bx, h1, h2, h3⟩ := hs; exact ⟨Bx, h1, h2.kept hg (fun r e => (hr r e).2), h3⟩)
    ?assign ?body ?done ?stop
  case assign =>
    rintro lk pre ⟨ix, yr, ys, yt, yk, ya, yb, yn, yp, yq⟩ W K ⟨hp, hB⟩ hK
    have hsW := hB.size
    have HB' := hide hB
    have HP := hide hp
    have HK := hide hK
    clear hB hp hK
    unfold Chg.val
    dsimp only
    gi_wp2
    have hB := HB'.out
    have hp := HP.out
    have hK := HK.out
    unfold Chg.val at hK
    exact hK _ _ ((KeepsOthers.alloc _ _).from _) ((Below.refl _ W).alloc (by omega) _) ⟨hp, hB.alloc (by omega) _⟩ ⟨W.heap.size, by omega, at_new W ⟨yr, ys, yt, yk, ya, yb, yn, yp, yq⟩ 25, rfl⟩
  case body =>
    rintro lk pre ⟨ix, yr, ys, yt, yk, ya, yb, yn, yp, yq⟩ a' W hl ⟨r, hr⟩ ⟨hp, hB⟩ ⟨Bx, hBx, hAt, rfl⟩ hlt
    have hsW := hB.size
    have hX' := hX.below hB (by omega)
    rw [hxc] at hX'
    obtain ⟨x0, x1, x2, x3, x4, x5, x6, x7, x8⟩ := hX'
    obtain ⟨y0, y1, y2, y3, y4, y5, y6, y7, y8⟩ := hAt
    simp only at x0 x1 x2 x3 x4 x5 x6 x7 x8 y0 y1 y2 y3 y4 y5 y6 y7 y8
    have hc1 : W.cell? ⟨w.heap.size + 1, 0, none⟩ = some (.int .i64 0) := (hB.cell (p := ⟨w.heap.size + 1, 0, none⟩) (show w.heap.size + 1 < w.heap.size + 3 by omega)).trans bR.cell
    have hf1 : W.frozen? ⟨w.heap.size + 1, 0, none⟩ = false := (World.frozen?_of_block (a := ⟨w.heap.size + 1, 0, none⟩) (hB.block (w.heap.size + 1) (by omega))).trans bR.frozen
    have HF1 := hide (show ∀ w5, Below W.heap.size W w5 → w5.cell? ⟨w.heap.size + 1, 0, none⟩ = some (.int .i64 0) ∧ w5.frozen? ⟨w.heap.size + 1, 0, none⟩ = false from fun w5 h5 =>
      ⟨(h5.cell (p := ⟨w.heap.size + 1, 0, none⟩) (show w.heap.size + 1 < W.heap.size by omega)).trans hc1, (World.frozen?_of_block (a := ⟨w.heap.size + 1, 0, none⟩) (h5.block (w.heap.size + 1) (by omega))).trans hf1⟩)
    have PLy := PL.out ⟨yr, ys, yt, yk, ya, yb, yn, yp, yq⟩ W
    rw [HXV.out] at PLy
    unfold Chg.val at PLy
    dsimp only at PLy
    have HP := hide hp
    have HBB := hide hB
    have HB00 := hide hB0
    obtain ⟨bb, hbb⟩ : ∃ bb, bb = lessC xc ⟨yr, ys, yt, yk, ya, yb, yn, yp, yq⟩ := ⟨_, rfl⟩
    rw [← hbb] at PLy
    have HBB2 := hide hbb
    clear hX hxc HXV PL hB hB0 hbb bR bN hcells hp hc1 hf1
    unfold Chg.val
    dsimp only
    cases bb with
    | true =>
      gi_wp2_with (refine ⟨trivial, ?_⟩; gi_at_call 7; refine (CallsIn.inRound lk PLy).mono ?_; rintro e w5 ⟨rfl, h5⟩)
      refine ⟨(keeps_of_below h5).from _, h5.mono (by omega), ⟨fun q hq => ?_, HBB.out.trans (h5.mono (by omega))⟩⟩
      rcases List.mem_append.1 hq with h1 | h1
      · exact HP.out q h1
      · rw [List.mem_singleton.1 h1]; exact HBB2.out.symm
    | false =>
      gi_wp2_with (refine ⟨trivial, ?_⟩; gi_at_call 7; refine (CallsIn.inRound lk PLy).mono ?_; rintro e w5 ⟨rfl, h5⟩; have hc5 := (HF1.out w5 h5).1; have hf5 := (HF1.out w5 h5).2)
      refine ⟨((keeps_of_below h5).trans (KeepsOthers.setCell _ _ _)).from _, ⟨rfl, pre, _, rfl, HP.out, HBB2.out.symm, ?_⟩, ?_⟩
      · exact World.cell?_setCell_same' _ _ _ (by rw [hc5]; rfl)
      · exact ((HB00.out.trans (HBB.out.mono (by omega))).trans (h5.mono (by omega))).setCell (p := ⟨w.heap.size + 1, 0, none⟩) (by simp) _
  case done =>
    rintro D ys W hD rfl ⟨hp, hB⟩ hK
    have hsW := hB.size
    have hc1 : W.cell? ⟨w.heap.size + 1, 0, none⟩ = some (.int .i64 0) := (hB.cell (p := ⟨w.heap.size + 1, 0, none⟩) (show w.heap.size + 1 < w.heap.size + 3 by omega)).trans bR.cell
    have hf1 : W.frozen? ⟨w.heap.size + 1, 0, none⟩ = false := (World.frozen?_of_block (a := ⟨w.heap.size + 1, 0, none⟩) (hB.block (w.heap.size + 1) (by omega))).trans bR.frozen
    have hall : lastAt xc l l.length = 0 := by
      have h0 := lastAt_skip xc l l.length (Nat.le_refl _) (fun j hj => hp _ (by unfold upto; exact List.mem_map.2 ⟨j, List.mem_range.2 hj, rfl⟩))
      rw [Nat.sub_self] at h0
      exact h0
    have HALL := hide hall
    have HBB := hide hB
    have HB00 := hide hB0
    clear hX hxc HXV PL hB hB0 bR bN hcells hp hall
    gi_wp2
    have hK' := (KeepsOthers.setCell W ⟨w.heap.size + 1, 0, none⟩ (.int .i64 0)).same D _ hK rfl
    refine ⟨by simp, .inl ⟨_, _, rfl, run_takeDeferred hK', ?_⟩⟩
    have hc5 := cell_kept (World.cell?_setCell_same' W ⟨w.heap.size + 1, 0, none⟩ (.int .i64 0) (by rw [hc1]; rfl)) (grownBy_putObj' _ D (.deferred none)) (fun r e => by cases e; exact ⟨_, hK', rfl⟩)
    refine ⟨.int .i64 0, ?_, by rw [HALL.out]; rfl, ((HB00.out.trans (HBB.out.mono (by omega))).setCell (p := ⟨w.heap.size + 1, 0, none⟩) (by simp) _).trans (belowK_b (w := w) (Nat.le_refl _) _ D _ _ (by omega) hK' rfl rfl)⟩
    simp [results, Try.f21, go_sem, hc5]
  case stop =>
    rintro D cd pre W hD ⟨k, hk, rfl⟩ ⟨⟨rfl, ini, last, e1, e2, e3, hcr⟩, hB⟩ hK
    have hfin : lastAt xc l l.length = last.1 + 1 ∧ last.1 < l.length := by
      obtain ⟨k', rfl⟩ : ∃ k', k = k' + 1 := by
        cases k with
        | zero => simp [upto] at e1
        | succ k' => exact ⟨k', rfl⟩
      rw [upto_succ] at e1
      obtain ⟨rfl, e5⟩ := List.append_inj' e1 rfl
      obtain rfl : backAt l k' = last := by simpa using e5
      rw [lastAt_skip xc l k' (by omega) (fun j hj => e2 _ (by unfold upto; exact List.mem_map.2 ⟨j, List.mem_range.2 hj, rfl⟩)), lastAt_stop xc l k' (by omega) e3]
      exact ⟨rfl, by unfold backAt; simp only; omega⟩
    have HFIN := hide hfin.1
    have hwr : wrap64 ((last.1 : Int) + 1) = ((last.1 + 1 : Nat) : Int) := (IntWalk.i64_left _).symm.trans (by rw [IntKind.wrap_i64]; omega)
    rw [hwr] at hcr
    have HBB := hide hB
    clear hX hxc HXV PL hB hB0 bR bN hcells e1 e2 e3 hfin hwr
    gi_wp2
    refine ⟨by simp, .inl ⟨_, _, rfl, run_takeDeferred hK, ?_⟩⟩
    have hc5 := cell_kept hcr (grownBy_putObj' _ D (.deferred none)) (fun r e => by cases e; exact ⟨_, hK, rfl⟩)
    refine ⟨_, ?_, by rw [HFIN.out], HBB.out.trans (belowK_b (w := w) (Nat.le_refl _) W D _ _ (by omega) hK rfl rfl)⟩
    simp [results, Try.f21, go_sem, hc5]

set_option maxHeartbeats 2000000 in
theorem sput_any (P : Nat → Prop) (A : Option Addr) (n c : Nat) (l : List Chg) (x : Chg) (w : World) (h : RowK w P 9 A n c (chgs l)) (hn : n ≤ 1000000000000) :
    Calls Try.prog 10 #[.slice A n c, x.val] w fun e w' => FreshC w (putC l x) w' e := by
  have hl : l.length = n := by have := h.1; rw [chgs_len] at this; omega
  have hcap := h.2.1
  have hcb := h.2.2.1
  obtain ⟨xr, xs, xt, xk, xa, xb, xn, xp, xq⟩ := x
  obtain ⟨w1, hw1⟩ : ∃ w1, w1 = w.alloc (.cells #[.int .i64 xr, .int .i64 xs, .int .i64 xt, .int .i64 xk, .int .i64 xa, .int .i64 xb, .int .i64 xn, .int .i64 xp, .int .i64 xq] 25) := ⟨_, rfl⟩
  have hb1 : Below w.heap.size w w1 := by rw [hw1]; exact (Below.refl _ w).alloc (Nat.le_refl _) _
  have hat : At w1 w.heap.size 0 ⟨xr, xs, xt, xk, xa, xb, xn, xp, xq⟩ := by rw [hw1]; exact at_new w ⟨xr, xs, xt, xk, xa, xb, xn, xp, xq⟩ _
  have hlt1 : w.heap.size < w1.heap.size := by rw [hw1]; simp
  have h1 : RowK w1 (fun b => P b ∧ b < w.heap.size) 9 A n c (chgs l) := (h.inb (by omega)).below (by omega) hb1 (fun _ h _ => h.2)
  have PP := hide (place_any _ A n c l ⟨xr, xs, xt, xk, xa, xb, xn, xp, xq⟩ w1 h1 hn)
  have HPUT := hide (show putC l ⟨xr, xs, xt, xk, xa, xb, xn, xp, xq⟩ = l.take (lastAt ⟨xr, xs, xt, xk, xa, xb, xn, xp, xq⟩ l n) ++ [⟨xr, xs, xt, xk, xa, xb, xn, xp, xq⟩] ++ l.drop (lastAt ⟨xr, xs, xt, xk, xa, xb, xn, xp, xq⟩ l n) by unfold putC; rw [hl]; simp)
  have hq : lastAt ⟨xr, xs, xt, xk, xa, xb, xn, xp, xq⟩ l n ≤ n := lastAt_le _ _ _
  generalize lastAt ⟨xr, xs, xt, xk, xa, xb, xn, xp, xq⟩ l n = q at *
  rw [HPUT.out]
  have hs1 : ∀ W, (Instr.slice 28 (.slice A n c) none (some (.int .i64 (q : Int))) none).run Try.prog W = .ok (.slice A q c) W := fun W => front_runC W A n c q (by omega)
  have hs2 : ∀ W, (Instr.slice 28 (.slice A n c) (some (.int .i64 (q : Int))) none none).run Try.prog W = .ok (.slice (if c = q then A else A.map (·.add (q * 9))) (n - q) (c - q)) W := fun W => tail_runC W A n c q hq hcap
  have hfr := h1.front hq
  rw [chgs_take] at hfr
  have hbk := h1.back hq
  rw [chgs_drop] at hbk
  generalize (if c = q then A else A.map (·.add (q * 9))) = B at *
  have LEN := hide (show (l.take q).length = q ∧ (l.drop q).length = n - q by rw [List.length_take, List.length_drop]; omega)
  generalize l.take q = l1 at *
  generalize l.drop q = l2 at *
  have CC : Hid (∀ u v, Since w1 u → Since u v → Calls Try.prog 22 #[.slice (some ⟨v.heap.size + 1, 0, none⟩) 3 3] ((v.alloc (.cells #[.int .i64 xr, .int .i64 xs, .int .i64 xt, .int .i64 xk, .int .i64 xa, .int .i64 xb, .int .i64 xn, .int .i64 xp, .int .i64 xq] 25)).alloc (.cells #[.slice A q c, .slice (some ⟨v.heap.size, 0, none⟩) 1 1, .slice B (n - q) (c - q)] 28)).drew fun e w' => FreshC w (l1 ++ [⟨xr, xs, xt, xk, xa, xb, xn, xp, xq⟩] ++ l2) w' e ∧ Since u w') := by
    intro u v hu huv
    have hv := Since.trans hu huv
    have hbv : Below w1.heap.size w1 ((v.alloc (.cells #[.int .i64 xr, .int .i64 xs, .int .i64 xt, .int .i64 xk, .int .i64 xa, .int .i64 xb, .int .i64 xn, .int .i64 xp, .int .i64 xq] 25)).alloc (.cells #[.slice A q c, .slice (some ⟨v.heap.size, 0, none⟩) 1 1, .slice B (n - q) (c - q)] 28)).drew := (Since.alloc (Since.alloc hv _) _).drew
    have hp : PartsC ((v.alloc (.cells #[.int .i64 xr, .int .i64 xs, .int .i64 xt, .int .i64 xk, .int .i64 xa, .int .i64 xb, .int .i64 xn, .int .i64 xp, .int .i64 xq] 25)).alloc (.cells #[.slice A q c, .slice (some ⟨v.heap.size, 0, none⟩) 1 1, .slice B (n - q) (c - q)] 28)).drew (v.heap.size + 1) [l1, [⟨xr, xs, xt, xk, xa, xb, xn, xp, xq⟩], l2] := by
      have hle := LEN.out
      have hcell : ∀ i u, #[Value.slice A q c, .slice (some ⟨v.heap.size, 0, none⟩) 1 1, .slice B (n - q) (c - q)][i]? = some u → ((v.alloc (.cells #[.int .i64 xr, .int .i64 xs, .int .i64 xt, .int .i64 xk, .int .i64 xa, .int .i64 xb, .int .i64 xn, .int .i64 xp, .int .i64 xq] 25)).alloc (.cells #[.slice A q c, .slice (some ⟨v.heap.size, 0, none⟩) 1 1, .slice B (n - q) (c - q)] 28)).drew.cell? ⟨v.heap.size + 1, i, none⟩ = some u := fun i u hu => by
        have := (Blk.new (v.alloc (.cells #[.int .i64 xr, .int .i64 xs, .int .i64 xt, .int .i64 xk, .int .i64 xa, .int .i64 xb, .int .i64 xn, .int .i64 xp, .int .i64 xq] 25)) 28 #[Value.slice A q c, .slice (some ⟨v.heap.size, 0, none⟩) 1 1, .slice B (n - q) (c - q)]).cell i
        rw [World.size_alloc] at this
        exact this.trans hu
      intro i hi
      rcases i with _ | _ | _ | i
      · refine ⟨A, c, hcell 0 _ (by simp [hle.1]), ?_⟩
        have := (hfr.below (by omega) hbv (fun _ _ h => h)).mono (Q := fun _ => True) (fun _ _ => trivial)
        simpa [hle.1] using this
      · refine ⟨some ⟨v.heap.size, 0, none⟩, 1, hcell 1 _ (by simp), ?_⟩
        have := (rowK_new v [⟨xr, xs, xt, xk, xa, xb, xn, xp, xq⟩] #[.int .i64 xr, .int .i64 xs, .int .i64 xt, .int .i64 xk, .int .i64 xa, .int .i64 xb, .int .i64 xn, .int .i64 xp, .int .i64 xq] 1 25 rfl rfl (by omega)).alloc (by omega) (.cells #[.slice A q c, .slice (some ⟨v.heap.size, 0, none⟩) 1 1, .slice B (n - q) (c - q)] 28)
        exact this
      · refine ⟨B, c - q, hcell 2 _ (by simp [hle.2]), ?_⟩
        have := (hbk.below (by omega) hbv (fun _ _ h => h)).mono (Q := fun _ => True) (fun _ _ => trivial)
        simpa [hle.2] using this
      · exact absurd hi (by simp)
    refine (concatC_any (v.heap.size + 1) 3 3 _ _ hp rfl (by omega) (by have := LEN.out; simp; omega)).mono ?_
    rintro e w' ⟨A1, c1, rfl, hown, hbl⟩
    have hb : Below w.heap.size w ((v.alloc (.cells #[.int .i64 xr, .int .i64 xs, .int .i64 xt, .int .i64 xk, .int .i64 xa, .int .i64 xb, .int .i64 xn, .int .i64 xp, .int .i64 xq] 25)).alloc (.cells #[.slice A q c, .slice (some ⟨v.heap.size, 0, none⟩) 1 1, .slice B (n - q) (c - q)] 28)).drew := hb1.trans (hbv.mono (by omega))
    simp only [List.flatten_cons, List.flatten_nil, List.append_nil, ← List.append_assoc] at hown ⊢
    exact ⟨⟨A1, c1, rfl, own_baseK hown (Below.size hb), hb.trans (hbl.mono (Below.size hb))⟩, Since.next (Since.alloc (Since.alloc huv _) _).drew hbl⟩
  generalize l1 ++ [⟨xr, xs, xt, xk, xa, xb, xn, xp, xq⟩] ++ l2 = R at CC ⊢
  have HB1 := hide hb1
  have HAT := hide hat
  have HLT1 := hide hlt1
  have HW1 := hide hw1
  clear h hl hfr hbk h1 LEN hb1 hat hlt1 hw1 HPUT
  unfold Chg.val at *
  dsimp only at *
  go_enter Try.func10, Try.ntmps10
  go_wp2_with fail
  rw [← HW1.out]
  refine PP.out.mono ?_
  rintro e w2 ⟨rfl, hb2⟩
  have hx := fun w' (h : Since w2 w') => (HAT.out.below hb2 HLT1.out).later (Nat.lt_of_lt_of_le HLT1.out hb2.size) h
  have x0 := fun w' h => (hx w' h).1
  have x1 := fun w' h => (hx w' h).2.1
  have x2 := fun w' h => (hx w' h).2.2.1
  have x3 := fun w' h => (hx w' h).2.2.2.1
  have x4 := fun w' h => (hx w' h).2.2.2.2.1
  have x5 := fun w' h => (hx w' h).2.2.2.2.2.1
  have x6 := fun w' h => (hx w' h).2.2.2.2.2.2.1
  have x7 := fun w' h => (hx w' h).2.2.2.2.2.2.2.1
  have x8 := fun w' h => (hx w' h).2.2.2.2.2.2.2.2
  have CC2 := hide (fun v (hv : Since w2 v) => CC.out w2 v hb2 hv)
  have hr0 := (Since.refl w2).drew
  clear hx PP
  go_wp2_with fail
  go_region_held (fun w' => Since w2 w') (first | assumption | exact Since.alloc (by assumption) _ | exact Since.alloc (Since.alloc (by assumption) _) _) (first
    | (go_at_call 22; refine (CC2.out _ (by first | assumption | exact Since.refl _)).mono ?_; rintro e w5 ⟨⟨A1, c1, rfl, hown, hbl⟩, hs5⟩))
  all_goals go_wp2
  all_goals go_ret
  all_goals exact ⟨A1, c1, rfl, hown, hbl⟩
end Go.Proofs.Ytfidglkhpikdbaa
