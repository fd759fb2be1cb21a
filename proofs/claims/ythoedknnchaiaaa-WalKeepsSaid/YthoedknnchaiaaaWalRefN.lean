/-
  The reference's log: Open.
-/
import Derived.Test.YthoedknnchaiaaaWalRefX
namespace Go.Proofs.Ythoedknnchaiaaa
open Go.RowKit
set_option linter.unusedVariables false

theorem own_rowv {w : World} {base : Nat} {e : TypeId} {A : Option Addr} {n c : Nat} {xs : List Value} (h : w.ownsRow base e 1 (.slice A n c) n xs) : Row w (fun b => (Value.slice A n c).ownBlock = some b) A n c xs := by
  obtain ⟨h1, h2⟩ := h
  rcases h2 with ⟨h2, h3⟩ | ⟨g, cap, cur, h2, hb, hg, hn, hc, hs, ht⟩
  · injection h2 with e1 e2 e3
    subst e1 e2 e3
    rw [show xs = [] from List.eq_nil_of_length_eq_zero (by omega)]
    exact Row.nil _ _ _
  · injection h2 with e1 e2 e3
    subst e1 e3
    unfold maxLen at hc
    refine ⟨by rw [h1, Nat.mul_one], hn, by omega, .inr ⟨g, 0, rfl, rfl, fun j hj => ?_⟩⟩
    rw [cell_of_row w g _ cur _ (0, 0) hg, ← ht, List.getElem?_take, if_pos (by omega), Nat.zero_add]
    simp
theorem tail0_is : ∀ (l : List Int) (t : Nat), t ≤ l.length → l.drop t = zs (l.length - t) → (t = 0 ∨ l.getD (t - 1) 0 ≠ 0) → tail0 l = t := by
  intro l
  induction l with
  | nil => intro t h _ _; simp at h; subst h; rfl
  | cons x l ih =>
    intro t h hz ht
    cases t with
    | zero =>
      rw [List.drop_zero] at hz
      rw [hz]
      exact tail0_zs _
    | succ t =>
      rw [List.length_cons] at h hz
      rw [List.drop_succ_cons, show l.length + 1 - (t + 1) = l.length - t by omega] at hz
      unfold tail0
      cases t with
      | zero =>
        rw [ih 0 (Nat.zero_le _) hz (.inl rfl)]
        rcases ht with ht | ht
        · omega
        · rw [if_neg (by simp), if_pos (by simpa using ht)]
      | succ t =>
        rw [ih (t + 1) (by omega) hz (.inr (by rcases ht with ht | ht; · omega
                                               · simpa using ht)), if_pos (by omega)]

/-- So many records are taken over. -/
def OInv (l g s : Nat) (w3 : World) (xs : List (List Int)) (i : Nat) (wr : World) : Prop :=
  ∃ (RA : Option Addr) (rc : Nat) (vs : List Value), Blk wr l 64 #[.pointer (some ⟨g, 0, none⟩), .int .i64 (s : Int), .int .i64 0, .slice RA i rc, .int .i64 0, .slice none 0 0] ∧ wr.ownsRow 0 32 1 (.slice RA i rc) i vs ∧
    Vals wr (fun b => w3.heap.size ≤ b ∧ b < wr.heap.size ∧ (Value.slice RA i rc).ownBlock ≠ some b) vs (xs.take i) ∧ (∀ b, (Value.slice RA i rc).ownBlock = some b → w3.heap.size ≤ b ∧ b < wr.heap.size) ∧ Touch (· = l) w3 wr
theorem OInv.next {l g s i n rc : Nat} {RA : Option Addr} {w3 wr W : World} {xs : List (List Int)} {vs : List Value} {x : List Int} (hl : l < w3.heap.size) (hi : xs[i]? = some x) (hxo : Octs x)
    (hV : Vals wr (fun b => w3.heap.size ≤ b ∧ b < wr.heap.size ∧ (Value.slice RA i rc).ownBlock ≠ some b) vs (xs.take i)) (hb : ∀ b, (Value.slice RA i rc).ownBlock = some b → w3.heap.size ≤ b ∧ b < wr.heap.size) (ht : Touch (· = l) w3 wr)
    (hP : Pushed l 64 #[.pointer (some ⟨g, 0, none⟩), .int .i64 (s : Int), .int .i64 0, .slice RA i rc, .int .i64 0, .slice none 0 0] (.slice RA i rc) i vs n x wr W) : OInv l g s w3 xs (i + 1) W := by
  obtain ⟨RA', rc', aA, capA, p1, p2, p3, p4, p5, p6, p7, p8⟩ := hP
  have hs1 := ht.size
  have hs2 := p6.size
  refine ⟨RA', rc', _, p1, p2, ?_, ?_, ht.trans (p6.mono (Q := fun b => b = l ∨ w3.heap.size ≤ b) fun b _ h => h.elim .inl fun h => .inr (hb b h).1) fun b hb h => h.elim id fun h => by omega⟩
  · have e : xs.take (i + 1) = xs.take i ++ [x] := by
      obtain ⟨h1, h2⟩ := List.getElem?_eq_some_iff.1 hi
      rw [List.take_succ_eq_append_getElem h1, h2]
    rw [e]
    refine Vals.snoc (hV.turn fun {A n' c' xs'} r => ?_) (p3.mono fun b h => ?_) hxo
    · refine (r.keep fun b h hlt => p6.block b hlt fun h2 => h2.elim (fun h2 => by omega) (fun h2 => h.2.2 h2)).mono fun b h => ⟨h.1, by omega, fun h2 => ?_⟩
      rcases p8 with h9 | ⟨q, h9, h3, h4⟩
      · exact h.2.2 (h9 ▸ h2)
      · rw [h2] at h9; injection h9 with h9; omega
    · subst h
      exact ⟨by omega, p5, p7⟩
  · intro b h
    rcases p8 with h9 | ⟨q, h9, h3, h4⟩
    · have := hb b (h9 ▸ h); exact ⟨this.1, by omega⟩
    · rw [h] at h9; injection h9 with h9; exact ⟨by omega, by omega⟩

/-- What Open leaves. -/
def ROpen (g a c : Nat) (k : Dk) (n : Nat) (w w' : World) (e : Ending) : Prop :=
  ∃ (l : Nat) (R' : Nat → Prop), e = .returned (.tuple #[.pointer (some ⟨l, 0, none⟩), .bool (openL k n).2.2]) ∧ RLog R' w' l g a c (openL k n).1 (openL k n).2.1 ∧ Touch (fun n => n = g ∨ n = a) w w' ∧ ∀ b, R' b → b = g ∨ b = a ∨ w.heap.size ≤ b

set_option maxHeartbeats 2000000 in
set_option maxRecDepth 100000 in
theorem refopen_any {g a c s : Nat} {cur : Array Value} {k : Dk} (w : World) (hB : Rk w g a c cur k) (hk : k.ok (2 * s + 1)) (hd : k.dead = false) :
    Calls Try.prog 57 #[.pointer (some ⟨g, 0, none⟩)] w fun e w' => ROpen g a c k s w w' e := by
  have hlen := hk.1
  have hm := hk.2.1
  have g0 := (hB.1.cell 0).trans rfl
  have hag := hB.2.2.1
  have hLc := hB.2.2.2.1
  have hq1 : ((32 * (2 * s + 1) : Nat) : Int).tdiv 32 = 2 * (s : Int) + 1 := by rw [Int.tdiv_eq_ediv_of_nonneg (by omega)]; omega
  have hq2 : (2 * (s : Int)).tdiv 2 = (s : Int) := by rw [Int.tdiv_eq_ediv_of_nonneg (by omega)]; omega
  have hh := half_lt hk false
  obtain ⟨P, hP⟩ : ∃ P, half k s false = 32 * P := ⟨_, rfl⟩
  have hBl : Blk (w.alloc (.cells #[.pointer (some ⟨g, 0, none⟩), .int .i64 (s : Int), .int .i64 0, .slice none 0 0, .int .i64 0, .slice none 0 0] 64)) w.heap.size 64 _ := Blk.new w _ _
  have hBA : Rk (w.alloc (.cells #[.pointer (some ⟨g, 0, none⟩), .int .i64 (s : Int), .int .i64 0, .slice none 0 0, .int .i64 0, .slice none 0 0] 64)) g a c cur k := hB.keep (Below.heap_alloc w _ g hB.1.lt) (Below.heap_alloc w _ a hB.2.1.lt)
  have HHALF := hide (refhalf_any (n := s) false _ _ _ _ _ hBA hk hBl)
  have HBA := hide hBA
  have HBL0 := hide hBl
  have HK := hide hk
  have HLEN := hide hlen
  have hgl := hB.1.lt
  have hal := hB.2.1.lt
  have hT0 := (Touch.refl (fun n => n = g ∨ n = a) w).alloc (.cells #[.pointer (some ⟨g, 0, none⟩), .int .i64 (s : Int), .int .i64 0, .slice none 0 0, .int .i64 0, .slice none 0 0] 64)
  have HT0 := hide hT0
  have hsl : w.heap.size < (w.alloc (.cells #[.pointer (some ⟨g, 0, none⟩), .int .i64 (s : Int), .int .i64 0, .slice none 0 0, .int .i64 0, .slice none 0 0] 64)).heap.size := by simp
  rw [hlen] at g0
  clear hB hBA hBl hk hT0
  go_enter Try.func57, Try.ntmps57
  go_wp2_with fail
  have hs1 : ∀ W, (Instr.slice 32 (.slice (some ⟨a, 0, none⟩) (32 * (2 * s + 1)) c) (some (.int .i64 (32 * (P : Int)))) (some (.int .i64 (32 * (P : Int) + 32 * (s : Int)))) none).run Try.prog W = .ok (.slice (if c = 32 * P then some ⟨a, 0, none⟩ else (some (⟨a, 0, none⟩ : Addr)).map (·.add (32 * P))) (32 * s) (c - 32 * P)) W := fun W => by
    have h := cut_run W (some ⟨a, 0, none⟩) (32 * (2 * s + 1)) c (32 * P) (32 * s) (by omega)
    rw [show ((32 * P : Nat) : Int) = 32 * (P : Int) by omega, show ((32 * s : Nat) : Int) = 32 * (s : Int) by omega] at h
    exact h
  refine HHALF.out.mono ?_
  rintro e w1 ⟨rfl, rfl⟩
  rw [hP]
  generalize w.alloc (.cells #[.pointer (some ⟨g, 0, none⟩), .int .i64 (s : Int), .int .i64 0, .slice none 0 0, .int .i64 0, .slice none 0 0] 64) = w1 at *
  generalize hl : w.heap.size = l at *
  have gA0 := (HBA.out.1.cell 0).trans rfl
  have lA1 := (HBL0.out.cell 1).trans rfl
  rw [hlen] at gA0
  have hrow : Row w1 (· = a) (if c = 32 * P then some ⟨a, 0, none⟩ else (some (⟨a, 0, none⟩ : Addr)).map (·.add (32 * P))) (32 * s) (c - 32 * P) (octs (hf k s false)) := by
    have h := HBA.out.row.mid (i := 32 * P) (k := 32 * s) (by omega)
    unfold hf
    rw [hP]
    exact h
  have HROW := hide hrow
  have HFO := hide (show Octs (hf k s false) from (HK.out.2.2.1.drop _).take _)
  have hl1 : g < w1.heap.size ∧ a < w1.heap.size := ⟨HBA.out.1.lt, HBA.out.2.1.lt⟩
  have hlb : l < w1.heap.size := HBL0.out.lt
  have HALL := hide (fun (q : Nat) => refframe_vals (w := w1.drewN q) (· = a) (fun b hb => by rw [hb]; exact hl1.2) _ (32 * s) (c - 32 * P) (hf k s false) hrow HFO.out (by omega))
  clear hrow HHALF
  generalize (if c = 32 * P then some ⟨a, 0, none⟩ else (some (⟨a, 0, none⟩ : Addr)).map (·.add (32 * P))) = AA at *
  go_wp2_with fail
  go_quiet (fail)
  go_wp2_with fail
  refine (HALL.out nq).mono ?_
  rintro e w3 ⟨XA, nk, xc, vsx, rfl, hox, hvx, hb3⟩
  have h13 : Below w1.heap.size w1 w3 := Below.trans (below_drewN (Below.refl _ w1) nq) hb3
  have HS3 := hide h13
  have hsz3 := h13.size
  have hF1 := frames_sound _ (hf k s false) (Nat.le_refl _)
  have hhl := hf_len HK.out false
  have hnk : vsx.length = nk := by rw [hox.1, Nat.mul_one]
  have hxl : (frames (hf k s false)).1.length = nk := by rw [← hvx.1, hnk]
  have h7 := allF_len7 (frames (hf k s false)).1
  have hF2 : (allF (frames (hf k s false)).1).length = (frames (hf k s false)).2 := by rw [← hF1.1, List.length_take]; omega
  have hat : (frames (hf k s false)).2 ≤ 32 * s := by have := hF1.2.1; omega
  have HFIT := hide hF1.2.2
  have hnk1 : nk ≤ 5000 := by omega
  have HOX := hide (own_rowv hox)
  have hxb : ∀ b, (Value.slice XA nk xc).ownBlock = some b → w1.heap.size ≤ b := own_block hox
  have hxb2 := own_lt8 hox
  have HVX := hide hvx
  have hB3 := HBL0.out.below h13 HBL0.out.lt
  have HB3 := hide hB3
  have HK3 := hide (HBA.out.keep (h13.block g hl1.1) (h13.block a hl1.2))
  have HI0 := hide (show OInv l g s w3 (frames (hf k s false)).1 0 w3 from ⟨none, 0, [], hB3, own_none _ _ _, by rw [List.take_zero]; exact Vals.nil _ _, (fun b hb => by cases hb), Touch.refl _ _⟩)
  have HFR := hide (show frames (hf k s false) = ((frames (hf k s false)).1, (frames (hf k s false)).2) from rfl)
  have HOPEN := hide (show openL k s = (k.laid (32 * P) (frames (hf k s false)).2 (zs (tail0 ((hf k s false).drop (frames (hf k s false)).2))), ⟨s, (frames (hf k s false)).1, (frames (hf k s false)).1.length⟩, k.laidOk (frames (hf k s false)).2 (zs (tail0 ((hf k s false).drop (frames (hf k s false)).2)))) by unfold openL; rw [hP])
  have HF2 := hide hF2
  clear hb3 hox hvx hB3 hF1 hF2 h7 h13 HFR
  generalize (frames (hf k s false)).1 = xs at *
  generalize (frames (hf k s false)).2 = at_ at *
  go_wp2_with fail
  go_loopw [9] (fun s9 wr => ∃ i : Nat, i ≤ nk ∧ s9 = .int .i64 (i : Int) ∧ Hid (OInv l g s w3 xs i wr)) (fun s9 _ => nk - (intOf s9).toNat)
  case atStart => exact ⟨0, Nat.zero_le _, rfl, HI0⟩
  case round =>
    clear HI0
    obtain ⟨i, hi, rfl, HI⟩ := hrel
    by_cases hlt : i < nk
    · obtain ⟨RA, rc, vs, i1, i2, i3, i4, i5⟩ := HI.out
      obtain ⟨Ai, ci, hvi, hri, hoi⟩ : ∃ (Ai : Option Addr) (ci : Nat), vsx[i]? = some (.slice Ai (xs.getD i []).length ci) ∧ Row w3 (· = a) Ai (xs.getD i []).length ci (octs (xs.getD i [])) ∧ Octs (xs.getD i []) := HVX.out.2 i (by omega)
      have hxs : xs[i]? = some (xs.getD i []) := by rw [List.getD_eq_getElem?_getD, List.getElem?_eq_getElem (by omega)]; rfl
      have hfit := HFIT.out (xs.getD i []) (List.mem_of_getElem? hxs)
      obtain ⟨xb, xo, hXA, hxq, hxlt, hxc⟩ := HOX.out.some_ (by omega)
      subst hXA
      have hxb1 := hxb xb rfl
      have hxl1 : xb ≠ l := by omega
      have hcell : ∀ w' : World, w'.heap[xb]? = wr.heap[xb]? → w'.cell? ⟨xb, xo + i, none⟩ = some (.slice Ai (xs.getD i []).length ci) := fun w' h => by
        rw [World.cell?_of_block (w := wr) (a := ⟨xb, xo + i, none⟩) h, World.cell?_of_block (w := w3) (a := ⟨xb, xo + i, none⟩) (i5.block xb hxlt hxl1), hxc i hlt, hvi]
      generalize hx : xs.getD i [] = x at *
      generalize hxn : x.length = n at *
      have hla : l < w3.heap.size := HB3.out.lt
      have hla2 : l ≠ a := by omega
      have hrs := hri.touch i5 (fun b hb _ => by subst hb; exact fun h => hla2 h.symm)
      have hxw : xb < wr.heap.size := Nat.lt_of_lt_of_le hxlt i5.size
      have hxv : (Value.slice RA i rc).ownBlock ≠ some xb := fun h => by have := i4 xb h; omega
      have HSS := hide (fun (w' : World) (h : Since wr w') => hcell w' (h.block xb hxw))
      have HSD := hide (fun (wC wD : World) (h : Since wr wC) (h2 : wC.grownBy wD (Value.slice RA i rc).ownBlock) => hcell wD ((h2.block xb (Nat.lt_of_lt_of_le hxw (Below.size (show Below wr.heap.size wr wC from h))) (fun e => hxv e.symm)).trans (h.block xb hxw)))
      have HSE := hide (fun (cs : Array Value) (vs' : List Value) (W : World) (h : Pushed l 64 cs (.slice RA i rc) i vs' n x wr W) => hcell W (by
        obtain ⟨RA', rc', aA, capA, p1, p2, p3, p4, p5, p6, p7, p8⟩ := h
        exact p6.block xb hxw fun h => h.elim hxl1 hxv))
      have HFIN := hide (fun (W : World) (hP : Pushed l 64 #[.pointer (some ⟨g, 0, none⟩), .int .i64 (s : Int), .int .i64 0, .slice RA i rc, .int .i64 0, .slice none 0 0] (.slice RA i rc) i vs n x wr W) => OInv.next hla hxs hoi i3 i4 i5 hP)
      have HBL := hide i1
      have HOR := hide i2
      have HX := hide (fun w' (h : Since wr w') => h.row hrs)
      have HLV := hide (show (Value.slice RA i rc).ownBlock ≠ some l from fun h => by have := i4 l h; omega)
      have HXN := hide hxn
      have HLN := hide (show n ≤ 8192 by omega)
      have HNR := hide (show i ≤ 100000 by omega)
      have z3 : ∀ w', Since wr w' → w'.cell? ⟨l, 3, none⟩ = some (.slice RA i rc) := fun w' h => ((i1.below h i1.lt).cell 3).trans rfl
      have hiI : (i : Int) < (nk : Int) := by omega
      have hiI0 : (0 : Int) ≤ (i : Int) := by omega
      clear HI i1 i2 i3 i4 i5 hvi hri hrs hxc hfit hcell HVX HOX HB3 HK3 HOPEN HF2
      go_wp2_with fail
      generalize wr = w5 at *
      refine wp_region_held_drew (S := (fun w' => w'.cell? ⟨xb, xo + i, none⟩ = some (.slice Ai n ci))) (by kernel_rfl) (HSS.out _ ((Since.refl w5).drew)) (fun hHeld => ?_)
      refine wpAnyH_taken (i := 0) (v := ?_) rfl rfl (by kernel_rfl) (by kernel_rfl) (by kernel_rfl) (fun _ _ _ h => h) (Or.inl ⟨by rfl, ?_⟩) (by assumption) ?_
      rotate_left 1
      · intro w hSw
        (try dsimp only at hSw)
        go_simp
        try with_reducible rfl
      simp only [List.setIfInBounds_toArray, List.set_cons_zero, List.set_cons_succ]
      refine wpAnyH_taken (i := 1) (v := ?_) rfl rfl (by kernel_rfl) (by kernel_rfl) (by kernel_rfl) (fun _ _ _ h => h) (Or.inl ⟨by rfl, ?_⟩) (by assumption) ?_
      rotate_left 1
      · intro w hSw
        (try dsimp only at hSw)
        go_simp
        try with_reducible rfl
      simp only [List.setIfInBounds_toArray, List.set_cons_zero, List.set_cons_succ]
      refine wpAnyH_taken (i := 2) (v := ?_) rfl rfl (by kernel_rfl) (by kernel_rfl) (by kernel_rfl) (fun _ _ _ h => h) (Or.inl ⟨by rfl, ?_⟩) (by assumption) ?_
      rotate_left 1
      · intro w hSw
        (try dsimp only at hSw)
        go_simp
        try with_reducible rfl
      simp only [List.setIfInBounds_toArray, List.set_cons_zero, List.set_cons_succ]
      refine wpAnyH_taken (i := 3) (v := ?_) rfl rfl (by kernel_rfl) (by kernel_rfl) (by kernel_rfl) (fun _ _ _ h => h) (Or.inl ⟨by rfl, ?_⟩) (by assumption) ?_
      rotate_left 1
      · intro w hSw
        (try dsimp only at hSw)
        go_simp
        try with_reducible rfl
      simp only [List.setIfInBounds_toArray, List.set_cons_zero, List.set_cons_succ]
      have hS := (Since.refl w5).drew
      generalize w5.drew = w6 at *
      refine wpAnyH_taken (i := 6) (v := ?_) rfl rfl (by kernel_rfl) (by kernel_rfl) (by kernel_rfl) (fun _ _ _ h => h) (Or.inl ⟨by rfl, ?_⟩) (by assumption) ?_
      rotate_left 1
      · intro w hSw
        (try dsimp only at hSw)
        go_simp
        try with_reducible rfl
      simp only [List.setIfInBounds_toArray, List.set_cons_zero, List.set_cons_succ]
      refine wpAnyH_taken (i := 7) (v := ?_) rfl rfl (by kernel_rfl) (by kernel_rfl) (by kernel_rfl) (fun _ _ _ h => h) (Or.inl ⟨by rfl, ?_⟩) (by assumption) ?_
      rotate_left 1
      · intro w hSw
        (try dsimp only at hSw)
        go_simp
        try with_reducible rfl
      simp only [List.setIfInBounds_toArray, List.set_cons_zero, List.set_cons_succ]
      refine wpAnyH_taken (i := 8) (v := ?_) rfl rfl (by kernel_rfl) (by kernel_rfl) (by kernel_rfl) (fun _ _ _ h => h) (Or.inl ⟨by rfl, ?_⟩) (by assumption) ?_
      rotate_left 1
      · intro w hSw
        (try dsimp only at hSw)
        go_simp
        try with_reducible rfl
      simp only [List.setIfInBounds_toArray, List.set_cons_zero, List.set_cons_succ]
      refine wpAnyH_taken (i := 9) (v := ?_) rfl rfl (by kernel_rfl) (by kernel_rfl) (by kernel_rfl) (fun _ _ _ h => h) (Or.inl ⟨by rfl, ?_⟩) (by assumption) ?_
      rotate_left 1
      · intro w hSw
        (try dsimp only at hSw)
        go_simp
        try with_reducible rfl
      simp only [List.setIfInBounds_toArray, List.set_cons_zero, List.set_cons_succ]
      refine wpAnyH_ready (rs := [4, 5]) (by kernel_rfl) (by simp) ?_
      refine AllReadyH.cons rfl (fun K hK => ?_) ?_
      · have zl := z3 w6 hS
        go_simp
        refine hK.out _ _ ?_ (fun hHeld => ?_)
        · assumption
        clear hK K zl
        refine wpAnyH_ready (rs := [5]) (by kernel_rfl) (by simp) ?_
        refine AllReadyH.cons rfl (fun K hK => ?_) AllReadyH.nil
        go_simp
        have hge : w5.heap.size ≤ w6.heap.size := Below.size (show Below w5.heap.size w5 w6 from hS)
        have hE := own_mono (World.ownsRow_lit (base := w6.heap.size) (e := 5) (size := 1) w6 #[] 0 (Nat.le_refl _) (by unfold maxLen; omega) rfl) hge
        have hS := Since.alloc hS (.cells #[] 5)
        refine hK.out _ _ ?_ (fun hHeld => ?_)
        · exact HSS.out _ hS
        clear hK K
        generalize w6.alloc (.cells #[] 5) = wB at *
        generalize w6.heap.size = ge at *
        refine wpAnyH_ready (rs := [10]) (by kernel_rfl) (by simp) ?_
        refine AllReadyH.cons rfl (fun K hK => ?_) AllReadyH.nil
        obtain ⟨aA, capA, curA, wA, hrunA, ha1, hA, ha3, ha4, ha5, ha6, hgr, hor⟩ := append_empty hE (HX.out _ hS) HLN.out (Below.size (show Below w5.heap.size w5 wB from hS)) 32
        have hS := since_grown hS hgr hge
        rw [if_pos (by rfl)]
        refine append_op _ _ _ rfl rfl rfl rfl hrunA ?_
        simp only [List.setIfInBounds_toArray, List.set_cons_zero, List.set_cons_succ]
        refine hK.out _ _ ?_ (fun hHeld => ?_)
        · exact HSS.out _ hS
        clear hK K hrunA hE hor hgr
        refine wpAnyH_ready (rs := [11]) (by kernel_rfl) (by simp) ?_
        refine AllReadyH.cons rfl (fun K hK => ?_) AllReadyH.nil
        go_simp
        have hnew := cell_one_new wA (.slice (some ⟨aA, 0, none⟩) n capA) 32
        have hsA : wA.heap.size ≠ aA := fun e => by have := hA.lt; omega
        have hA := hA.alloc (.cells #[.slice (some ⟨aA, 0, none⟩) n capA] 32)
        have hS := Since.alloc hS (.cells #[.slice (some ⟨aA, 0, none⟩) n capA] 32)
        refine hK.out _ _ ?_ (fun hHeld => ?_)
        · exact HSS.out _ hS
        clear hK K
        generalize wA.alloc (.cells #[.slice (some ⟨aA, 0, none⟩) n capA] 32) = wC at *
        generalize wA.heap.size = sA at *
        refine wpAnyH_ready (rs := [12]) (by kernel_rfl) (by simp) ?_
        refine AllReadyH.cons rfl (fun K hK => ?_) AllReadyH.nil
        obtain ⟨v2, wD, hrunD, hD1, hD2, hD3⟩ := append_rec (own_below HOR.out hS) hnew HNR.out
        obtain ⟨A2, c2, rfl⟩ := own_len8 hD1
        rw [if_pos (by rfl)]
        refine append_op _ _ _ rfl rfl rfl rfl hrunD ?_
        simp only [List.setIfInBounds_toArray, List.set_cons_zero, List.set_cons_succ]
        have hP := pushed_end HBL.out HLV.out (own_lt8 HOR.out) hS hA ha1 ha3 ha4 ha5 ha6 HXN.out hD1 hD2 hD3
        have fl := (hP.1).frozen 3
        have cl := ((hP.1).cell 3).trans rfl
        have hP := hP.2
        refine hK.out _ _ ?_ (fun hHeld => ?_)
        · exact HSD.out _ _ hS hD2
        clear hK K hrunD
        refine wpAnyH_taken (i := 13) (v := ?_) rfl rfl (by kernel_rfl) (by kernel_rfl) (by kernel_rfl) (fun _ _ _ h => h) (Or.inl ⟨by rfl, ?_⟩) (by assumption) ?_
        rotate_left 1
        · intro w hSw
          (try dsimp only at hSw)
          go_simp
          try with_reducible rfl
        simp only [List.setIfInBounds_toArray, List.set_cons_zero, List.set_cons_succ]
        refine wpAnyH_taken (i := 14) (v := ?_) rfl rfl (by kernel_rfl) (by kernel_rfl) (by kernel_rfl) (fun _ _ _ h => h) (Or.inl ⟨by rfl, ?_⟩) (by assumption) ?_
        rotate_left 1
        · intro w hSw
          (try dsimp only at hSw)
          go_simp
          try with_reducible rfl
        simp only [List.setIfInBounds_toArray, List.set_cons_zero, List.set_cons_succ]
        refine wpAnyH_ready (rs := [15]) (by kernel_rfl) (by simp) ?_
        refine AllReadyH.cons rfl (fun K hK => ?_) AllReadyH.nil
        go_simp
        refine hK.out _ _ ?_ (fun hHeld => ?_)
        · exact HSE.out _ _ _ hP
        clear hK K
        refine wpAnyH_done (by kernel_rfl) ?_ _
        go_wp2
        go_roundw
        case rel => exact ⟨i + 1, hlt, by go_num, HFIN.out _ hP⟩
        case measure => simp [intOf]; omega
      refine AllReadyH.cons rfl (fun K hK => ?_) AllReadyH.nil
      go_simp
      have hge : w5.heap.size ≤ w6.heap.size := Below.size (show Below w5.heap.size w5 w6 from hS)
      have hE := own_mono (World.ownsRow_lit (base := w6.heap.size) (e := 5) (size := 1) w6 #[] 0 (Nat.le_refl _) (by unfold maxLen; omega) rfl) hge
      have hS := Since.alloc hS (.cells #[] 5)
      refine hK.out _ _ ?_ (fun hHeld => ?_)
      · exact HSS.out _ hS
      clear hK K
      generalize w6.alloc (.cells #[] 5) = wB at *
      generalize w6.heap.size = ge at *
      refine wpAnyH_ready (rs := [4, 10]) (by kernel_rfl) (by simp) ?_
      refine AllReadyH.cons rfl (fun K hK => ?_) ?_
      · have zl := z3 wB hS
        go_simp
        refine hK.out _ _ ?_ (fun hHeld => ?_)
        · assumption
        clear hK K zl
        refine wpAnyH_ready (rs := [10]) (by kernel_rfl) (by simp) ?_
        refine AllReadyH.cons rfl (fun K hK => ?_) AllReadyH.nil
        obtain ⟨aA, capA, curA, wA, hrunA, ha1, hA, ha3, ha4, ha5, ha6, hgr, hor⟩ := append_empty hE (HX.out _ hS) HLN.out (Below.size (show Below w5.heap.size w5 wB from hS)) 32
        have hS := since_grown hS hgr hge
        rw [if_pos (by rfl)]
        refine append_op _ _ _ rfl rfl rfl rfl hrunA ?_
        simp only [List.setIfInBounds_toArray, List.set_cons_zero, List.set_cons_succ]
        refine hK.out _ _ ?_ (fun hHeld => ?_)
        · exact HSS.out _ hS
        clear hK K hrunA hE hor hgr
        refine wpAnyH_ready (rs := [11]) (by kernel_rfl) (by simp) ?_
        refine AllReadyH.cons rfl (fun K hK => ?_) AllReadyH.nil
        go_simp
        have hnew := cell_one_new wA (.slice (some ⟨aA, 0, none⟩) n capA) 32
        have hsA : wA.heap.size ≠ aA := fun e => by have := hA.lt; omega
        have hA := hA.alloc (.cells #[.slice (some ⟨aA, 0, none⟩) n capA] 32)
        have hS := Since.alloc hS (.cells #[.slice (some ⟨aA, 0, none⟩) n capA] 32)
        refine hK.out _ _ ?_ (fun hHeld => ?_)
        · exact HSS.out _ hS
        clear hK K
        generalize wA.alloc (.cells #[.slice (some ⟨aA, 0, none⟩) n capA] 32) = wC at *
        generalize wA.heap.size = sA at *
        refine wpAnyH_ready (rs := [12]) (by kernel_rfl) (by simp) ?_
        refine AllReadyH.cons rfl (fun K hK => ?_) AllReadyH.nil
        obtain ⟨v2, wD, hrunD, hD1, hD2, hD3⟩ := append_rec (own_below HOR.out hS) hnew HNR.out
        obtain ⟨A2, c2, rfl⟩ := own_len8 hD1
        rw [if_pos (by rfl)]
        refine append_op _ _ _ rfl rfl rfl rfl hrunD ?_
        simp only [List.setIfInBounds_toArray, List.set_cons_zero, List.set_cons_succ]
        have hP := pushed_end HBL.out HLV.out (own_lt8 HOR.out) hS hA ha1 ha3 ha4 ha5 ha6 HXN.out hD1 hD2 hD3
        have fl := (hP.1).frozen 3
        have cl := ((hP.1).cell 3).trans rfl
        have hP := hP.2
        refine hK.out _ _ ?_ (fun hHeld => ?_)
        · exact HSD.out _ _ hS hD2
        clear hK K hrunD
        refine wpAnyH_taken (i := 13) (v := ?_) rfl rfl (by kernel_rfl) (by kernel_rfl) (by kernel_rfl) (fun _ _ _ h => h) (Or.inl ⟨by rfl, ?_⟩) (by assumption) ?_
        rotate_left 1
        · intro w hSw
          (try dsimp only at hSw)
          go_simp
          try with_reducible rfl
        simp only [List.setIfInBounds_toArray, List.set_cons_zero, List.set_cons_succ]
        refine wpAnyH_taken (i := 14) (v := ?_) rfl rfl (by kernel_rfl) (by kernel_rfl) (by kernel_rfl) (fun _ _ _ h => h) (Or.inl ⟨by rfl, ?_⟩) (by assumption) ?_
        rotate_left 1
        · intro w hSw
          (try dsimp only at hSw)
          go_simp
          try with_reducible rfl
        simp only [List.setIfInBounds_toArray, List.set_cons_zero, List.set_cons_succ]
        refine wpAnyH_ready (rs := [15]) (by kernel_rfl) (by simp) ?_
        refine AllReadyH.cons rfl (fun K hK => ?_) AllReadyH.nil
        go_simp
        refine hK.out _ _ ?_ (fun hHeld => ?_)
        · exact HSE.out _ _ _ hP
        clear hK K
        refine wpAnyH_done (by kernel_rfl) ?_ _
        go_wp2
        go_roundw
        case rel => exact ⟨i + 1, hlt, by go_num, HFIN.out _ hP⟩
        case measure => simp [intOf]; omega
      refine AllReadyH.cons rfl (fun K hK => ?_) AllReadyH.nil
      obtain ⟨aA, capA, curA, wA, hrunA, ha1, hA, ha3, ha4, ha5, ha6, hgr, hor⟩ := append_empty hE (HX.out _ hS) HLN.out (Below.size (show Below w5.heap.size w5 wB from hS)) 32
      have hS := since_grown hS hgr hge
      rw [if_pos (by rfl)]
      refine append_op _ _ _ rfl rfl rfl rfl hrunA ?_
      simp only [List.setIfInBounds_toArray, List.set_cons_zero, List.set_cons_succ]
      refine hK.out _ _ ?_ (fun hHeld => ?_)
      · exact HSS.out _ hS
      clear hK K hrunA hE hor hgr
      refine wpAnyH_ready (rs := [4, 11]) (by kernel_rfl) (by simp) ?_
      refine AllReadyH.cons rfl (fun K hK => ?_) ?_
      · have zl := z3 wA hS
        go_simp
        refine hK.out _ _ ?_ (fun hHeld => ?_)
        · assumption
        clear hK K zl
        refine wpAnyH_ready (rs := [11]) (by kernel_rfl) (by simp) ?_
        refine AllReadyH.cons rfl (fun K hK => ?_) AllReadyH.nil
        go_simp
        have hnew := cell_one_new wA (.slice (some ⟨aA, 0, none⟩) n capA) 32
        have hsA : wA.heap.size ≠ aA := fun e => by have := hA.lt; omega
        have hA := hA.alloc (.cells #[.slice (some ⟨aA, 0, none⟩) n capA] 32)
        have hS := Since.alloc hS (.cells #[.slice (some ⟨aA, 0, none⟩) n capA] 32)
        refine hK.out _ _ ?_ (fun hHeld => ?_)
        · exact HSS.out _ hS
        clear hK K
        generalize wA.alloc (.cells #[.slice (some ⟨aA, 0, none⟩) n capA] 32) = wC at *
        generalize wA.heap.size = sA at *
        refine wpAnyH_ready (rs := [12]) (by kernel_rfl) (by simp) ?_
        refine AllReadyH.cons rfl (fun K hK => ?_) AllReadyH.nil
        obtain ⟨v2, wD, hrunD, hD1, hD2, hD3⟩ := append_rec (own_below HOR.out hS) hnew HNR.out
        obtain ⟨A2, c2, rfl⟩ := own_len8 hD1
        rw [if_pos (by rfl)]
        refine append_op _ _ _ rfl rfl rfl rfl hrunD ?_
        simp only [List.setIfInBounds_toArray, List.set_cons_zero, List.set_cons_succ]
        have hP := pushed_end HBL.out HLV.out (own_lt8 HOR.out) hS hA ha1 ha3 ha4 ha5 ha6 HXN.out hD1 hD2 hD3
        have fl := (hP.1).frozen 3
        have cl := ((hP.1).cell 3).trans rfl
        have hP := hP.2
        refine hK.out _ _ ?_ (fun hHeld => ?_)
        · exact HSD.out _ _ hS hD2
        clear hK K hrunD
        refine wpAnyH_taken (i := 13) (v := ?_) rfl rfl (by kernel_rfl) (by kernel_rfl) (by kernel_rfl) (fun _ _ _ h => h) (Or.inl ⟨by rfl, ?_⟩) (by assumption) ?_
        rotate_left 1
        · intro w hSw
          (try dsimp only at hSw)
          go_simp
          try with_reducible rfl
        simp only [List.setIfInBounds_toArray, List.set_cons_zero, List.set_cons_succ]
        refine wpAnyH_taken (i := 14) (v := ?_) rfl rfl (by kernel_rfl) (by kernel_rfl) (by kernel_rfl) (fun _ _ _ h => h) (Or.inl ⟨by rfl, ?_⟩) (by assumption) ?_
        rotate_left 1
        · intro w hSw
          (try dsimp only at hSw)
          go_simp
          try with_reducible rfl
        simp only [List.setIfInBounds_toArray, List.set_cons_zero, List.set_cons_succ]
        refine wpAnyH_ready (rs := [15]) (by kernel_rfl) (by simp) ?_
        refine AllReadyH.cons rfl (fun K hK => ?_) AllReadyH.nil
        go_simp
        refine hK.out _ _ ?_ (fun hHeld => ?_)
        · exact HSE.out _ _ _ hP
        clear hK K
        refine wpAnyH_done (by kernel_rfl) ?_ _
        go_wp2
        go_roundw
        case rel => exact ⟨i + 1, hlt, by go_num, HFIN.out _ hP⟩
        case measure => simp [intOf]; omega
      refine AllReadyH.cons rfl (fun K hK => ?_) AllReadyH.nil
      go_simp
      have hnew := cell_one_new wA (.slice (some ⟨aA, 0, none⟩) n capA) 32
      have hsA : wA.heap.size ≠ aA := fun e => by have := hA.lt; omega
      have hA := hA.alloc (.cells #[.slice (some ⟨aA, 0, none⟩) n capA] 32)
      have hS := Since.alloc hS (.cells #[.slice (some ⟨aA, 0, none⟩) n capA] 32)
      refine hK.out _ _ ?_ (fun hHeld => ?_)
      · exact HSS.out _ hS
      clear hK K
      generalize wA.alloc (.cells #[.slice (some ⟨aA, 0, none⟩) n capA] 32) = wC at *
      generalize wA.heap.size = sA at *
      refine wpAnyH_ready (rs := [4]) (by kernel_rfl) (by simp) ?_
      refine AllReadyH.cons rfl (fun K hK => ?_) AllReadyH.nil
      have zl := z3 wC hS
      go_simp
      refine hK.out _ _ ?_ (fun hHeld => ?_)
      · assumption
      clear hK K zl
      refine wpAnyH_ready (rs := [12]) (by kernel_rfl) (by simp) ?_
      refine AllReadyH.cons rfl (fun K hK => ?_) AllReadyH.nil
      obtain ⟨v2, wD, hrunD, hD1, hD2, hD3⟩ := append_rec (own_below HOR.out hS) hnew HNR.out
      obtain ⟨A2, c2, rfl⟩ := own_len8 hD1
      rw [if_pos (by rfl)]
      refine append_op _ _ _ rfl rfl rfl rfl hrunD ?_
      simp only [List.setIfInBounds_toArray, List.set_cons_zero, List.set_cons_succ]
      have hP := pushed_end HBL.out HLV.out (own_lt8 HOR.out) hS hA ha1 ha3 ha4 ha5 ha6 HXN.out hD1 hD2 hD3
      have fl := (hP.1).frozen 3
      have cl := ((hP.1).cell 3).trans rfl
      have hP := hP.2
      refine hK.out _ _ ?_ (fun hHeld => ?_)
      · exact HSD.out _ _ hS hD2
      clear hK K hrunD
      refine wpAnyH_taken (i := 13) (v := ?_) rfl rfl (by kernel_rfl) (by kernel_rfl) (by kernel_rfl) (fun _ _ _ h => h) (Or.inl ⟨by rfl, ?_⟩) (by assumption) ?_
      rotate_left 1
      · intro w hSw
        (try dsimp only at hSw)
        go_simp
        try with_reducible rfl
      simp only [List.setIfInBounds_toArray, List.set_cons_zero, List.set_cons_succ]
      refine wpAnyH_taken (i := 14) (v := ?_) rfl rfl (by kernel_rfl) (by kernel_rfl) (by kernel_rfl) (fun _ _ _ h => h) (Or.inl ⟨by rfl, ?_⟩) (by assumption) ?_
      rotate_left 1
      · intro w hSw
        (try dsimp only at hSw)
        go_simp
        try with_reducible rfl
      simp only [List.setIfInBounds_toArray, List.set_cons_zero, List.set_cons_succ]
      refine wpAnyH_ready (rs := [15]) (by kernel_rfl) (by simp) ?_
      refine AllReadyH.cons rfl (fun K hK => ?_) AllReadyH.nil
      go_simp
      refine hK.out _ _ ?_ (fun hHeld => ?_)
      · exact HSE.out _ _ _ hP
      clear hK K
      refine wpAnyH_done (by kernel_rfl) ?_ _
      go_wp2
      go_roundw
      case rel => exact ⟨i + 1, hlt, by go_num, HFIN.out _ hP⟩
      case measure => simp [intOf]; omega

    · obtain rfl : i = nk := by omega
      obtain ⟨RA, rc, vs, i1, i2, i3, i4, i5⟩ := HI.out
      have f2 := i1.frozen 2
      have v2 := (i1.cell 2).trans rfl
      have B1 := i1.store 2 (.int .i64 (at_ : Int))
      have f4 := B1.frozen 4
      have v4 := (B1.cell 4).trans rfl
      have B2 := B1.store 4 (.int .i64 (i : Int))
      have hlw3 : l < w3.heap.size := HB3.out.lt
      have kp : ∀ b, b ≠ l → ((wr.setCell ⟨l, 2, none⟩ (.int .i64 (at_ : Int))).setCell ⟨l, 4, none⟩ (.int .i64 (i : Int))).heap[b]? = wr.heap[b]? := fun b hb =>
        (Below.heap_setCell _ ⟨l, 4, none⟩ _ b hb).trans (Below.heap_setCell _ ⟨l, 2, none⟩ _ b hb)
      have hsz : ((wr.setCell ⟨l, 2, none⟩ (.int .i64 (at_ : Int))).setCell ⟨l, 4, none⟩ (.int .i64 (i : Int))).heap.size = wr.heap.size := by simp
      have T35 : Touch (· = l) w3 _ := (i5.setCell (p := ⟨l, 2, none⟩) (fun _ => rfl) (.int .i64 (at_ : Int))).setCell (p := ⟨l, 4, none⟩) (fun _ => rfl) (.int .i64 (i : Int))
      have hrs5 := i5.size
      have e1 : (⟨s, xs, i⟩ : Lm).pend = [] := by
        show allF (xs.drop i) = []
        rw [List.drop_of_length_le (by omega)]
        rfl
      have e2 : (⟨s, xs, i⟩ : Lm).at_ = at_ := by
        show (allF (xs.take i)).length = at_
        rw [List.take_of_length_le (by omega), HF2.out]
      have hlg : l ≠ g := by omega
      have hla : l ≠ a := by omega
      have K5 := (HK3.out.keep (i5.block g HK3.out.1.lt (Ne.symm hlg)) (i5.block a HK3.out.2.1.lt (Ne.symm hla))).keep (kp g (Ne.symm hlg)) (kp a (Ne.symm hla))
      have hg3 := HK3.out.1.lt
      have ha3 := HK3.out.2.1.lt
      have HR5 := hide (show RLog (fun b => b = l ∨ b = g ∨ b = a ∨ (w3.heap.size ≤ b ∧ b < wr.heap.size)) _ l g a c k ⟨s, xs, i⟩ from
        ⟨cur, RA, rc, none, 0, vs, K5, by
          rw [e1, e2]
          show Blk _ l _ #[.pointer (some ⟨g, 0, none⟩), .int .i64 (s : Int), .int .i64 (at_ : Int), .slice RA xs.length rc, .int .i64 (i : Int), .slice none 0 0]
          rw [hxl]
          exact B2, ⟨hlg, hla, .inl rfl, .inr (.inl rfl), .inr (.inr (.inl rfl)), fun b hb => by rw [hsz]; rcases hb with h | h | h | h <;> omega⟩,
          by rw [e1]; exact World.ownsRow_nil _ 0 _ 1,
          by
            show World.ownsRow _ 0 _ 1 (.slice RA xs.length rc) xs.length vs
            rw [hxl]
            exact own_keep i2 fun b hb => kp b (by have := i4 b hb; omega),
          (by rw [e1]; intro b hb; cases hb),
          by
            rw [e1]
            show ∀ b, (Value.slice RA xs.length rc).ownBlock = some b → _
            rw [hxl]
            intro b hb
            have := i4 b hb
            exact ⟨.inr (.inr (.inr this)), by omega, by omega, by omega, by simp [Value.ownBlock]⟩,
          by
            rw [e1]
            show Vals _ (fun b => _ ∧ _ ∧ _ ∧ _ ∧ _ ∧ (Value.slice RA xs.length rc).ownBlock ≠ some b) vs xs
            rw [hxl]
            rw [List.take_of_length_le (by omega)] at i3
            exact i3.turn fun {A n' c' xs'} r => (r.keep fun b h hlt => kp b (by omega)).mono fun b h => ⟨.inr (.inr (.inr ⟨h.1, h.2.1⟩)), by omega, by omega, by omega, by simp [Value.ownBlock], h.2.2⟩⟩)
      have HB5 := hide B2
      have HT5 := hide ((HT0.out.trans ((Touch.of_below HS3.out).mono (Q := fun n => n = g ∨ n = a) fun _ _ h => h.elim) fun _ _ h => h).trans T35 fun b hb h => by omega)
      have HROW5 := hide (HROW.out.keep (w' := (wr.setCell ⟨l, 2, none⟩ (.int .i64 (at_ : Int))).setCell ⟨l, 4, none⟩ (.int .i64 (i : Int))) fun b hb _ => by
        subst hb
        exact (kp b (Ne.symm hla)).trans ((i5.block b ha3 (Ne.symm hla)).trans (HS3.out.block b hl1.2)))
      have HK5 := hide K5
      clear B1 B2 i1 i2 i3 i4 i5 kp T35 K5 e1 e2 HI HVX HOX hxb hxb2
      go_wp2_with fail
      generalize (wr.setCell ⟨l, 2, none⟩ (.int .i64 (at_ : Int))).setCell ⟨l, 4, none⟩ (.int .i64 (i : Int)) = w5 at *
      generalize wr.heap.size = sz at *
      have HZ0 := hide (show (hf k s false).drop (32 * s) = zs (32 * s - 32 * s) by rw [List.drop_of_length_le (by omega), Nat.sub_self]; rfl)
      clear f2 v2 f4 v4
      go_loopw [10] (fun s10 wx => ∃ e : Nat, at_ ≤ e ∧ e ≤ 32 * s ∧ s10 = .int .i64 (e : Int) ∧ wx = w5 ∧ Hid ((hf k s false).drop e = zs (32 * s - e))) (fun s10 _ => (intOf s10).toNat)
      case atStart => exact ⟨32 * s, hat, Nat.le_refl _, by go_num, rfl, HZ0⟩
      case round =>
        clear HZ0
        obtain ⟨e, he1, he2, rfl, hwx, HZ⟩ := hrel
        subst hwx
        by_cases hgt : at_ < e
        · obtain ⟨e', he⟩ : ∃ e', e = e' + 1 := ⟨e - 1, by omega⟩
          obtain ⟨ab, ao, hAA, hab, hablt, habc⟩ := HROW5.out.some_ (by omega)
          rw [show ab = a from hab] at hAA habc
          subst hAA
          clear hab hablt
          have cy := (habc e' (by omega)).trans (octs_at (hf k s false) e' (by omega))
          have heI : (e : Int) - 1 = (e' : Int) := by omega
          have heN : (e' : Int) < 32 * (s : Int) := by omega
          have hgI : (at_ : Int) < (e : Int) := by omega
          have HEE := hide he
          have hdr : (hf k s false).drop e' = (hf k s false).getD e' 0 :: (hf k s false).drop (e' + 1) := by
            rw [List.drop_eq_getElem_cons (by omega), List.getD_eq_getElem?_getD, List.getElem?_eq_getElem (by omega)]
            rfl
          have HDR := hide hdr
          have HY := hide (show (hf k s false).getD e' 0 = (hf k s false).getD e' 0 from rfl)
          clear hdr habc
          by_cases hy : (hf k s false).getD e' 0 = 0
          · rw [hy] at cy
            have HZ2 := hide (show (hf k s false).drop e' = zs (32 * s - e') by
              rw [HDR.out, ← he, HZ.out, hy, show 32 * s - e' = 32 * s - e + 1 by omega]
              rfl)
            clear HDR HY HZ he
            go_wp2
            go_roundw
            case rel => exact ⟨e', by have := HEE.out; omega, by omega, by go_num, trivial, HZ2⟩
            case measure => have := HEE.out; simp [intOf]; omega
          · have htl := hide (show tail0 ((hf k s false).drop at_) = e - at_ from tail0_is _ _ (by rw [List.length_drop]; omega) (by
              rw [List.drop_drop, show at_ + (e - at_) = e by omega, HZ.out, List.length_drop]
              congr 1
              omega) (.inr (by
                rw [List.getD_eq_getElem?_getD, List.getElem?_drop, show at_ + (e - at_ - 1) = e' by omega, ← List.getD_eq_getElem?_getD]
                exact hy)))
            have hT : ((e - at_ : Nat) : Int) = (e : Int) - (at_ : Int) := by omega
            have htb : at_ + (e - at_) ≤ 32 * s := by omega
            generalize (hf k s false).getD e' 0 = y at *
            clear HDR HY HZ he
            generalize e - at_ = t at *
            obtain ⟨Z, hZ1, hZ2, hZ3⟩ := make_zs t (by omega)
            rw [hT] at hZ3
            have HOP := hide (show openL k s = (k.laid (32 * P) at_ (zs t), ⟨s, xs, i⟩, k.laidOk at_ (zs t)) by rw [HOPEN.out, htl.out, hxl])
            have hKF : Rk (wr.alloc (.cells Z 5)) g a c cur k := HK5.out.keep (Below.heap_alloc wr _ g HK5.out.1.lt) (Below.heap_alloc wr _ a HK5.out.2.1.lt)
            have hgw := HK5.out.1.lt
            have haw := HK5.out.2.1.lt
            have hlay := reflay_any (Q := (· = wr.heap.size)) P at_ (some ⟨wr.heap.size, 0, none⟩) t t (zs t) _ _ _ _ _ hKF HK.out hd (HB5.out.alloc (.cells Z 5)) ⟨hlg, hla⟩ (row_zs (Blk.new wr _ Z) hZ1 hZ2 (by omega)) (zs_octs _) (fun b hb _ => ⟨by omega, by omega⟩) (by rw [zs_len]; omega)
            rw [show ((32 * P : Nat) : Int) = 32 * (P : Int) by omega, hsz] at hlay
            have HLAY := hide hlay
            have HRF := hide (HR5.out.keep (w' := wr.alloc (.cells Z 5)) (by simp) (fun b hb => by
              obtain ⟨_, _, _, _, _, _, _, _, h3, _⟩ := HR5.out
              exact Below.heap_alloc wr _ b (h3.2.2.2.2.2 b hb)))
            have HTF := hide (HT5.out.alloc (.cells Z 5))
            clear hlay hKF htl hZ1 hZ2
            go_wp2_with fail
            refine HLAY.out.mono ?_
            rintro e4 w4 ⟨rfl, hk4, ht4⟩
            go_wp2
            go_ret2
            refine ⟨l, _, ?_, by rw [HOP.out]; exact HRF.out.disk ht4 hk4, HTF.out.trans ht4 (fun _ _ h => h), fun b hb => ?_⟩
            · rw [HOP.out]
              rfl
            · rcases hb with h | h | h | h
              · right; right; omega
              · exact .inl h
              · exact .inr (.inl h)
              · right; right; omega

        · have hgI : ¬ (at_ : Int) < (e : Int) := by omega
          have hzz : (hf k s false).drop at_ = zs (32 * s - at_) := by
            have h := HZ.out
            rwa [show e = at_ by omega] at h
          have htl := hide (show tail0 ((hf k s false).drop at_) = e - at_ from by rw [hzz, tail0_zs]; omega)
          have hT : ((e - at_ : Nat) : Int) = (e : Int) - (at_ : Int) := by omega
          have htb : at_ + (e - at_) ≤ 32 * s := by omega
          clear HZ hzz
          generalize e - at_ = t at *
          obtain ⟨Z, hZ1, hZ2, hZ3⟩ := make_zs t (by omega)
          rw [hT] at hZ3
          have HOP := hide (show openL k s = (k.laid (32 * P) at_ (zs t), ⟨s, xs, i⟩, k.laidOk at_ (zs t)) by rw [HOPEN.out, htl.out, hxl])
          have hKF : Rk (wr.alloc (.cells Z 5)) g a c cur k := HK5.out.keep (Below.heap_alloc wr _ g HK5.out.1.lt) (Below.heap_alloc wr _ a HK5.out.2.1.lt)
          have hgw := HK5.out.1.lt
          have haw := HK5.out.2.1.lt
          have hlay := reflay_any (Q := (· = wr.heap.size)) P at_ (some ⟨wr.heap.size, 0, none⟩) t t (zs t) _ _ _ _ _ hKF HK.out hd (HB5.out.alloc (.cells Z 5)) ⟨hlg, hla⟩ (row_zs (Blk.new wr _ Z) hZ1 hZ2 (by omega)) (zs_octs _) (fun b hb _ => ⟨by omega, by omega⟩) (by rw [zs_len]; omega)
          rw [show ((32 * P : Nat) : Int) = 32 * (P : Int) by omega, hsz] at hlay
          have HLAY := hide hlay
          have HRF := hide (HR5.out.keep (w' := wr.alloc (.cells Z 5)) (by simp) (fun b hb => by
            obtain ⟨_, _, _, _, _, _, _, _, h3, _⟩ := HR5.out
            exact Below.heap_alloc wr _ b (h3.2.2.2.2.2 b hb)))
          have HTF := hide (HT5.out.alloc (.cells Z 5))
          clear hlay hKF htl hZ1 hZ2
          go_wp2_with fail
          refine HLAY.out.mono ?_
          rintro e4 w4 ⟨rfl, hk4, ht4⟩
          go_wp2
          go_ret2
          refine ⟨l, _, ?_, by rw [HOP.out]; exact HRF.out.disk ht4 hk4, HTF.out.trans ht4 (fun _ _ h => h), fun b hb => ?_⟩
          · rw [HOP.out]
            rfl
          · rcases hb with h | h | h | h
            · right; right; omega
            · exact .inl h
            · exact .inr (.inl h)
            · right; right; omega


end Go.Proofs.Ythoedknnchaiaaa

/-
  The reference's log: New.
-/
namespace Go.Proofs.Ythoedknnchaiaaa
open Go.RowKit
set_option linter.unusedVariables false

/-- What New leaves: a log of n sectors a half, all 0. -/
def RNew (n : Nat) (w w' : World) (e : Ending) : Prop :=
  ∃ (l g a c : Nat) (R' : Nat → Prop), e = .returned (.pointer (some ⟨l, 0, none⟩)) ∧ RLog R' w' l g a c (Dk.fresh (2 * n + 1)) ⟨n, [], 0⟩ ∧ Below w.heap.size w w' ∧ ∀ b, R' b → w.heap.size ≤ b

set_option maxHeartbeats 1000000 in
set_option maxRecDepth 100000 in
theorem refnew_any (n : Nat) (w : World) (hn : n ≤ 127) : Calls Try.prog 10 #[.int .i64 (n : Int)] w fun e w' => RNew n w w' e := by
  obtain ⟨Z, hZ1, hZ2, hZ3⟩ := make_zs (32 * (2 * n + 1)) (by omega)
  rw [show ((32 * (2 * n + 1) : Nat) : Int) = 32 * (2 * (n : Int) + 1) by omega] at hZ3
  have HB1 := hide (Blk.new w 5 Z)
  have s1 : (w.alloc (.cells Z 5)).heap.size = w.heap.size + 1 := by simp
  obtain ⟨w1, hw1⟩ : ∃ w1, w1 = w.alloc (.cells Z 5) := ⟨_, rfl⟩
  rw [← hw1] at HB1 s1
  have b2 := Blk.new w1 62 #[.slice (some ⟨w.heap.size, 0, none⟩) (32 * (2 * n + 1)) (32 * (2 * n + 1)), .int .i64 (-1), .bool false, .int .i64 0]
  have a2 := HB1.out.alloc (.cells #[.slice (some ⟨w.heap.size, 0, none⟩) (32 * (2 * n + 1)) (32 * (2 * n + 1)), .int .i64 (-1), .bool false, .int .i64 0] 62)
  have s2 : (w1.alloc (.cells #[.slice (some ⟨w.heap.size, 0, none⟩) (32 * (2 * n + 1)) (32 * (2 * n + 1)), .int .i64 (-1), .bool false, .int .i64 0] 62)).heap.size = w1.heap.size + 1 := by simp
  have t1 := (Touch.refl (fun _ => False) w).alloc (.cells Z 5)
  rw [← hw1] at t1
  have t2 := t1.alloc (.cells #[.slice (some ⟨w.heap.size, 0, none⟩) (32 * (2 * n + 1)) (32 * (2 * n + 1)), .int .i64 (-1), .bool false, .int .i64 0] 62)
  obtain ⟨w2, hw2⟩ : ∃ w2, w2 = w1.alloc (.cells #[.slice (some ⟨w.heap.size, 0, none⟩) (32 * (2 * n + 1)) (32 * (2 * n + 1)), .int .i64 (-1), .bool false, .int .i64 0] 62) := ⟨_, rfl⟩
  rw [← hw2] at b2 a2 s2 t2
  have b3 := Blk.new w2 64 #[.pointer (some ⟨w1.heap.size, 0, none⟩), .int .i64 (n : Int), .int .i64 0, .slice none 0 0, .int .i64 0, .slice none 0 0]
  have d3 := b2.alloc (.cells #[.pointer (some ⟨w1.heap.size, 0, none⟩), .int .i64 (n : Int), .int .i64 0, .slice none 0 0, .int .i64 0, .slice none 0 0] 64)
  have a3 := a2.alloc (.cells #[.pointer (some ⟨w1.heap.size, 0, none⟩), .int .i64 (n : Int), .int .i64 0, .slice none 0 0, .int .i64 0, .slice none 0 0] 64)
  have s3 : (w2.alloc (.cells #[.pointer (some ⟨w1.heap.size, 0, none⟩), .int .i64 (n : Int), .int .i64 0, .slice none 0 0, .int .i64 0, .slice none 0 0] 64)).heap.size = w2.heap.size + 1 := by simp
  have t3 := t2.alloc (.cells #[.pointer (some ⟨w1.heap.size, 0, none⟩), .int .i64 (n : Int), .int .i64 0, .slice none 0 0, .int .i64 0, .slice none 0 0] 64)
  have hlen : (Dk.fresh (2 * n + 1)).b.length = 32 * (2 * n + 1) := List.length_replicate
  have hrk : Rk (w2.alloc (.cells #[.pointer (some ⟨w1.heap.size, 0, none⟩), .int .i64 (n : Int), .int .i64 0, .slice none 0 0, .int .i64 0, .slice none 0 0] 64)) w1.heap.size w.heap.size (32 * (2 * n + 1)) Z (Dk.fresh (2 * n + 1)) := by
    refine ⟨?_, a3, by omega, by omega, by omega, hZ1, ?_⟩
    · rw [hlen]
      exact d3
    · rw [hlen, List.take_of_length_le (by rw [hZ2, octs_len, zs_len]; exact Nat.le_refl _), hZ2]
      rfl
  have HFIN := hide (show RNew n w _ (.returned (.pointer (some ⟨w2.heap.size, 0, none⟩))) from
    ⟨w2.heap.size, w1.heap.size, w.heap.size, 32 * (2 * n + 1), fun b => w.heap.size ≤ b ∧ b ≤ w2.heap.size, rfl,
      ⟨Z, none, 0, none, 0, [], hrk, b3, ⟨by omega, by omega, by omega, by omega, by omega, fun b hb => by omega⟩, World.ownsRow_nil _ 0 _ 1, World.ownsRow_nil _ 0 _ 1, (fun b hb => by cases hb), (fun b hb => by cases hb), Vals.nil _ _⟩,
      t3.below (Nat.le_refl _) (fun _ _ h => h), fun b hb => hb.1⟩)
  rw [s2, s1] at HFIN
  clear b2 a2 b3 d3 a3 hrk t1 t2 t3 s1 s2 s3 hZ1 hZ2 HB1 hlen
  subst hw2
  subst hw1
  go_enter Try.func10, Try.ntmps10
  go_wp2
  go_ret
  exact HFIN.out
end Go.Proofs.Ythoedknnchaiaaa
