/-
  A script, done by the disk and by octets.
-/
import Derived.Test.YtcdllbjhcjpleaaDiskStep
import Derived.Test.YtcdllbjhcjpleaaAppE
import Derived.Deep.DeepCutAuto
import Derived.Deep.Cut
import Derived.Deep.CutRange
namespace Go.Proofs.Ytcdllbjhcjpleaa
open Go.RowKit
set_option linter.unusedVariables false

/-- Only blocks of P, and these two, and new ones turned. -/
def Trod (P : Nat → Prop) (g a : Nat) (w w' : World) : Prop := Touch (fun n => P n ∨ n = g ∨ n = a) w w'
def Dk.run (k : Dk) (l : List DOp) : Dk := l.foldl Dk.step k
theorem trod_since {P : Nat → Prop} {g a : Nat} {w w1 w2 : World} (h : Trod P g a w w1) (hb : Since w1 w2) : Trod P g a w w2 :=
  ⟨hb.os.trans h.os, hb.tape.trans h.tape, hb.output.trans h.output, Nat.le_trans h.size hb.size, fun n hn hp => (hb.block n (Nat.lt_of_lt_of_le hn h.size)).trans (h.block n hn hp)⟩
/-- Both are as k says. -/
def Told (P : Nat → Prop) (d g a c : Nat) (cur : Array Value) (k : Dk) (w : World) : Prop := Dsk w P d k ∧ Bk w g a c cur k
theorem Told.later {P : Nat → Prop} {d g a c : Nat} {cur : Array Value} {k : Dk} {w w' : World} (h : Told P d g a c cur k w) (hb : Below w.heap.size w w') : Told P d g a c cur k w' :=
  ⟨dsk_keep h.1 fun b _ hb' => hb.block b hb', h.2.keep (hb.block g h.2.1.lt) (hb.block a h.2.2.1.lt)⟩
theorem Told.c0 {P : Nat → Prop} {d g a c : Nat} {cur : Array Value} {k : Dk} {w : World} (h : Hid (Told P d g a c cur k w)) : w.cell? ⟨g, 0, none⟩ = some (.slice (some ⟨a, 0, none⟩) k.b.length c) := (h.out.2.1.cell 0).trans rfl
theorem Told.c2 {P : Nat → Prop} {d g a c : Nat} {cur : Array Value} {k : Dk} {w : World} (h : Hid (Told P d g a c cur k w)) : w.cell? ⟨g, 2, none⟩ = some (.bool k.dead) := (h.out.2.1.cell 2).trans rfl
theorem Told.c3 {P : Nat → Prop} {d g a c : Nat} {cur : Array Value} {k : Dk} {w : World} (h : Hid (Told P d g a c cur k w)) : w.cell? ⟨g, 3, none⟩ = some (.int .i64 k.written) := (h.out.2.1.cell 3).trans rfl
theorem Told.conv {P : Nat → Prop} {d g a c : Nat} {cur : Array Value} {k : Dk} {w : World} (h : Hid (Told P d g a c cur k w)) : (convert 33 9 (.slice (some ⟨a, 0, none⟩) k.b.length c)).run Try.prog w = .ok (.string (strOfNums k.b)) w := conv_row h.out.2.row
theorem run_snoc (k : Dk) (l : List DOp) (i : Nat) (h : i < l.length) : k.run (l.take (i + 1)) = (k.run (l.take i)).step (l[i]'h) := by
  unfold Dk.run
  rw [List.take_add_one, List.getElem?_eq_getElem h, Option.toList_some, List.foldl_append]
  rfl
theorem ok_run {k : Dk} {m : Nat} (h : k.ok m) {w : World} {Q : Nat → Prop} : ∀ (l : List DOp), (∀ o ∈ l, o.at w Q) → (k.run l).ok m := by
  intro l
  induction l generalizing k with
  | nil => intro _; exact h
  | cons o l ih => intro hl; exact ih (Dk.ok_step h (hl o List.mem_cons_self)) fun x hx => hl x (List.mem_cons_of_mem _ hx)

set_option maxHeartbeats 4000000 in
set_option maxRecDepth 10000 in
theorem brun_any {P Q : Nat → Prop} {d g a c m : Nat} {cur : Array Value} {k : Dk} (A : Option Addr) (n cl : Nat) (l : List DOp) (w : World) (hB : Bk w g a c cur k) (hD : Dsk w P d k) (hk : k.ok m) (hl : DOps w Q A n cl l) (hg : ¬ P g) (ha : ¬ P a) (hq : ∀ b, Q b → b < w.heap.size → ¬ P b ∧ b ≠ g ∧ b ≠ a) :
    Calls Try.prog 9 #[.pointer (some ⟨g, 0, none⟩), .pointer (some ⟨d, 0, none⟩), .slice A n cl] w fun e w' => Both P d g a c (k.run l) w w' e := by
  have hln := hl.len
  have hgl := hB.1.lt
  have hal := hB.2.1.lt
  have HLT := hide (dsk_lt hD)
  have HL := hide hl
  have HQ := hide hq
  have HG := hide hg
  have HA := hide ha
  have HK := hide hk
  have hinit := hide (show ∃ P' cur', Told P' d g a c cur' (k.run (l.take 0)) w ∧ (∀ n, P' n → P n ∨ w.heap.size ≤ n) from ⟨P, cur, ⟨hD, hB⟩, fun n hn => .inl hn⟩)
  have HC := hide hl.1.2.2.1
  have hnc := hl.1.2.1
  clear hl hq hg ha hk hB hD
  go_enter Try.func9, Try.ntmps9
  go_wp2
  go_loopw [7] (fun s7 wr => ∃ i : Nat, i ≤ n ∧ s7 = .int .i64 i ∧ Hid (∃ P' cur', Told P' d g a c cur' (k.run (l.take i)) wr ∧ (∀ n, P' n → P n ∨ w.heap.size ≤ n)) ∧ Hid (Touch (fun n => P n ∨ n = g ∨ n = a) w wr)) (fun s7 _ => n - (intOf s7).toNat)
  case atStart => exact ⟨0, Nat.zero_le _, rfl, hinit, hide (Touch.refl _ _)⟩
  case round =>
    obtain ⟨i, hi, rfl, htd, htk⟩ := hrel
    by_cases hlt : i < n
    · obtain ⟨P', cur', htold, hP'⟩ := htd.out
      have hil : i < l.length := by omega
      have HS := hide (run_snoc k l i hil)
      have hoa := DOp.within (HL.out.2 (l[i]'hil) (List.getElem_mem hil))
      have hPg : ∀ n, n < w.heap.size → ¬ P n → ¬ P' n := fun n hn hp h => (hP' n h).elim hp fun h => by omega
      have hoa1 : (l[i]'hil).at wr.drew (fun b => Q b ∧ b < w.heap.size) := DOp.keep hoa fun b hb hlt => htk.out.block b hlt fun h => h.elim (HQ.out b hb.1 hb.2).1 fun h => h.elim (HQ.out b hb.1 hb.2).2.1 (HQ.out b hb.1 hb.2).2.2
      have hok := ok_run HK.out (l.take i) (w := w) (Q := Q) fun o ho => HL.out.2 o (List.mem_of_mem_take ho)
      have hok2 := Dk.ok_step hok hoa
      have hst := bstep_any (Q := fun b => Q b ∧ b < w.heap.size) (l[i]'hil) wr.drew (show Bk wr.drew g a c cur' (k.run (l.take i)) from htold.2) (dsk_keep htold.1 fun _ _ _ => rfl) hok hoa1 (hPg g hgl HG.out) (hPg a hal HA.out) (fun b hb _ => ⟨hPg b hb.2 (HQ.out b hb.1 hb.2).1, (HQ.out b hb.1 hb.2).2⟩)
      rw [← HS.out] at hst hok2
      obtain ⟨b, o, rfl, hbQ, hbl, hcl⟩ := HL.out.1.some_ (by decide) (show 0 < n by omega)
      have hcell : ∀ j, j < 4 → ∀ w', Trod P' g a wr w' → w'.cell? ⟨b, o + (i * 4 + j), none⟩ = (l[i]'hil).cells[j]? := fun j hj w' hw => by
        have h1 := hcl (i * 4 + j) (by omega)
        rw [dops, flat_get _ 4 (fun _ => rfl) l i j hj, List.getElem?_eq_getElem hil] at h1
        have hb1 := HQ.out b hbQ hbl
        rw [World.cell?_of_block (a := ⟨b, o + (i * 4 + j), none⟩) ((hw.block b (Nat.lt_of_lt_of_le hbl htk.out.size) fun h => h.elim (hPg b hbl hb1.1) fun h => h.elim hb1.2.1 hb1.2.2).trans (htk.out.block b hbl fun h => h.elim hb1.1 fun h => h.elim hb1.2.1 hb1.2.2)), h1]
        rfl
      generalize l[i]'hil = xop at *
      obtain ⟨kind, ii, num, xA, xm, xc, xb⟩ := xop
      have l0 : ∀ w', Trod P' g a wr w' → w'.cell? ⟨b, o + i * 4, none⟩ = some (.int .i64 kind) := hcell 0 (by decide)
      have l1 : ∀ w', Trod P' g a wr w' → w'.cell? ⟨b, o + i * 4 + 1, none⟩ = some (.int .i64 ii) := fun w' h => by rw [Nat.add_assoc]; exact hcell 1 (by decide) w' h
      have l2 : ∀ w', Trod P' g a wr w' → w'.cell? ⟨b, o + i * 4 + 2, none⟩ = some (.int .i64 num) := fun w' h => by rw [Nat.add_assoc]; exact hcell 2 (by decide) w' h
      have l3 : ∀ w', Trod P' g a wr w' → w'.cell? ⟨b, o + i * 4 + 3, none⟩ = some (.slice xA xm xc) := fun w' h => by rw [Nat.add_assoc]; exact hcell 3 (by decide) w' h
      generalize hk2 : k.run (l.take (i + 1)) = k2 at *
      have HK2 := hide hk2
      clear hk2
      have hib : (i : Int) + 1 ≤ 9223372036854775807 := by have := HC.out; omega
      have PS := hide (hst.mono fun e w5 (h : Both P' d g a c k2 wr.drew w5 e) =>
        show e = .returned (.bool true) ∧ Trod P' g a wr w5 ∧ ∃ P2 cur2, Hid (Told P2 d g a c cur2 k2 w5) ∧ Hid (∀ n, P2 n → P n ∨ w.heap.size ≤ n) from by
          obtain ⟨he, P2, cur2, h1, h2, h3, h4⟩ := h
          exact ⟨he, ⟨h4.os, h4.tape, h4.output, h4.size, h4.block⟩, P2, cur2, ⟨h1, h3⟩, fun n hn => (h2 n hn).elim (hP' n) fun h => .inr (Nat.le_trans htk.out.size h)⟩)
      have HOK := hide hok2
      have next : ∀ (P2 : Nat → Prop) (cur2 : Array Value) (w' w2 : World), Hid (Told P2 d g a c cur2 k2 w') → Trod P' g a wr w' → Below w'.heap.size w' w2 → Trod P' g a wr w2 ∧ Hid (Told P2 d g a c cur2 k2 w2) := fun P2 cur2 w' w2 h ht hb =>
        ⟨⟨hb.os.trans ht.os, hb.tape.trans ht.tape, hb.output.trans ht.output, Nat.le_trans ht.size hb.size, fun n hn hp => (hb.block n (Nat.lt_of_lt_of_le hn ht.size)).trans (ht.block n hn hp)⟩, Told.later h.out hb⟩
      have PD := hide (fun (P2 : Nat → Prop) (cur2 : Array Value) (w' : World) (h : Hid (Told P2 d g a c cur2 k2 w')) (ht : Trod P' g a wr w') => (ddead_any w' h.out.1 HOK.out).mono fun e w2 hh => And.intro hh.1 (And.intro hh.2 trivial))
      have PW := hide (fun (P2 : Nat → Prop) (cur2 : Array Value) (w' : World) (h : Hid (Told P2 d g a c cur2 k2 w')) (ht : Trod P' g a wr w') => (dwritten_any w' h.out.1 HOK.out).mono fun e w2 hh => And.intro hh.1 (And.intro hh.2 trivial))
      have PA := hide (fun (P2 : Nat → Prop) (cur2 : Array Value) (w' : World) (h : Hid (Told P2 d g a c cur2 k2 w')) (ht : Trod P' g a wr w') => (dall_any w' h.out.1 HOK.out).mono fun e w2 (hh : Fresh w' k2.b w2 e) =>
        show ∃ A9 c9, e = .returned (.slice A9 k2.b.length c9) ∧ (∀ w3, Since w2 w3 → (convert 33 9 (.slice A9 k2.b.length c9)).run Try.prog w3 = .ok (.string (strOfNums k2.b)) w3) ∧ Below w'.heap.size w' w2 ∧ True from by
          obtain ⟨A9, c9, he, hown, hb⟩ := hh
          exact ⟨A9, c9, he, fun w3 h3 => conv_row (h3.row (Row.of_own hown)), hb, trivial⟩)
      have hr0 : Trod P' g a wr wr.drew := (Touch.refl (fun n => P' n ∨ n = g ∨ n = a) wr).drew
      have HFIN := hide (fun (w5 : World) (P2 : Nat → Prop) (cur2 : Array Value) (h : Hid (Told P2 d g a c cur2 k2 w5)) (h2 : Hid (∀ n, P2 n → P n ∨ w.heap.size ≤ n)) (ht : Trod P' g a wr w5) =>
        show Hid (∃ P' cur', Told P' d g a c cur' k2 w5 ∧ (∀ n, P' n → P n ∨ w.heap.size ≤ n)) ∧ Hid (Touch (fun n => P n ∨ n = g ∨ n = a) w w5) from
        ⟨⟨P2, cur2, h.out, h2.out⟩, htk.out.trans (ht.mono fun n hn h => h) fun n hn h => h.imp (fun h => (hP' n h).elim id fun h => by omega) id⟩)
      clear hst hok hok2 next hoa hoa1 hcl hcell htold hP' hPg htd HS hbQ hbl
      have hi4 : i < n := hlt
      go_upto_region 4 with fail
      go_cut [50] (fun s50 wx => s50 = .bool false ∧ ∃ P2 cur2, Hid (Told P2 d g a c cur2 k2 wx) ∧ Hid (∀ n, P2 n → P n ∨ w.heap.size ≤ n) ∧ Trod P' g a wr wx)
      case first =>
        refine wp_region_held_drew (S := (fun w' => Trod P' g a wr w')) (by kernel_rfl) hr0 (fun hHeld => ?_)
        refine wpAnyH_taken (i := 0) (v := ?_) rfl rfl (by kernel_rfl) (by kernel_rfl) (by kernel_rfl) (fun _ _ _ h => h) (Or.inl ⟨by rfl, ?_⟩) (by assumption) ?_
        rotate_left 1
        · intro w hSw
          (try dsimp only at hSw)
          go_simp
          try with_reducible rfl
        simp only [List.setIfInBounds_toArray, List.set_cons_zero, List.set_cons_succ]
        refine wpAnyH_taken (i := 1) (v := ?_) rfl rfl (by kernel_rfl) (by kernel_rfl) (by kernel_rfl) (fun _ _ _ h => h) (Or.inl ⟨by rfl, ?_⟩) (by assumption) ?_
        rotate_left 1
        · intro w hSw
          (try dsimp only at hSw)
          go_simp
          try with_reducible rfl
        simp only [List.setIfInBounds_toArray, List.set_cons_zero, List.set_cons_succ]
        refine wpAnyH_taken (i := 2) (v := ?_) rfl rfl (by kernel_rfl) (by kernel_rfl) (by kernel_rfl) (fun _ _ _ h => h) (Or.inl ⟨by rfl, ?_⟩) (by assumption) ?_
        rotate_left 1
        · intro w hSw
          (try dsimp only at hSw)
          go_simp
          try with_reducible rfl
        simp only [List.setIfInBounds_toArray, List.set_cons_zero, List.set_cons_succ]
        refine wpAnyH_taken (i := 3) (v := ?_) rfl rfl (by kernel_rfl) (by kernel_rfl) (by kernel_rfl) (fun _ _ _ h => h) (Or.inl ⟨by rfl, ?_⟩) (by assumption) ?_
        rotate_left 1
        · intro w hSw
          (try dsimp only at hSw)
          go_simp
          try with_reducible rfl
        simp only [List.setIfInBounds_toArray, List.set_cons_zero, List.set_cons_succ]
        refine wpAnyH_taken (i := 4) (v := ?_) rfl rfl (by kernel_rfl) (by kernel_rfl) (by kernel_rfl) (fun _ _ _ h => h) (Or.inl ⟨by rfl, ?_⟩) (by assumption) ?_
        rotate_left 1
        · intro w hSw
          (try dsimp only at hSw)
          go_simp
          try with_reducible rfl
        simp only [List.setIfInBounds_toArray, List.set_cons_zero, List.set_cons_succ]
        refine wpAnyH_taken (i := 5) (v := ?_) rfl rfl (by kernel_rfl) (by kernel_rfl) (by kernel_rfl) (fun _ _ _ h => h) (Or.inl ⟨by rfl, ?_⟩) (by assumption) ?_
        rotate_left 1
        · intro w hSw
          (try dsimp only at hSw)
          go_simp
          try with_reducible rfl
        simp only [List.setIfInBounds_toArray, List.set_cons_zero, List.set_cons_succ]
        refine wpAnyH_ready (rs := [6]) (by kernel_rfl) (by simp) ?_
        refine AllReadyH.cons rfl (fun K hK => ?_) AllReadyH.nil
        go_simp
        go_wp2_with (first | (go_at_call 21; refine PS.out.mono ?_; rintro e w5 ⟨rfl, hs5, P2, cur2, ht5, hp5⟩))
        refine hK.out _ _ ?_ (fun hHeld => ?_)
        · exact hs5
        clear hK K
        have y0 : ∀ w', Since w5 w' → w'.cell? ⟨g, 0, none⟩ = some (.slice (some ⟨a, 0, none⟩) k2.b.length c) := fun w' h => Told.c0 (Told.later ht5.out h)
        have y2 : ∀ w', Since w5 w' → w'.cell? ⟨g, 2, none⟩ = some (.bool k2.dead) := fun w' h => Told.c2 (Told.later ht5.out h)
        have y3 : ∀ w', Since w5 w' → w'.cell? ⟨g, 3, none⟩ = some (.int .i64 k2.written) := fun w' h => Told.c3 (Told.later ht5.out h)
        have yc : ∀ w', Since w5 w' → (convert 33 9 (.slice (some ⟨a, 0, none⟩) k2.b.length c)).run Try.prog w' = .ok (.string (strOfNums k2.b)) w' := fun w' h => Told.conv (Told.later ht5.out h)
        have HS5 := hide (fun w' (h : Since w5 w') => trod_since hs5 h)
        clear hHeld
        refine wpAnyH_less (S2 := (fun w' => Since w5 w')) (fun w' h => HS5.out w' h) _ _ _ _ ?_
        have hHeld := Since.refl w5
        refine wpAnyH_taken (i := 7) (v := ?_) rfl rfl (by kernel_rfl) (by kernel_rfl) (by kernel_rfl) (fun _ _ _ h => h) (Or.inl ⟨by rfl, ?_⟩) (by assumption) ?_
        rotate_left 1
        · intro w hSw
          (try dsimp only at hSw)
          go_simp
          try with_reducible rfl
        simp only [List.setIfInBounds_toArray, List.set_cons_zero, List.set_cons_succ]
        refine wpAnyH_taken (i := 8) (v := ?_) rfl rfl (by kernel_rfl) (by kernel_rfl) (by kernel_rfl) (fun _ _ _ h => h) (Or.inl ⟨by rfl, ?_⟩) (by assumption) ?_
        rotate_left 1
        · intro w hSw
          (try dsimp only at hSw)
          go_simp
          try with_reducible rfl
        simp only [List.setIfInBounds_toArray, List.set_cons_zero, List.set_cons_succ]
        refine wpAnyH_taken (i := 9) (v := ?_) rfl rfl (by kernel_rfl) (by kernel_rfl) (by kernel_rfl) (fun _ _ _ h => h) (Or.inl ⟨by rfl, ?_⟩) (by assumption) ?_
        rotate_left 1
        · intro w hSw
          (try dsimp only at hSw)
          go_simp
          try with_reducible rfl
        simp only [List.setIfInBounds_toArray, List.set_cons_zero, List.set_cons_succ]
        refine wpAnyH_taken (i := 11) (v := ?_) rfl rfl (by kernel_rfl) (by kernel_rfl) (by kernel_rfl) (fun _ _ _ h => h) (Or.inl ⟨by rfl, ?_⟩) (by assumption) ?_
        rotate_left 1
        · intro w hSw
          (try dsimp only at hSw)
          go_simp
          try with_reducible rfl
        simp only [List.setIfInBounds_toArray, List.set_cons_zero, List.set_cons_succ]
        refine wpAnyH_taken (i := 12) (v := ?_) rfl rfl (by kernel_rfl) (by kernel_rfl) (by kernel_rfl) (fun _ _ _ h => h) (Or.inl ⟨by rfl, ?_⟩) (by assumption) ?_
        rotate_left 1
        · intro w hSw
          (try dsimp only at hSw)
          go_simp
          try with_reducible rfl
        simp only [List.setIfInBounds_toArray, List.set_cons_zero, List.set_cons_succ]
        refine wpAnyH_taken (i := 13) (v := ?_) rfl rfl (by kernel_rfl) (by kernel_rfl) (by kernel_rfl) (fun _ _ _ h => h) (Or.inl ⟨by rfl, ?_⟩) (by assumption) ?_
        rotate_left 1
        · intro w hSw
          (try dsimp only at hSw)
          go_simp
          try with_reducible rfl
        simp only [List.setIfInBounds_toArray, List.set_cons_zero, List.set_cons_succ]
        refine wpAnyH_taken (i := 14) (v := ?_) rfl rfl (by kernel_rfl) (by kernel_rfl) (by kernel_rfl) (fun _ _ _ h => h) (Or.inl ⟨by rfl, ?_⟩) (by assumption) ?_
        rotate_left 1
        · intro w hSw
          (try dsimp only at hSw)
          go_simp
          try with_reducible rfl
        simp only [List.setIfInBounds_toArray, List.set_cons_zero, List.set_cons_succ]
        refine wpAnyH_ready (rs := [10]) (by kernel_rfl) (by simp) ?_
        refine AllReadyH.cons rfl (fun K hK => ?_) AllReadyH.nil
        go_simp
        go_wp2_with (first | (go_at_call 19; refine (PD.out _ _ _ (Told.later ht5.out (by assumption)) (HS5.out _ (by assumption))).mono ?_; rintro e w6 ⟨rfl, hs6, -⟩))
        refine hK.out _ _ ?_ (fun hHeld => ?_)
        · exact Since.next (by assumption) hs6
        clear hK K
        refine wpAnyH_taken (i := 15) (v := ?_) rfl rfl (by kernel_rfl) (by kernel_rfl) (by kernel_rfl) (fun _ _ _ h => h) (Or.inl ⟨by rfl, ?_⟩) (by assumption) ?_
        rotate_left 1
        · intro w hSw
          (try dsimp only at hSw)
          go_simp
          try with_reducible rfl
        simp only [List.setIfInBounds_toArray, List.set_cons_zero, List.set_cons_succ]
        refine wpAnyH_taken (i := 16) (v := ?_) rfl rfl (by kernel_rfl) (by kernel_rfl) (by kernel_rfl) (fun _ _ _ h => h) (Or.inl ⟨by rfl, ?_⟩) (by assumption) ?_
        rotate_left 1
        · intro w hSw
          (try dsimp only at hSw)
          go_simp
          try with_reducible rfl
        simp only [List.setIfInBounds_toArray, List.set_cons_zero, List.set_cons_succ]
        refine wpAnyH_taken (i := 17) (v := ?_) rfl rfl (by kernel_rfl) (by kernel_rfl) (by kernel_rfl) (fun _ _ _ h => h) (Or.inl ⟨by rfl, ?_⟩) (by assumption) ?_
        rotate_left 1
        · intro w hSw
          (try dsimp only at hSw)
          go_simp
          try with_reducible rfl
        simp only [List.setIfInBounds_toArray, List.set_cons_zero, List.set_cons_succ]
        refine wpAnyH_taken (i := 18) (v := ?_) rfl rfl (by kernel_rfl) (by kernel_rfl) (by kernel_rfl) (fun _ _ _ h => h) (Or.inl ⟨by rfl, ?_⟩) (by assumption) ?_
        rotate_left 1
        · intro w hSw
          (try dsimp only at hSw)
          go_simp
          try with_reducible rfl
        simp only [List.setIfInBounds_toArray, List.set_cons_zero, List.set_cons_succ]
        refine wpAnyH_taken (i := 20) (v := ?_) rfl rfl (by kernel_rfl) (by kernel_rfl) (by kernel_rfl) (fun _ _ _ h => h) (Or.inl ⟨by rfl, ?_⟩) (by assumption) ?_
        rotate_left 1
        · intro w hSw
          (try dsimp only at hSw)
          go_simp
          try with_reducible rfl
        simp only [List.setIfInBounds_toArray, List.set_cons_zero, List.set_cons_succ]
        refine wpAnyH_taken (i := 21) (v := ?_) rfl rfl (by kernel_rfl) (by kernel_rfl) (by kernel_rfl) (fun _ _ _ h => h) (Or.inl ⟨by rfl, ?_⟩) (by assumption) ?_
        rotate_left 1
        · intro w hSw
          (try dsimp only at hSw)
          go_simp
          try with_reducible rfl
        simp only [List.setIfInBounds_toArray, List.set_cons_zero, List.set_cons_succ]
        refine wpAnyH_taken (i := 22) (v := ?_) rfl rfl (by kernel_rfl) (by kernel_rfl) (by kernel_rfl) (fun _ _ _ h => h) (Or.inl ⟨by rfl, ?_⟩) (by assumption) ?_
        rotate_left 1
        · intro w hSw
          (try dsimp only at hSw)
          go_simp
          try with_reducible rfl
        simp only [List.setIfInBounds_toArray, List.set_cons_zero, List.set_cons_succ]
        refine wpAnyH_taken (i := 23) (v := ?_) rfl rfl (by kernel_rfl) (by kernel_rfl) (by kernel_rfl) (fun _ _ _ h => h) (Or.inl ⟨by rfl, ?_⟩) (by assumption) ?_
        rotate_left 1
        · intro w hSw
          (try dsimp only at hSw)
          go_simp
          try with_reducible rfl
        simp only [List.setIfInBounds_toArray, List.set_cons_zero, List.set_cons_succ]
        refine wpAnyH_ready (rs := [19]) (by kernel_rfl) (by simp) ?_
        refine AllReadyH.cons rfl (fun K hK => ?_) AllReadyH.nil
        go_simp
        go_wp2_with (first | (go_at_call 20; refine (PW.out _ _ _ (Told.later ht5.out (by assumption)) (HS5.out _ (by assumption))).mono ?_; rintro e w7 ⟨rfl, hs7, -⟩))
        refine hK.out _ _ ?_ (fun hHeld => ?_)
        · exact Since.next (by assumption) hs7
        clear hK K
        refine wpAnyH_taken (i := 24) (v := ?_) rfl rfl (by kernel_rfl) (by kernel_rfl) (by kernel_rfl) (fun _ _ _ h => h) (Or.inl ⟨by rfl, ?_⟩) (by assumption) ?_
        rotate_left 1
        · intro w hSw
          (try dsimp only at hSw)
          go_simp
          try with_reducible rfl
        simp only [List.setIfInBounds_toArray, List.set_cons_zero, List.set_cons_succ]
        refine wpAnyH_taken (i := 25) (v := ?_) rfl rfl (by kernel_rfl) (by kernel_rfl) (by kernel_rfl) (fun _ _ _ h => h) (Or.inl ⟨by rfl, ?_⟩) (by assumption) ?_
        rotate_left 1
        · intro w hSw
          (try dsimp only at hSw)
          go_simp
          try with_reducible rfl
        simp only [List.setIfInBounds_toArray, List.set_cons_zero, List.set_cons_succ]
        refine wpAnyH_taken (i := 26) (v := ?_) rfl rfl (by kernel_rfl) (by kernel_rfl) (by kernel_rfl) (fun _ _ _ h => h) (Or.inl ⟨by rfl, ?_⟩) (by assumption) ?_
        rotate_left 1
        · intro w hSw
          (try dsimp only at hSw)
          go_simp
          try with_reducible rfl
        simp only [List.setIfInBounds_toArray, List.set_cons_zero, List.set_cons_succ]
        refine wpAnyH_taken (i := 27) (v := ?_) rfl rfl (by kernel_rfl) (by kernel_rfl) (by kernel_rfl) (fun _ _ _ h => h) (Or.inl ⟨by rfl, ?_⟩) (by assumption) ?_
        rotate_left 1
        · intro w hSw
          (try dsimp only at hSw)
          go_simp
          try with_reducible rfl
        simp only [List.setIfInBounds_toArray, List.set_cons_zero, List.set_cons_succ]
        refine wpAnyH_taken (i := 30) (v := ?_) rfl rfl (by kernel_rfl) (by kernel_rfl) (by kernel_rfl) (fun _ _ _ h => h) (Or.inl ⟨by rfl, ?_⟩) (by assumption) ?_
        rotate_left 1
        · intro w hSw
          (try dsimp only at hSw)
          go_simp
          try with_reducible rfl
        simp only [List.setIfInBounds_toArray, List.set_cons_zero, List.set_cons_succ]
        refine wpAnyH_taken (i := 31) (v := ?_) rfl rfl (by kernel_rfl) (by kernel_rfl) (by kernel_rfl) (fun _ _ _ h => h) (Or.inl ⟨by rfl, ?_⟩) (by assumption) ?_
        rotate_left 1
        · intro w hSw
          (try dsimp only at hSw)
          go_simp
          try with_reducible rfl
        simp only [List.setIfInBounds_toArray, List.set_cons_zero, List.set_cons_succ]
        refine wpAnyH_taken (i := 32) (v := ?_) rfl rfl (by kernel_rfl) (by kernel_rfl) (by kernel_rfl) (fun _ _ _ h => h) (Or.inl ⟨by rfl, ?_⟩) (by assumption) ?_
        rotate_left 1
        · intro w hSw
          (try dsimp only at hSw)
          go_simp
          try with_reducible rfl
        simp only [List.setIfInBounds_toArray, List.set_cons_zero, List.set_cons_succ]
        refine wpAnyH_taken (i := 33) (v := ?_) rfl rfl (by kernel_rfl) (by kernel_rfl) (by kernel_rfl) (fun _ _ _ h => h) (Or.inl ⟨by rfl, ?_⟩) (by assumption) ?_
        rotate_left 1
        · intro w hSw
          (try dsimp only at hSw)
          go_simp
          try with_reducible rfl
        simp only [List.setIfInBounds_toArray, List.set_cons_zero, List.set_cons_succ]
        refine wpAnyH_taken (i := 34) (v := ?_) rfl rfl (by kernel_rfl) (by kernel_rfl) (by kernel_rfl) (fun _ _ _ h => h) (Or.inl ⟨by rfl, ?_⟩) (by assumption) ?_
        rotate_left 1
        · intro w hSw
          (try dsimp only at hSw)
          go_simp
          try with_reducible rfl
        simp only [List.setIfInBounds_toArray, List.set_cons_zero, List.set_cons_succ]
        refine wpAnyH_ready (rs := [28]) (by kernel_rfl) (by simp) ?_
        refine AllReadyH.cons rfl (fun K hK => ?_) AllReadyH.nil
        go_simp
        go_wp2_with (first | (go_at_call 13; refine (PA.out _ _ _ (Told.later ht5.out (by assumption)) (HS5.out _ (by assumption))).mono ?_; rintro e w8 ⟨A9, c9, rfl, hv8, hs8, -⟩))
        refine hK.out _ _ ?_ (fun hHeld => ?_)
        · exact Since.next (by assumption) hs8
        clear hK K
        refine wpAnyH_less (S2 := (fun w' => Since w8 w')) (fun w' h => Since.next (by assumption) h) _ _ _ _ ?_
        have hHeld := Since.refl w8
        refine wpAnyH_taken (i := 29) (v := ?_) rfl rfl (by kernel_rfl) (by kernel_rfl) (by kernel_rfl) (fun _ _ _ h => h) (Or.inl ⟨by rfl, ?_⟩) (by assumption) ?_
        rotate_left 1
        · intro w hSw
          (try dsimp only at hSw)
          go_simp
          try with_reducible rfl
        simp only [List.setIfInBounds_toArray, List.set_cons_zero, List.set_cons_succ]
        refine wpAnyH_taken (i := 35) (v := ?_) rfl rfl (by kernel_rfl) (by kernel_rfl) (by kernel_rfl) (fun _ _ _ h => h) (Or.inl ⟨by rfl, ?_⟩) (by assumption) ?_
        rotate_left 1
        · intro w hSw
          (try dsimp only at hSw)
          go_simp
          try with_reducible rfl
        simp only [List.setIfInBounds_toArray, List.set_cons_zero, List.set_cons_succ]
        refine wpAnyH_taken (i := 36) (v := ?_) rfl rfl (by kernel_rfl) (by kernel_rfl) (by kernel_rfl) (fun _ _ _ h => h) (Or.inl ⟨by rfl, ?_⟩) (by assumption) ?_
        rotate_left 1
        · intro w hSw
          (try dsimp only at hSw)
          go_simp
          try with_reducible rfl
        simp only [List.setIfInBounds_toArray, List.set_cons_zero, List.set_cons_succ]
        refine wpAnyH_done (by kernel_rfl) ?_ _
        go_wp2_with fail
        go_meet
        exact ⟨by simp, _, _, Told.later ht5.out (by assumption), hp5, HS5.out _ (by assumption)⟩
      case rest =>
        obtain ⟨rfl, P2, cur2, ht2, hp2, hs2⟩ := hcut
        obtain ⟨HF1, HF2⟩ := HFIN.out _ _ _ ht2 hp2 hs2
        clear PS PD PW PA l0 l1 l2 l3 hr0 HFIN ht2 hp2 hs2
        go_wp2
        go_round
        case rel => exact ⟨i + 1, by omega, by go_num, by rw [HK2.out]; exact HF1, HF2⟩
        case measure => simp [intOf]; omega
    · obtain rfl : i = n := by omega
      obtain ⟨P', cur', htold, hP'⟩ := htd.out
      rw [List.take_of_length_le (by omega)] at htold
      have hok := ok_run HK.out l (w := w) (Q := Q) HL.out.2
      have hlen := hok.1
      have hm256 := hok.2.1
      have hL : (((k.run l).b.length : Nat) : Int).tdiv 32 = (m : Int) := by rw [hlen, Int.tdiv_eq_ediv_of_nonneg (by omega)]; omega
      have hwm : IntKind.i64.wrap (m : Int) = (m : Int) := by rw [IntKind.wrap_i64]; omega
      have HFIN := hide (fun (w5 : World) (h : Since wr w5) => show Both P d g a c (k.run l) w w5 (.returned (.bool true)) from
        Both.of (dsk_keep htold.1 fun b _ hb => h.block b hb) hP' (htold.2.keep (h.block g htold.2.1.lt) (h.block a htold.2.2.1.lt))
          (htk.out.trans (Touch.of_below (show Below wr.heap.size wr w5 from h) |>.mono fun _ _ h => h.elim) fun _ _ h => h))
      have e0 : ∀ w', Since wr w' → w'.cell? ⟨g, 0, none⟩ = some (.slice (some ⟨a, 0, none⟩) (k.run l).b.length c) := fun w' h => ((htold.2.1.below h htold.2.1.lt).cell 0).trans rfl
      have PL := hide (fun (w' : World) (h : Since wr w') => (dlen_any w' (dsk_keep htold.1 fun b _ hb => h.block b hb) hok).mono fun e w2 hh => And.intro hh.1 (Since.next h hh.2))
      have hr0 := (Since.refl wr).drew
      clear htold hok hlen hm256 htd hP' HK HL HQ HC hinit
      go_wp2_with fail
      go_region_held (fun w' => Since wr w') (assumption) (first
        | (go_at_call 18; refine (PL.out _ (by assumption)).mono ?_; rintro e w5 ⟨rfl, hs5⟩))
      all_goals go_wp2
      all_goals go_ret
      all_goals exact HFIN.out _ (by assumption)
end Go.Proofs.Ytcdllbjhcjpleaa
