/-
  The library's insertion sort keeps what is alike in its order; its contract.
-/
import Derived.Test.YtfidglkhpikdbaaSortL
import Derived.Shelf.SlLaysF0
import Derived.Shelf.SlSortCmp.InsertionK
namespace Go.Proofs.Ytfidglkhpikdbaa
open Go.Shelf Go.RowKit Go.Lib
open Go.Sort (SWO swp size_swp grow insInner insOuter insertionSort insertionSort_holds PermIn SortedIn)
set_option linter.unusedVariables false

section
variable {α : Type} [Inhabited α] {lt : α → α → Bool}
theorem arr_get (d : Array α) (i : Nat) (h : i < d.size) : d[i]! = d.toList[i]'(by simpa using h) := by
  rw [getElem!_pos d i h]; rfl
theorem swp_adj (hS : SWO lt) (d : Array α) (j : Nat) (hj : j + 1 < d.size) (h : lt d[j + 1]! d[j]! = true) : Stab lt d.toList (swp d (j + 1) j).toList := by
  obtain ⟨l, rfl⟩ : ∃ l : List α, d = l.toArray := ⟨d.toList, by simp⟩
  rw [List.size_toArray] at hj
  have e : l = l.take j ++ l[j] :: ([] ++ l[j + 1] :: l.drop (j + 2)) := by
    conv => lhs; rw [← List.take_append_drop j l, drop_cons (by omega : j < l.length), drop_cons hj]
    rfl
  rw [arr_get _ _ (by simpa using hj), arr_get _ _ (by simp; omega)] at h
  simp only at h
  generalize l[j + 1] = y at e h
  generalize l[j] = x at e h
  have e2 := swp_mid' (l.take j) [] (l.drop (j + 2)) x y (j + 1) j (by rw [List.length_take]; omega) (by rw [List.length_take]; simp; omega)
  rw [← e] at e2
  rw [e2]
  show Stab lt l (l.take j ++ y :: ([] ++ x :: l.drop (j + 2)))
  have m : Stab lt (l.take j ++ (([x] ++ [y]) ++ l.drop (j + 2))) (l.take j ++ (([y] ++ [x]) ++ l.drop (j + 2))) := (Stab.refl _).append ((Stab.swap hS fun a ha b hb => by rw [List.mem_singleton.1 ha, List.mem_singleton.1 hb]; exact h).append (Stab.refl _))
  have e3 : l = l.take j ++ (([x] ++ [y]) ++ l.drop (j + 2)) := e
  rw [← e3] at m
  exact m
theorem inner_stab (hS : SWO lt) (a : Nat) : ∀ (j : Nat) (d : Array α), j < d.size → Stab lt d.toList (insInner lt a j d).toList ∧ (insInner lt a j d).size = d.size
  | 0, d, _ => by unfold insInner; exact ⟨Stab.refl _, rfl⟩
  | j + 1, d, h => by
    unfold insInner
    split
    · rename_i hc
      simp only [Bool.and_eq_true, decide_eq_true_eq] at hc
      have ih := inner_stab hS a j (swp d (j + 1) j) (by rw [size_swp]; omega)
      exact ⟨(swp_adj hS d j h hc.2).trans ih.1, by rw [ih.2, size_swp]⟩
    · exact ⟨Stab.refl _, rfl⟩
theorem outer_stab (hS : SWO lt) (a b : Nat) : ∀ (n i : Nat) (d : Array α), b - i = n → b ≤ d.size → Stab lt d.toList (insOuter lt a b i d).toList
  | 0, i, d, hn, _ => by rw [insOuter, if_neg (by omega)]; exact Stab.refl _
  | n + 1, i, d, hn, hb => by
    rw [insOuter, if_pos (by omega)]
    have h1 := inner_stab hS a i d (by omega)
    exact h1.1.trans (outer_stab hS a b n (i + 1) _ (by omega) (by rw [h1.2]; exact hb))
/-- A part of an array, sorted by insertion. -/
theorem ins_part (hS : SWO lt) (p u s : List α) (a b : Nat) (ha : a = p.length) (hb : b = p.length + u.length) :
    ∃ r, insertionSort lt (p ++ u ++ s).toArray a b = (p ++ r ++ s).toArray ∧ r.length = u.length ∧ Srt lt r ∧ Stab lt u r := by
  have hbs : b ≤ (p ++ u ++ s).toArray.size := by simp only [List.size_toArray, List.length_append]; omega
  obtain ⟨⟨h1, h2, h3⟩, h4⟩ := insertionSort_holds (lt := lt) hS (p ++ u ++ s).toArray a b (by omega) hbs
  have h5 : Stab lt (p ++ u ++ s) (insertionSort lt (p ++ u ++ s).toArray a b).toList := outer_stab hS a b _ _ _ rfl hbs
  generalize insertionSort lt (p ++ u ++ s).toArray a b = d at h1 h2 h3 h4 h5
  obtain ⟨l, rfl⟩ : ∃ l : List α, d = l.toArray := ⟨d.toList, by simp⟩
  simp only [List.size_toArray, List.length_append] at h1
  have hg : ∀ i (h : i < l.length), (l.toArray)[i]! = l[i] := fun i h => arr_get l.toArray i (by simpa using h)
  have hg2 : ∀ i (h : i < (p ++ u ++ s).length), ((p ++ u ++ s).toArray)[i]! = (p ++ u ++ s)[i] := fun i h => arr_get (p ++ u ++ s).toArray i (by simpa using h)
  have e1 : l.take a = p := by
    apply List.ext_getElem
    · rw [List.length_take]; omega
    · intro i h6 h7
      rw [List.getElem_take, ← hg i (by omega), h2 i (.inl (by omega)), hg2 i (by simp only [List.length_append]; omega), List.getElem_append_left (by simp only [List.length_append]; omega), List.getElem_append_left h7]
  have e2 : l.drop b = s := by
    apply List.ext_getElem
    · rw [List.length_drop]; omega
    · intro i h6 h7
      rw [List.getElem_drop, ← hg (b + i) (by omega), h2 (b + i) (.inr (by omega)), hg2 (b + i) (by simp only [List.length_append]; omega), List.getElem_append_right (by simp only [List.length_append]; omega)]
      congr 1
      simp only [List.length_append]; omega
  have e3 : l = p ++ (l.take b).drop a ++ s := by
    conv => lhs; rw [← List.take_append_drop b l, ← List.take_append_drop a (l.take b)]
    rw [List.take_take, Nat.min_eq_left (by omega), e1, e2]
  refine ⟨(l.take b).drop a, by rw [← e3], by rw [List.length_drop, List.length_take]; omega, ?_, ?_⟩
  · refine List.pairwise_iff_getElem.2 fun i j hi hj hij => ?_
    rw [List.length_drop, List.length_take] at hi hj
    have := h4 (a + i) (a + j) (by omega) (by omega) (by omega)
    rw [hg _ (by omega), hg _ (by omega)] at this
    rw [List.getElem_drop, List.getElem_drop, List.getElem_take, List.getElem_take]
    exact this
  · intro c
    have := h5 c
    have e4 : l.toArray.toList = p ++ (l.take b).drop a ++ s := e3
    rw [e4] at this
    simp only [List.filter_append] at this
    exact List.append_cancel_left (List.append_cancel_right this)
end

section
variable {P : Program} {α : Type} [Inhabited α] {k : Nat}
/-- The numbers of the library's own text, here. -/
def renIns : Ren := ⟨fun _ => 32, fun x => if x = 0 then 0 else if x = 3 then 3 else if x = 4 then 4 else if x = 22 then 28 else if x = 24 then 25 else 38, fun x => x⟩
theorem Bears.ins (L : Bears P k) : SlLaysF0.n20 P renIns where
  mixed := L.mixed
  f20 := ⟨"slices.insertionSortCmpFunc[countermand/api.Change]", by decide, by rw [show renIns.f 20 = 32 from rfl, L.fIns]; kernel_rfl⟩
  t0 := L.t0
  a0 := L.a0
  z0 := L.z0
  v0 := L.v0
  t3 := L.t3
  a3 := L.a3
  z3 := L.z3
  v3 := L.v3
  t4 := L.t4
  a4 := L.a4
  z4 := L.z4
  v4 := L.v4
  t22 := L.t22
  a22 := L.a22
  z22 := L.z22
  v22 := L.v22
  t25 := L.t25
  a25 := L.a25
  z25 := L.z25
  v25 := L.v25
theorem ins_any (L : Bears P k) (enc : α → List Value) (cf : α → α → Int) (hS : SWO (ltOf cf)) (g : Nat) (cb : Array Value) (blk off cap : Nat) (w0 : World) (d0 : Array α) (R : Go.Proofs.RowK enc k w0 blk off d0) (hsz : d0.size < 4611686018427387904)
    (eg : ∀ args w, (callFunc g args).run P w = .ok (.enter g args) w) (hcmp : CmpLays P g cb enc k cf blk off d0.size w0)
    (p u s : List α) (n a b : Nat) (w : World) (hn : n = d0.size) (hl : (p ++ u ++ s).length = d0.size) (ha : a = p.length) (hb : b = p.length + u.length)
    (S : SWK enc k w0 blk off (p ++ u ++ s).toArray w) :
    Calls P 32 #[.slice (some ⟨blk, off, none⟩) n cap, .int .i64 (a : Int), .int .i64 (b : Int), .func (.func g) #[] cb] w fun e w' => e = .returned (.tuple #[]) ∧
      ∃ r, r.length = u.length ∧ Srt (ltOf cf) r ∧ Stab (ltOf cf) u r ∧ SWK enc k w0 blk off (p ++ r ++ s).toArray w' := by
  have hs : (p ++ u ++ s).toArray.size = d0.size := by simpa using hl
  obtain ⟨r, e1, e2, e3, e4⟩ := ins_part hS p u s a b ha hb
  have hC : CmpLays P g cb enc k cf blk off (p ++ u ++ s).toArray.size w := fun m os dk hdk x y => by
    obtain ⟨n0, os0, rfl⟩ := S
    rw [sortWorldK_on enc k w0 blk off n0 m _ dk os0 os R.hblk hdk]
    exact hcmp _ _ dk (by omega) x y
  have h := AnyQ.insertionSortCmpFunc L.ins k L.aE L.zE enc R.hk R.h1 cf g cb blk off cap a b (p ++ u ++ s).toArray w eg hC (S.holds R.hblk R.hH hs) (S.lt R.hblk) (by omega) (by rw [hs, ← hl]; simp only [List.length_append]; omega) (by omega)
  rw [hs, ← hn] at h
  refine h.mono ?_
  rintro e w' ⟨rfl, n', os, rfl⟩
  rw [e1]
  refine ⟨rfl, r, e2, e3, e4, S.on R.hblk n' _ os ?_⟩
  simp only [List.size_toArray, List.length_append]
  omega
end
end Go.Proofs.Ytfidglkhpikdbaa
