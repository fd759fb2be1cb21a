/-
  The library's stable sort, at a slice of structs of k cells, over any program that bears its bodies: what it is told of the program; swapRange, rotate.
-/
import Derived.Test.YtfidglkhpikdbaaStab
import Derived.Shelf.SlSortCmp.KitK
import Derived.Sort.WalkB2
import Derived.Sort.WalkB12
import Derived.Deep.LoopGhost
namespace Go.Proofs.Ytfidglkhpikdbaa
open Go.Shelf Go.RowKit Go.Lib
open Go.Sort (SWO swp size_swp)
set_option linter.unusedVariables false

/-- What is asked of the program: the bodies of the stable sort, and their types. -/
structure Bears (P : Program) (k : Nat) : Prop where
  mixed : P.follows .mixedOrders = true
  fStable : P.funcs[29]? = some Try.f29
  fIns : P.funcs[32]? = some Try.f32
  fSym : P.funcs[33]? = some Try.f33
  fRot : P.funcs[34]? = some Try.f34
  fSwp : P.funcs[35]? = some Try.f35
  t0 : P.underlying 0 = some (TypeDesc.tuple #[])
  a0 : ∀ w, (isAgg 0).run P w = .ok false w
  z0 : ∀ w, (Go.sizeOf 0).run P w = .ok 1 w
  v0 : ∀ w, (zeroValue 0).run P w = .ok (Value.tuple #[]) w
  t3 : P.underlying 3 = some (TypeDesc.int IntKind.i64)
  a3 : ∀ w, (isAgg 3).run P w = .ok false w
  z3 : ∀ w, (Go.sizeOf 3).run P w = .ok 1 w
  v3 : ∀ w, (zeroValue 3).run P w = .ok (Value.int IntKind.i64 0) w
  t4 : P.underlying 4 = some (TypeDesc.bool)
  a4 : ∀ w, (isAgg 4).run P w = .ok false w
  z4 : ∀ w, (Go.sizeOf 4).run P w = .ok 1 w
  v4 : ∀ w, (zeroValue 4).run P w = .ok (Value.bool false) w
  t22 : P.underlying 28 = some (TypeDesc.slice 25)
  a22 : ∀ w, (isAgg 28).run P w = .ok false w
  z22 : ∀ w, (Go.sizeOf 28).run P w = .ok 1 w
  v22 : ∀ w, (zeroValue 28).run P w = .ok (Value.slice none 0 0) w
  t25 : P.underlying 38 = some (TypeDesc.func #[25, 25] #[3] false)
  a25 : ∀ w, (isAgg 38).run P w = .ok false w
  z25 : ∀ w, (Go.sizeOf 38).run P w = .ok 1 w
  v25 : ∀ w, (zeroValue 38).run P w = .ok (Value.nilFunc) w
  t54 : P.underlying 54 = some (TypeDesc.int IntKind.u64)
  a54 : ∀ w, (isAgg 54).run P w = .ok false w
  z54 : ∀ w, (Go.sizeOf 54).run P w = .ok 1 w
  aE : ∀ w, (isAgg 25).run P w = .ok true w
  zE : ∀ w, (Go.sizeOf 25).run P w = .ok k w

section
variable {P : Program} {α : Type} [Inhabited α] {k : Nat}
/-- What an exchange of two elements wants, and leaves. -/
theorem drop_cons {β : Type} {l : List β} {i : Nat} (h : i < l.length) : l.drop i = l[i] :: l.drop (i + 1) := List.drop_eq_getElem_cons h

set_option maxHeartbeats 4000000 in
set_option maxRecDepth 1000000 in
/-- swapRange: two parts of one length change places. -/
theorem swapRange_any (L : Bears P k) (enc : α → List Value) (g : Nat) (cb : Array Value) (blk off cap : Nat) (w0 : World) (d0 : Array α) (R : Go.Proofs.RowK enc k w0 blk off d0) (hsz : d0.size < 4611686018427387904)
    (p u q v s : List α) (n a b c : Nat) (w : World) (hn : n = d0.size) (hl : (p ++ u ++ q ++ v ++ s).length = d0.size) (ha : a = p.length) (hb : b = p.length + u.length + q.length) (hc : c = u.length) (huv : u.length = v.length)
    (S : SWK enc k w0 blk off (p ++ u ++ q ++ v ++ s).toArray w) :
    Calls P 35 #[.slice (some ⟨blk, off, none⟩) n cap, .int .i64 (a : Int), .int .i64 (b : Int), .int .i64 (c : Int), .func (.func g) #[] cb] w fun e w' => e = .returned (.tuple #[]) ∧ SWK enc k w0 blk off (p ++ v ++ q ++ u ++ s).toArray w' := by
  have mixed := L.mixed; have t0 := L.t0; have a0 := L.a0; have z0 := L.z0; have v0 := L.v0; have t3 := L.t3; have a3 := L.a3; have z3 := L.z3; have v3 := L.v3; have t4 := L.t4; have a4 := L.a4; have z4 := L.z4; have v4 := L.v4; have t22 := L.t22; have a22 := L.a22; have z22 := L.z22; have v22 := L.v22; have t25 := L.t25; have a25 := L.a25; have z25 := L.z25; have v25 := L.v25; have aE := L.aE; have zE := L.zE
  have FG := L.fSwp
  have hlen : p.length + u.length + q.length + v.length + s.length = d0.size := by simpa [Nat.add_assoc] using hl
  have S0 : Aside (SWK enc k w0 blk off (p ++ u ++ q ++ v ++ s).toArray w) := S
  have HL := hide hl
  have HLEN := hide hlen
  have HA := hide ha
  have HB := hide hb
  have HC := hide hc
  have HUV := hide huv
  have hbn : b < 4611686018427387904 := by omega
  have han : a < 4611686018427387904 := by omega
  have hcn : c < 4611686018427387904 := by omega
  clear S hl hlen ha hb hc huv
  go_enter FG, Try.ntmps35
  go_wp2
  go_loopg [10] c (fun kx s10 wr => ∃ (i : Nat), s10 = .int .i64 (i : Int) ∧ i ≤ c ∧ c - i ≤ kx ∧ Aside (SWK enc k w0 blk off (p ++ (v.take i ++ u.drop i) ++ q ++ (u.take i ++ v.drop i) ++ s).toArray wr))
  case atStart => exact ⟨0, rfl, Nat.zero_le _, Nat.le_refl _, by simpa using S0⟩
  case round =>
    clear S0
    obtain ⟨i, rfl, hi, hkx, S1⟩ := hrel
    by_cases hlt : i < c
    · have hltz : (i : Int) < (c : Int) := by omega
      have hiu : i < u.length := by have := HC.out; omega
      have hiv : i < v.length := by have := HC.out; have := HUV.out; omega
      have E1 := hide (show p ++ (v.take i ++ u.drop i) ++ q ++ (u.take i ++ v.drop i) ++ s = (p ++ v.take i) ++ u[i] :: ((u.drop (i + 1) ++ q ++ u.take i) ++ v[i] :: (v.drop (i + 1) ++ s)) by
        rw [drop_cons hiu, drop_cons hiv]; simp only [List.append_assoc, List.cons_append])
      have E2 := hide (show p ++ (v.take (i + 1) ++ u.drop (i + 1)) ++ q ++ (u.take (i + 1) ++ v.drop (i + 1)) ++ s = (p ++ v.take i) ++ v[i] :: ((u.drop (i + 1) ++ q ++ u.take i) ++ u[i] :: (v.drop (i + 1) ++ s)) by
        rw [List.take_succ_eq_append_getElem hiu, List.take_succ_eq_append_getElem hiv]; simp only [List.append_assoc, List.cons_append, List.nil_append])
      have P1 := hide (show a + i = (p ++ v.take i).length by have := HA.out; rw [List.length_append, List.length_take]; omega)
      have P2 := hide (show b + i = (p ++ v.take i).length + 1 + (u.drop (i + 1) ++ q ++ u.take i).length by
        have := HB.out; simp only [List.length_append, List.length_take, List.length_drop]; omega)
      have LT := hide (show a + i < d0.size ∧ b + i < d0.size by have := HA.out; have := HB.out; have := HLEN.out; omega)
      have SZ := hide (show ((p ++ v.take i) ++ u[i] :: ((u.drop (i + 1) ++ q ++ u.take i) ++ v[i] :: (v.drop (i + 1) ++ s))).toArray.size = d0.size by
        rw [← E1.out]; have := HLEN.out; have := HUV.out; simp only [List.size_toArray, List.length_append, List.length_take, List.length_drop]; omega)
      have S2 : Aside (SWK enc k w0 blk off ((p ++ v.take i) ++ u[i] :: ((u.drop (i + 1) ++ q ++ u.take i) ++ v[i] :: (v.drop (i + 1) ++ s))).toArray wr) := by rw [← E1.out]; exact S1
      clear S1
      have hx1 : ((p ++ v.take i) ++ u[i] :: ((u.drop (i + 1) ++ q ++ u.take i) ++ v[i] :: (v.drop (i + 1) ++ s))).toArray[a + i]! = u[i] := arr_mid _ _ _ _ P1.out
      have hx2 : ((p ++ v.take i) ++ u[i] :: ((u.drop (i + 1) ++ q ++ u.take i) ++ v[i] :: (v.drop (i + 1) ++ s))).toArray[b + i]! = v[i] := by
        have := arr_mid ((p ++ v.take i) ++ u[i] :: (u.drop (i + 1) ++ q ++ u.take i)) v[i] (v.drop (i + 1) ++ s) (b + i) (by rw [P2.out]; simp only [List.length_append, List.length_cons]; omega)
        simpa using this
      have hsw := swp_mid (p ++ v.take i) (u.drop (i + 1) ++ q ++ u.take i) (v.drop (i + 1) ++ s) u[i] v[i] (a + i) (b + i) P1.out P2.out
      rw [← E2.out] at hsw
      have ea : ((a : Int) + (i : Int)).toNat = a + i := by omega
      have pa : (0 : Int) ≤ (a : Int) + (i : Int) := by omega
      have ba : (a : Int) + (i : Int) < (n : Int) := by have := LT.out; omega
      have ra : IntKind.i64.wrap ((a : Int) + (i : Int)) = (a : Int) + (i : Int) := by rw [IntKind.wrap_i64]; omega
      have ec : ((b : Int) + (i : Int)).toNat = b + i := by omega
      have pc : (0 : Int) ≤ (b : Int) + (i : Int) := by omega
      have bc : (b : Int) + (i : Int) < (n : Int) := by have := LT.out; omega
      have rc : IntKind.i64.wrap ((b : Int) + (i : Int)) = (b : Int) + (i : Int) := by rw [IntKind.wrap_i64]; omega
      generalize ((p ++ v.take i) ++ u[i] :: ((u.drop (i + 1) ++ q ++ u.take i) ++ v[i] :: (v.drop (i + 1) ++ s))).toArray = dk at S2 SZ hx1 hx2 hsw
      have S3 : Aside (SWK enc k w0 blk off (swp dk (a + i) (b + i)) ((wr.drew.setCells blk (off + (a + i) * k) (enc dk[b + i]!)).setCells blk (off + (b + i) * k) (enc dk[a + i]!))) := S2.out.swapped R (a + i) (b + i) (by rw [SZ.out]; exact LT.out.1) (by rw [SZ.out]; exact LT.out.2)
      have la := S2.out.ld1 R SZ.out P (a + i) (by rw [SZ.out]; exact LT.out.1)
      have lb := S2.out.ld1 R SZ.out P (b + i) (by rw [SZ.out]; exact LT.out.2)
      have sa := S2.out.st1 R SZ.out P (a + i) (by rw [SZ.out]; exact LT.out.1) dk[b + i]!
      have sb := S2.out.st2 R SZ.out P (a + i) (b + i) (by rw [SZ.out]; exact LT.out.1) (by rw [SZ.out]; exact LT.out.2) dk[b + i]! dk[a + i]!
      have na : (enc dk[a + i]!).length = k := R.hk _
      have nb : (enc dk[b + i]!).length = k := R.hk _
      rw [hsw] at S3
      clear hx1 hx2 hsw
      generalize enc dk[a + i]! = cI at S3 la sb na
      generalize enc dk[b + i]! = cJ at S3 lb sa sb nb
      clear S2 SZ
      go_wp2_with fail
      go_big_region_o
      clear la lb sa sb
      generalize (wr.drew.setCells blk (off + (a + i) * k) cJ).setCells blk (off + (b + i) * k) cI = w2 at S3 ⊢
      go_wp2
      go_roundg (c - (i + 1))
      case measure => omega
      case rel => exact ⟨i + 1, by go_num, by omega, Nat.le_refl _, S3⟩
    · have hltz : ¬ (i : Int) < (c : Int) := by omega
      obtain rfl : i = c := by omega
      go_wp2
      go_end0
      refine ⟨rfl, ?_⟩
      have := S1.out
      rw [List.take_of_length_le (by have := HC.out; have := HUV.out; omega : v.length ≤ i), List.drop_of_length_le (by have := HC.out; omega : u.length ≤ i), List.take_of_length_le (by have := HC.out; omega : u.length ≤ i), List.drop_of_length_le (by have := HC.out; have := HUV.out; omega : v.length ≤ i)] at this
      simpa using this

set_option maxHeartbeats 4000000 in
set_option maxRecDepth 1000000 in
/-- rotate: two parts side by side change places. -/
theorem rotate_any (L : Bears P k) (enc : α → List Value) (g : Nat) (cb : Array Value) (blk off cap : Nat) (w0 : World) (d0 : Array α) (R : Go.Proofs.RowK enc k w0 blk off d0) (hsz : d0.size < 4611686018427387904)
    (p u v s : List α) (n a m b : Nat) (w : World) (hn : n = d0.size) (hl : (p ++ u ++ v ++ s).length = d0.size) (ha : a = p.length) (hm : m = p.length + u.length) (hb : b = p.length + u.length + v.length) (hu : 0 < u.length) (hv : 0 < v.length)
    (S : SWK enc k w0 blk off (p ++ u ++ v ++ s).toArray w) :
    Calls P 34 #[.slice (some ⟨blk, off, none⟩) n cap, .int .i64 (a : Int), .int .i64 (m : Int), .int .i64 (b : Int), .func (.func g) #[] cb] w fun e w' => e = .returned (.tuple #[]) ∧ SWK enc k w0 blk off (p ++ v ++ u ++ s).toArray w' := by
  have mixed := L.mixed; have t0 := L.t0; have a0 := L.a0; have z0 := L.z0; have v0 := L.v0; have t3 := L.t3; have a3 := L.a3; have z3 := L.z3; have v3 := L.v3; have t4 := L.t4; have a4 := L.a4; have z4 := L.z4; have v4 := L.v4; have t22 := L.t22; have a22 := L.a22; have z22 := L.z22; have v22 := L.v22; have t25 := L.t25; have a25 := L.a25; have z25 := L.z25; have v25 := L.v25; have aE := L.aE; have zE := L.zE
  have FG := L.fRot
  have e35 : ∀ args w, (callFunc 35 args).run P w = .ok (.enter 35 args) w := enters_of L.fSwp (by kernel_rfl) rfl
  have hlen : p.length + u.length + v.length + s.length = d0.size := by simpa [Nat.add_assoc] using hl
  have S0 : Aside (SWK enc k w0 blk off (p ++ u ++ v ++ s).toArray w) := S
  have HL := hide hl
  have hbn : b ≤ n := by omega
  have hmb : m < b := by omega
  have ham : a < m := by omega
  have hnn : n < 4611686018427387904 := by omega
  have HA := hide ha
  have HM := hide (show u.length = m - a ∧ v.length = b - m by omega)
  have HN := hide hn
  clear S hl hlen ha hm hb hu hv hn
  go_enter FG, Try.ntmps34
  go_wp2
  go_loopg [10, 11] (b - a) (fun kx s10 s11 wr => ∃ (i j : Nat) (pp uu vv ss : List α), s10 = .int .i64 (i : Int) ∧ s11 = .int .i64 (j : Int) ∧ 0 < i ∧ 0 < j ∧ i ≤ m ∧ m + j ≤ n ∧ i + j ≤ kx ∧
      Hid (uu.length = i ∧ vv.length = j ∧ pp.length + i = m ∧ (pp ++ uu ++ vv ++ ss).length = d0.size ∧ pp ++ vv ++ uu ++ ss = p ++ v ++ u ++ s) ∧ Aside (SWK enc k w0 blk off (pp ++ uu ++ vv ++ ss).toArray wr))
  case atStart =>
    have := HA.out
    have := HM.out
    exact ⟨m - a, b - m, p, u, v, s, by congr 1; omega, by congr 1; omega, by omega, by omega, by omega, by omega, by omega, ⟨by omega, by omega, by omega, HL.out, rfl⟩, S0⟩
  case round =>
    clear S0
    obtain ⟨i, j, pp, uu, vv, ss, rfl, rfl, hi, hj, him, hjn, hkx, HI, S1⟩ := hrel
    have ra : IntKind.i64.wrap ((m : Int) - (i : Int)) = (m : Int) - (i : Int) := by rw [IntKind.wrap_i64]; omega
    rcases Nat.lt_trichotomy i j with hij | hij | hij
    · -- i < j: the end of vv
      obtain ⟨x, y, E, hx, hy⟩ : ∃ x y, vv = x ++ y ∧ x.length = j - i ∧ y.length = i := ⟨vv.take (j - i), vv.drop (j - i), (List.take_append_drop _ _).symm, by rw [List.length_take]; have := HI.out; omega, by rw [List.length_drop]; have := HI.out; omega⟩
      subst E
      have h1 : (i : Int) ≠ (j : Int) := by omega
      have h2 : ¬ (j : Int) < (i : Int) := by omega
      have hc := swapRange_any L enc g cb blk off cap w0 d0 R hsz pp uu x y ss n (m - i) (m + j - i) i wr HN.out (by have := HI.out.2.2.2.1; simpa using this) (by have := HI.out; omega) (by have := HI.out; omega) (by have := HI.out; omega) (by have := HI.out; omega) (by have := S1.out; simpa using this)
      rw [show ((m - i : Nat) : Int) = (m : Int) - (i : Int) by omega, show ((m + j - i : Nat) : Int) = (m : Int) + (j : Int) - (i : Int) by omega] at hc
      have HI2 := hide (show uu.length = i ∧ x.length = j - i ∧ (pp ++ y).length + i = m + i ∧ (pp ++ y ++ x ++ uu ++ ss).length = d0.size ∧ pp ++ x ++ y ++ uu ++ ss = p ++ v ++ u ++ s from by
        obtain ⟨q1, q2, q3, q4, q5⟩ := HI.out
        refine ⟨q1, hx, by rw [List.length_append]; omega, ?_, by rw [← q5]; simp⟩
        simp only [List.length_append] at q4 ⊢
        omega)
      clear S1 HI
      go_wp2_with (go_at_call 35; refine hc.mono ?_; rintro e w1 ⟨rfl, hS⟩)
      have S2 : Aside (SWK enc k w0 blk off (pp ++ y ++ x ++ uu ++ ss).toArray w1) := hS
      clear hS
      go_wp2
      go_roundg (i + (j - i))
      case measure => omega
      case rel =>
        refine ⟨i, j - i, pp, y, x, uu ++ ss, by first | rfl | go_num, by first | (congr 1; omega) | go_num, by omega, by omega, by omega, by omega, Nat.le_refl _, ?_, ?_⟩
        · obtain ⟨q1, q2, q3, q4, q5⟩ := HI2.out
          refine ⟨hy, q2, by rw [List.length_append] at q3; omega, by simpa using q4, by rw [← q5]; simp⟩
        · rw [show pp ++ y ++ x ++ (uu ++ ss) = pp ++ y ++ x ++ uu ++ ss by simp]
          exact S2
    · subst hij
      have hc := swapRange_any L enc g cb blk off cap w0 d0 R hsz pp uu [] vv ss n (m - i) m i wr HN.out (by have := HI.out.2.2.2.1; simpa using this) (by have := HI.out; omega) (by have := HI.out; simp; omega) (by have := HI.out; omega) (by have := HI.out; omega) (by have := S1.out; simpa using this)
      rw [show ((m - i : Nat) : Int) = (m : Int) - (i : Int) by omega] at hc
      have E := hide HI.out.2.2.2.2
      clear S1 HI
      go_wp2_with (go_at_call 35; refine hc.mono ?_; rintro e w1 ⟨rfl, hS⟩)
      go_end0
      refine ⟨rfl, ?_⟩
      rw [← E.out]
      simpa using hS
    · -- i > j: the front of uu
      obtain ⟨x, y, E, hx, hy⟩ : ∃ x y, uu = x ++ y ∧ x.length = j ∧ y.length = i - j := ⟨uu.take j, uu.drop j, (List.take_append_drop _ _).symm, by rw [List.length_take]; have := HI.out; omega, by rw [List.length_drop]; have := HI.out; omega⟩
      subst E
      have h1 : (i : Int) ≠ (j : Int) := by omega
      have h2 : (j : Int) < (i : Int) := by omega
      have hc := swapRange_any L enc g cb blk off cap w0 d0 R hsz pp x y vv ss n (m - i) m j wr HN.out (by have := HI.out.2.2.2.1; simpa using this) (by have := HI.out; omega) (by have := HI.out; omega) (by have := HI.out; omega) (by have := HI.out; omega) (by have := S1.out; simpa using this)
      rw [show ((m - i : Nat) : Int) = (m : Int) - (i : Int) by omega] at hc
      have HI2 := hide (show vv.length = j ∧ (pp ++ vv).length + (i - j) = m ∧ (pp ++ vv ++ y ++ x ++ ss).length = d0.size ∧ pp ++ vv ++ x ++ y ++ ss = p ++ v ++ u ++ s from by
        obtain ⟨q1, q2, q3, q4, q5⟩ := HI.out
        refine ⟨q2, by rw [List.length_append]; omega, ?_, by rw [← q5]; simp⟩
        simp only [List.length_append] at q4 ⊢
        omega)
      clear S1 HI
      go_wp2_with (go_at_call 35; refine hc.mono ?_; rintro e w1 ⟨rfl, hS⟩)
      have S2 : Aside (SWK enc k w0 blk off (pp ++ vv ++ y ++ x ++ ss).toArray w1) := hS
      clear hS
      go_wp2
      go_roundg (i - j + j)
      case measure => omega
      case rel =>
        refine ⟨i - j, j, pp ++ vv, y, x, ss, by first | (congr 1; omega) | go_num, by first | rfl | go_num, by omega, by omega, by omega, by omega, Nat.le_refl _, ?_, S2⟩
        obtain ⟨q1, q2, q3, q4⟩ := HI2.out
        exact ⟨hy, hx, q2, q3, q4⟩
end
end Go.Proofs.Ytfidglkhpikdbaa
