/-
  The library's symMerge where one of the two parts is one element.
-/
import Derived.Test.YtfidglkhpikdbaaSortL
namespace Go.Proofs.Ytfidglkhpikdbaa
open Go.Shelf Go.RowKit Go.Lib
open Go.Sort (SWO swp size_swp grow)
set_option linter.unusedVariables false

section
variable {P : Program} {α : Type} [Inhabited α] {k : Nat}
/-- What a merge leaves. -/
def Merged (enc : α → List Value) (k : Nat) (cf : α → α → Int) (w0 : World) (blk off : Nat) (p u v s : List α) (w' : World) : Prop :=
  ∃ r, r.length = u.length + v.length ∧ Srt (ltOf cf) r ∧ Stab (ltOf cf) (u ++ v) r ∧ SWK enc k w0 blk off (p ++ r ++ s).toArray w'

set_option maxHeartbeats 4000000 in
set_option maxRecDepth 1000000 in
theorem symLeft_any (L : Bears P k) (enc : α → List Value) (cf : α → α → Int) (hS : SWO (ltOf cf)) (g : Nat) (cb : Array Value) (blk off cap : Nat) (w0 : World) (d0 : Array α) (R : Go.Proofs.RowK enc k w0 blk off d0) (hsz : d0.size < 4611686018427387904)
    (eg : ∀ args w, (callFunc g args).run P w = .ok (.enter g args) w) (hcmp : CmpLays P g cb enc k cf blk off d0.size w0)
    (p v s : List α) (x : α) (n a m b : Nat) (w : World) (hn : n = d0.size) (hl : (p ++ [x] ++ v ++ s).length = d0.size) (ha : a = p.length) (hm : m = p.length + 1) (hb : b = p.length + 1 + v.length) (hv : 0 < v.length)
    (hsv : Srt (ltOf cf) v) (S : SWK enc k w0 blk off (p ++ [x] ++ v ++ s).toArray w) :
    Calls P 33 #[.slice (some ⟨blk, off, none⟩) n cap, .int .i64 (a : Int), .int .i64 (m : Int), .int .i64 (b : Int), .func (.func g) #[] cb] w fun e w' => e = .returned (.tuple #[]) ∧ Merged enc k cf w0 blk off p [x] v s w' := by
  have mixed := L.mixed; have t0 := L.t0; have a0 := L.a0; have z0 := L.z0; have v0 := L.v0; have t3 := L.t3; have a3 := L.a3; have z3 := L.z3; have v3 := L.v3; have t4 := L.t4; have a4 := L.a4; have z4 := L.z4; have v4 := L.v4; have t22 := L.t22; have a22 := L.a22; have z22 := L.z22; have v22 := L.v22; have t25 := L.t25; have a25 := L.a25; have z25 := L.z25; have v25 := L.v25; have aE := L.aE; have zE := L.zE; have t54 := L.t54; have a54 := L.a54; have z54 := L.z54
  have u3 := run_underlying L.t3; have u4 := run_underlying L.t4; have u54 := run_underlying L.t54
  have FG := L.fSym
  have hlen : p.length + 1 + v.length + s.length = d0.size := by simp only [List.length_append, List.length_cons, List.length_nil] at hl; omega
  have S0 : Aside (SWK enc k w0 blk off (p ++ [x] ++ v ++ s).toArray w) := S
  have HC : Aside _ := hcmp
  have HSV := hide hsv
  have HS : Aside _ := hS
  have hbn : b ≤ n := by omega
  have hmb : m < b := by omega
  have ham : m = a + 1 := by omega
  have hnn : n < 4611686018427387904 := by omega
  have HN := hide hn
  have HA := hide ha
  have HV := hide (show v.length = b - m by omega)
  have HL := hide hl
  have hone : (m : Int) - (a : Int) = 1 := by omega
  have HAM := hide ham
  have ham' : a < m := by omega
  clear S hl hlen ha hm hb hv hn hsv hcmp hS ham
  -- the search's list
  obtain ⟨dk, hdk⟩ : ∃ dk, (p ++ [x] ++ v ++ s).toArray = dk := ⟨_, rfl⟩
  have DK := hide hdk
  have DS := hide (show dk.size = d0.size by rw [← hdk]; simpa using HL.out)
  rw [hdk] at S0
  clear hdk
  have GX := hide (show dk[a]! = x by rw [← DK.out]; have := arr_mid p x (v ++ s) a HA.out; simpa using this)
  have GV : Hid (∀ t (h : t < v.length), dk[m + t]! = v[t]) := by
    intro t h
    rw [← DK.out]
    have := arr_mid (p ++ [x] ++ v.take t) v[t] (v.drop (t + 1) ++ s) (m + t) (by have := HA.out; have := HAM.out; simp; omega)
    rw [← this]
    congr 2
    rw [show v[t] :: (v.drop (t + 1) ++ s) = (v[t] :: v.drop (t + 1)) ++ s by rfl, ← drop_cons h]
    conv => lhs; rw [← List.take_append_drop t v]
    simp only [List.append_assoc]
  go_enter FG, Try.ntmps33
  go_wp2
  go_loopg [10, 11] (b - m) (fun kx s10 s11 wr => ∃ (i j : Nat), s10 = .int .i64 (i : Int) ∧ s11 = .int .i64 (j : Int) ∧ m ≤ i ∧ i ≤ j ∧ j ≤ b ∧ j - i ≤ kx ∧ Aside (SWK enc k w0 blk off dk wr) ∧
      Hid ((i = m ∨ ltOf cf dk[i - 1]! x = true) ∧ (j = b ∨ ltOf cf dk[j]! x = false)))
  case atStart => exact ⟨m, b, rfl, rfl, Nat.le_refl _, by omega, Nat.le_refl _, Nat.le_refl _, S0, ⟨Or.inl rfl, Or.inl rfl⟩⟩
  case round =>
    clear S0
    obtain ⟨i, j, rfl, rfl, hmi, hij, hjb, hkx, S1, I⟩ := hrel
    by_cases hlt : i < j
    · have hltz : (i : Int) < (j : Int) := by omega
      have h2 : ((i : Int) + (j : Int)) / 2 = (((i + j) / 2 : Nat) : Int) := by omega
      obtain ⟨h, hh⟩ : ∃ h, h = (i + j) / 2 := ⟨_, rfl⟩
      have hih : i ≤ h := by omega
      have hhj : h < j := by omega
      rw [← hh] at h2
      clear hh
      have ba : (h : Int) < (n : Int) := by omega
      have bc : (a : Int) < (n : Int) := by omega
      have rh : IntKind.i64.wrap ((h : Int) + 1) = (h : Int) + 1 := by rw [IntKind.wrap_i64]; omega
      obtain ⟨y, hy⟩ : ∃ y, y = dk[h]! := ⟨_, rfl⟩
      have la := S1.out.ld R DS.out P h (by rw [DS.out, ← HN.out]; omega)
      have lb := S1.out.ld R DS.out P a (by rw [DS.out, ← HN.out]; omega)
      rw [← hy] at la
      rw [GX.out] at lb
      have hc := S1.out.cmp HC.out DS.out y x
      have HY := hide hy
      clear hy
      by_cases hv : cf y x < 0
      · have hd : decide (cf y x < 0) = true := decide_eq_true hv
        have HD := hide hd
        go_wp2_with fail
        go_quiet_grown (first | (go_at_fn g; refine Calls.grown_of (hc _ _)))
        have S2 : Aside (SWK enc k w0 blk off dk (grow (wr.drewN nq) osq)) := S1.out.grown nq osq
        clear la lb hc S1
        generalize grow (wr.drewN nq) osq = w2 at S2 ⊢
        clear nq osq
        go_wp2
        go_roundg (j - (h + 1))
        case measure => omega
        case rel => exact ⟨h + 1, j, by go_num, rfl, by omega, by omega, hjb, Nat.le_refl _, S2, ⟨Or.inr (by rw [Nat.add_sub_cancel, ← HY.out]; exact HD.out), I.out.2⟩⟩
      · have hd : decide (cf y x < 0) = false := decide_eq_false hv
        have HD := hide hd
        go_wp2_with fail
        go_quiet_grown (first | (go_at_fn g; refine Calls.grown_of (hc _ _)))
        have S2 : Aside (SWK enc k w0 blk off dk (grow (wr.drewN nq) osq)) := S1.out.grown nq osq
        clear la lb hc S1
        generalize grow (wr.drewN nq) osq = w2 at S2 ⊢
        clear nq osq
        go_wp2
        go_roundg (h - i)
        case measure => omega
        case rel => exact ⟨i, h, rfl, rfl, hmi, hih, by omega, Nat.le_refl _, S2, ⟨I.out.1, Or.inr (by rw [← HY.out]; exact HD.out)⟩⟩
    · have hltz : ¬ (i : Int) < (j : Int) := by omega
      obtain rfl : j = i := by omega
      -- the place is found: v = v1 ++ v2
      have hfin : Srt (ltOf cf) (v.take (j - m) ++ x :: v.drop (j - m)) ∧ Stab (ltOf cf) (x :: v) (v.take (j - m) ++ x :: v.drop (j - m)) := by
        have hvv := HSV.out
        rw [← List.take_append_drop (j - m) v] at hvv
        have h1 : ∀ y ∈ v.take (j - m), ltOf cf y x = true := by
          have := below_all HS.out (y1 := v.take (j - m)) (x2 := [x]) hvv.left (Srt.one x) (by
            rcases Nat.eq_or_lt_of_le hmi with e | e
            · left; rw [← e]; simp
            · right; right
              have hl2 : j - 1 - m < v.length := by have := HV.out; omega
              refine ⟨v.take (j - 1 - m), v[j - 1 - m], x, [], ?_, rfl, ?_⟩
              · rw [show j - m = (j - 1 - m) + 1 by omega, List.take_succ_eq_append_getElem hl2]
              · rcases I.out.1 with e2 | e2
                · omega
                · rw [show j - 1 = m + (j - 1 - m) by omega, GV.out _ hl2] at e2
                  exact e2)
          exact fun y hy => this y hy x (by simp)
        have h2 : ∀ y ∈ v.drop (j - m), ltOf cf y x = false := by
          have := upon_all HS.out (x1 := [x]) (y2 := v.drop (j - m)) (Srt.one x) hvv.right (by
            rcases Nat.eq_or_lt_of_le hjb with e | e
            · right; left; rw [List.drop_of_length_le (by have := HV.out; omega)]
            · right; right
              have hl2 : j - m < v.length := by have := HV.out; omega
              refine ⟨[], x, v[j - m], v.drop (j - m + 1), rfl, drop_cons hl2, ?_⟩
              rcases I.out.2 with e2 | e2
              · omega
              · have e3 := GV.out _ hl2
                rw [show m + (j - m) = j by omega] at e3
                rw [e3] at e2
                exact e2)
          exact this x (by simp)
        have := put_left HS.out hvv h1 h2
        rwa [List.take_append_drop] at this
      have FIN := hide hfin
      clear hfin
      have S2 : Aside (SWK enc k w0 blk off (p ++ [x] ++ v ++ s).toArray wr) := by rw [DK.out]; exact S1
      clear S1 I GV GX
      go_wp2_with fail
      go_loopg [13] (j - m) (fun kx s13 wr => ∃ (q t : Nat), s13 = .int .i64 (q : Int) ∧ Hid (q = a + t) ∧ t ≤ j - m ∧ (j - m) - t ≤ kx ∧ Aside (SWK enc k w0 blk off (p ++ v.take t ++ x :: (v.drop t ++ s)).toArray wr))
      case atStart => exact ⟨a, 0, rfl, rfl, Nat.zero_le _, Nat.le_refl _, by rw [show p ++ v.take 0 ++ x :: (v.drop 0 ++ s) = p ++ [x] ++ v ++ s by simp]; exact S2⟩
      case round =>
        clear S2
        obtain ⟨q, t, rfl, HQ, htj, hkx2, S3⟩ := hrel
        by_cases hlt2 : t < j - m
        · have htz : (q : Int) < (j : Int) - 1 := by have := HQ.out; omega
          have htv : t < v.length := by have := HV.out; omega
          have E1 := hide (show p ++ v.take t ++ x :: (v.drop t ++ s) = (p ++ v.take t) ++ x :: ([] ++ v[t] :: (v.drop (t + 1) ++ s)) by rw [drop_cons htv]; rfl)
          have E2 := hide (show p ++ v.take (t + 1) ++ x :: (v.drop (t + 1) ++ s) = (p ++ v.take t) ++ v[t] :: ([] ++ x :: (v.drop (t + 1) ++ s)) by
            rw [List.take_succ_eq_append_getElem htv]; simp only [List.append_assoc, List.cons_append, List.nil_append])
          have P1 := hide (show q = (p ++ v.take t).length by have := HA.out; have := HQ.out; rw [List.length_append, List.length_take]; omega)
          have hsw := swp_mid (p ++ v.take t) [] (v.drop (t + 1) ++ s) x v[t] q (q + 1) P1.out (by have := P1.out; simp only [List.length_nil]; omega)
          rw [← E2.out, ← E1.out] at hsw
          have SZ := hide (show (p ++ v.take t ++ x :: (v.drop t ++ s)).toArray.size = d0.size by
            have := HL.out; simp only [List.size_toArray, List.length_append, List.length_take, List.length_drop, List.length_cons, List.length_nil] at this ⊢; omega)
          generalize (p ++ v.take t ++ x :: (v.drop t ++ s)).toArray = dq at S3 SZ hsw
          have LT := hide (show q < d0.size ∧ q + 1 < d0.size by have := HN.out; have := HQ.out; omega)
          have S4 : Aside (SWK enc k w0 blk off (swp dq q (q + 1)) ((wr.drew.setCells blk (off + q * k) (enc dq[q + 1]!)).setCells blk (off + (q + 1) * k) (enc dq[q]!))) := S3.out.swapped R q (q + 1) (by rw [SZ.out]; exact LT.out.1) (by rw [SZ.out]; exact LT.out.2)
          have la := S3.out.ld1 R SZ.out P q (by rw [SZ.out]; exact LT.out.1)
          have lb := S3.out.ld1 R SZ.out P (q + 1) (by rw [SZ.out]; exact LT.out.2)
          have sa := S3.out.st1 R SZ.out P q (by rw [SZ.out]; exact LT.out.1) dq[q + 1]!
          have sb := S3.out.st2 R SZ.out P q (q + 1) (by rw [SZ.out]; exact LT.out.1) (by rw [SZ.out]; exact LT.out.2) dq[q + 1]! dq[q]!
          have na : (enc dq[q]!).length = k := R.hk _
          have nb : (enc dq[q + 1]!).length = k := R.hk _
          have pa : (0 : Int) ≤ (q : Int) := by omega
          have ba : (q : Int) < (n : Int) := by have := LT.out; have := HN.out; omega
          have ec : ((q : Int) + 1).toNat = q + 1 := by omega
          have pc : (0 : Int) ≤ (q : Int) + 1 := by omega
          have bc : (q : Int) + 1 < (n : Int) := by have := LT.out; have := HN.out; omega
          have rc : IntKind.i64.wrap ((q : Int) + 1) = (q : Int) + 1 := by rw [IntKind.wrap_i64]; omega
          rw [hsw] at S4
          clear hsw
          generalize enc dq[q]! = cI at S4 la sb na
          generalize enc dq[q + 1]! = cJ at S4 lb sa sb nb
          clear S3 SZ
          go_wp2_with fail
          go_big_region_o
          clear la lb sa sb
          generalize (wr.drew.setCells blk (off + q * k) cJ).setCells blk (off + (q + 1) * k) cI = w2 at S4 ⊢
          go_wp2
          go_roundg (j - m - (t + 1))
          case measure => omega
          case rel => exact ⟨q + 1, t + 1, by go_num, (by rw [HQ.out]; rfl : q + 1 = a + (t + 1)), by omega, Nat.le_refl _, S4⟩
        · have htz : ¬ (q : Int) < (j : Int) - 1 := by have := HQ.out; omega
          obtain rfl : t = j - m := by omega
          go_wp2
          (try simp only [Exit.inBlock, Exit.then]); refine bodyPost_ret (results_none rfl _ _ _) rfl ?_
          refine ⟨rfl, v.take (j - m) ++ x :: v.drop (j - m), ?_, FIN.out.1, FIN.out.2, ?_⟩
          · simp only [List.length_append, List.length_take, List.length_drop, List.length_cons, List.length_nil]; omega
          · rw [show p ++ (v.take (j - m) ++ x :: v.drop (j - m)) ++ s = p ++ v.take (j - m) ++ x :: (v.drop (j - m) ++ s) by simp]
            exact S3.out

set_option maxHeartbeats 4000000 in
set_option maxRecDepth 1000000 in
theorem symRight_any (L : Bears P k) (enc : α → List Value) (cf : α → α → Int) (hS : SWO (ltOf cf)) (g : Nat) (cb : Array Value) (blk off cap : Nat) (w0 : World) (d0 : Array α) (R : Go.Proofs.RowK enc k w0 blk off d0) (hsz : d0.size < 4611686018427387904)
    (eg : ∀ args w, (callFunc g args).run P w = .ok (.enter g args) w) (hcmp : CmpLays P g cb enc k cf blk off d0.size w0)
    (p u s : List α) (y : α) (n a m b : Nat) (w : World) (hn : n = d0.size) (hl : (p ++ u ++ [y] ++ s).length = d0.size) (ha : a = p.length) (hm : m = p.length + u.length) (hb : b = p.length + u.length + 1) (hu : 1 < u.length)
    (hsu : Srt (ltOf cf) u) (S : SWK enc k w0 blk off (p ++ u ++ [y] ++ s).toArray w) :
    Calls P 33 #[.slice (some ⟨blk, off, none⟩) n cap, .int .i64 (a : Int), .int .i64 (m : Int), .int .i64 (b : Int), .func (.func g) #[] cb] w fun e w' => e = .returned (.tuple #[]) ∧ Merged enc k cf w0 blk off p u [y] s w' := by
  have mixed := L.mixed; have t0 := L.t0; have a0 := L.a0; have z0 := L.z0; have v0 := L.v0; have t3 := L.t3; have a3 := L.a3; have z3 := L.z3; have v3 := L.v3; have t4 := L.t4; have a4 := L.a4; have z4 := L.z4; have v4 := L.v4; have t22 := L.t22; have a22 := L.a22; have z22 := L.z22; have v22 := L.v22; have t25 := L.t25; have a25 := L.a25; have z25 := L.z25; have v25 := L.v25; have aE := L.aE; have zE := L.zE; have t54 := L.t54; have a54 := L.a54; have z54 := L.z54
  have u3 := run_underlying L.t3; have u4 := run_underlying L.t4; have u54 := run_underlying L.t54
  have FG := L.fSym
  have hlen : p.length + u.length + 1 + s.length = d0.size := by simp only [List.length_append, List.length_cons, List.length_nil] at hl; omega
  have S0 : Aside (SWK enc k w0 blk off (p ++ u ++ [y] ++ s).toArray w) := S
  have HC : Aside _ := hcmp
  have HSU := hide hsu
  have HS : Aside _ := hS
  have hbn : b ≤ n := by omega
  have hmb : m < b := by omega
  have ham : a < m := by omega
  have hnn : n < 4611686018427387904 := by omega
  have HN := hide hn
  have HA := hide ha
  have HU := hide (show u.length = m - a by omega)
  have HL := hide hl
  have HBM := hide (show b = m + 1 by omega)
  have hone : ((m : Int) - (a : Int) == 1) = false := by rw [beq_eq_false_iff_ne]; omega
  have hone2 : (b : Int) - (m : Int) = 1 := by omega
  clear S hl hlen ha hm hb hu hn hsu hcmp hS
  obtain ⟨dk, hdk⟩ : ∃ dk, (p ++ u ++ [y] ++ s).toArray = dk := ⟨_, rfl⟩
  have DK := hide hdk
  have DS := hide (show dk.size = d0.size by rw [← hdk]; simpa using HL.out)
  rw [hdk] at S0
  clear hdk
  have GX := hide (show dk[m]! = y by rw [← DK.out]; have := arr_mid (p ++ u) y s m (by have := HA.out; have := HU.out; simp; omega); simpa using this)
  have GU : Hid (∀ t (h : t < u.length), dk[a + t]! = u[t]) := by
    intro t h
    rw [← DK.out]
    have := arr_mid (p ++ u.take t) u[t] (u.drop (t + 1) ++ [y] ++ s) (a + t) (by have := HA.out; simp; omega)
    rw [← this]
    congr 2
    rw [show u[t] :: (u.drop (t + 1) ++ [y] ++ s) = (u[t] :: u.drop (t + 1)) ++ [y] ++ s by rfl, ← drop_cons h]
    conv => lhs; rw [← List.take_append_drop t u]
    simp only [List.append_assoc]
  go_enter FG, Try.ntmps33
  go_wp2
  go_loopg [14, 15] (m - a) (fun kx s10 s11 wr => ∃ (i j : Nat), s10 = .int .i64 (i : Int) ∧ s11 = .int .i64 (j : Int) ∧ a ≤ i ∧ i ≤ j ∧ j ≤ m ∧ j - i ≤ kx ∧ Aside (SWK enc k w0 blk off dk wr) ∧
      Hid ((i = a ∨ ltOf cf y dk[i - 1]! = false) ∧ (j = m ∨ ltOf cf y dk[j]! = true)))
  case atStart => exact ⟨a, m, rfl, rfl, Nat.le_refl _, by omega, Nat.le_refl _, Nat.le_refl _, S0, ⟨Or.inl rfl, Or.inl rfl⟩⟩
  case round =>
    clear S0
    obtain ⟨i, j, rfl, rfl, hmi, hij, hjb, hkx, S1, I⟩ := hrel
    by_cases hlt : i < j
    · have hltz : (i : Int) < (j : Int) := by omega
      have h2 : ((i : Int) + (j : Int)) / 2 = (((i + j) / 2 : Nat) : Int) := by omega
      obtain ⟨h, hh⟩ : ∃ h, h = (i + j) / 2 := ⟨_, rfl⟩
      have hih : i ≤ h := by omega
      have hhj : h < j := by omega
      rw [← hh] at h2
      clear hh
      have ba : (h : Int) < (n : Int) := by omega
      have bc : (m : Int) < (n : Int) := by omega
      have rh : IntKind.i64.wrap ((h : Int) + 1) = (h : Int) + 1 := by rw [IntKind.wrap_i64]; omega
      obtain ⟨x, hx⟩ : ∃ x, x = dk[h]! := ⟨_, rfl⟩
      have la := S1.out.ld R DS.out P m (by rw [DS.out, ← HN.out]; omega)
      have lb := S1.out.ld R DS.out P h (by rw [DS.out, ← HN.out]; omega)
      rw [← hx] at lb
      rw [GX.out] at la
      have hc := S1.out.cmp HC.out DS.out y x
      have HX := hide hx
      clear hx
      by_cases hv : cf y x < 0
      · have hd : decide (cf y x < 0) = true := decide_eq_true hv
        have HD := hide hd
        go_wp2_with fail
        go_quiet_grown (first | (go_at_fn g; refine Calls.grown_of (hc _ _)))
        have S2 : Aside (SWK enc k w0 blk off dk (grow (wr.drewN nq) osq)) := S1.out.grown nq osq
        clear la lb hc S1
        generalize grow (wr.drewN nq) osq = w2 at S2 ⊢
        clear nq osq
        go_wp2
        go_roundg (h - i)
        case measure => omega
        case rel => exact ⟨i, h, rfl, rfl, hmi, hih, by omega, Nat.le_refl _, S2, ⟨I.out.1, Or.inr (by rw [← HX.out]; exact HD.out)⟩⟩
      · have hd : decide (cf y x < 0) = false := decide_eq_false hv
        have HD := hide hd
        go_wp2_with fail
        go_quiet_grown (first | (go_at_fn g; refine Calls.grown_of (hc _ _)))
        have S2 : Aside (SWK enc k w0 blk off dk (grow (wr.drewN nq) osq)) := S1.out.grown nq osq
        clear la lb hc S1
        generalize grow (wr.drewN nq) osq = w2 at S2 ⊢
        clear nq osq
        go_wp2
        go_roundg (j - (h + 1))
        case measure => omega
        case rel => exact ⟨h + 1, j, by go_num, rfl, by omega, by omega, hjb, Nat.le_refl _, S2, ⟨Or.inr (by rw [Nat.add_sub_cancel, ← HX.out]; exact HD.out), I.out.2⟩⟩
    · have hltz : ¬ (i : Int) < (j : Int) := by omega
      obtain rfl : j = i := by omega
      have hfin : Srt (ltOf cf) (u.take (j - a) ++ y :: u.drop (j - a)) ∧ Stab (ltOf cf) (u ++ [y]) (u.take (j - a) ++ y :: u.drop (j - a)) := by
        have huu := HSU.out
        rw [← List.take_append_drop (j - a) u] at huu
        have h1 : ∀ x ∈ u.take (j - a), ltOf cf y x = false := by
          have := upon_all HS.out (x1 := u.take (j - a)) (y2 := [y]) huu.left (Srt.one y) (by
            rcases Nat.eq_or_lt_of_le hmi with e | e
            · left; rw [← e]; simp
            · right; right
              have hl2 : j - 1 - a < u.length := by have := HU.out; omega
              refine ⟨u.take (j - 1 - a), u[j - 1 - a], y, [], ?_, rfl, ?_⟩
              · rw [show j - a = (j - 1 - a) + 1 by omega, List.take_succ_eq_append_getElem hl2]
              · rcases I.out.1 with e2 | e2
                · omega
                · rw [show j - 1 = a + (j - 1 - a) by omega, GU.out _ hl2] at e2
                  exact e2)
          exact fun x hx => this x hx y (by simp)
        have h2 : ∀ x ∈ u.drop (j - a), ltOf cf y x = true := by
          have := below_all HS.out (y1 := [y]) (x2 := u.drop (j - a)) (Srt.one y) huu.right (by
            rcases Nat.eq_or_lt_of_le hjb with e | e
            · right; left; rw [List.drop_of_length_le (by have := HU.out; omega)]
            · right; right
              have hl2 : j - a < u.length := by have := HU.out; omega
              refine ⟨[], y, u[j - a], u.drop (j - a + 1), rfl, drop_cons hl2, ?_⟩
              rcases I.out.2 with e2 | e2
              · omega
              · have e3 := GU.out _ hl2
                rw [show a + (j - a) = j by omega] at e3
                rw [e3] at e2
                exact e2)
          exact this y (by simp)
        have := put_right HS.out huu h1 h2
        rwa [List.take_append_drop] at this
      have FIN := hide hfin
      clear hfin
      have S2 : Aside (SWK enc k w0 blk off (p ++ u ++ [y] ++ s).toArray wr) := by rw [DK.out]; exact S1
      clear S1 I GU GX
      go_wp2_with fail
      go_loopg [17] (m - j) (fun kx s13 wr => ∃ (q t : Nat), s13 = .int .i64 (q : Int) ∧ Hid (q = a + t) ∧ j ≤ q ∧ q ≤ m ∧ q - j ≤ kx ∧ Aside (SWK enc k w0 blk off (p ++ u.take t ++ y :: (u.drop t ++ s)).toArray wr))
      case atStart =>
        have e := HU.out
        exact ⟨m, m - a, rfl, (by omega : m = a + (m - a)), hjb, Nat.le_refl _, Nat.le_refl _, by
          rw [show p ++ u.take (m - a) ++ y :: (u.drop (m - a) ++ s) = p ++ u ++ [y] ++ s by rw [← e, List.take_length, List.drop_length]; simp]; exact S2⟩
      case round =>
        clear S2
        obtain ⟨q, t, rfl, HQ, hjq, hqm, hkx2, S3⟩ := hrel
        by_cases hlt2 : j < q
        · have htz : (j : Int) < (q : Int) := by omega
          obtain ⟨t, rfl⟩ : ∃ t', t = t' + 1 := ⟨t - 1, by have := HQ.out; omega⟩
          have htv : t < u.length := by have := HU.out; have := HQ.out; omega
          obtain ⟨q, rfl⟩ : ∃ q', q = q' + 1 := ⟨q - 1, by omega⟩
          have E1 := hide (show p ++ u.take (t + 1) ++ y :: (u.drop (t + 1) ++ s) = (p ++ u.take t) ++ u[t] :: ([] ++ y :: (u.drop (t + 1) ++ s)) by
            rw [List.take_succ_eq_append_getElem htv]; simp only [List.append_assoc, List.cons_append, List.nil_append])
          have E2 := hide (show p ++ u.take t ++ y :: (u.drop t ++ s) = (p ++ u.take t) ++ y :: ([] ++ u[t] :: (u.drop (t + 1) ++ s)) by rw [drop_cons htv]; rfl)
          have P1 := hide (show q = (p ++ u.take t).length by have := HA.out; have := HQ.out; rw [List.length_append, List.length_take]; omega)
          have hsw := swp_mid' (p ++ u.take t) [] (u.drop (t + 1) ++ s) u[t] y (q + 1) q P1.out (by have := P1.out; simp only [List.length_nil]; omega)
          rw [← E2.out, ← E1.out] at hsw
          have SZ := hide (show (p ++ u.take (t + 1) ++ y :: (u.drop (t + 1) ++ s)).toArray.size = d0.size by
            have := HL.out; simp only [List.size_toArray, List.length_append, List.length_take, List.length_drop, List.length_cons, List.length_nil] at this ⊢; omega)
          generalize (p ++ u.take (t + 1) ++ y :: (u.drop (t + 1) ++ s)).toArray = dq at S3 SZ hsw
          have LT := hide (show q < d0.size ∧ q + 1 < d0.size by have := HN.out; have := HQ.out; omega)
          have S4 : Aside (SWK enc k w0 blk off (swp dq (q + 1) q) ((wr.drew.setCells blk (off + (q + 1) * k) (enc dq[q]!)).setCells blk (off + q * k) (enc dq[q + 1]!))) := S3.out.swapped R (q + 1) q (by rw [SZ.out]; exact LT.out.2) (by rw [SZ.out]; exact LT.out.1)
          have la := S3.out.ld1 R SZ.out P (q + 1) (by rw [SZ.out]; exact LT.out.2)
          have lb := S3.out.ld1 R SZ.out P q (by rw [SZ.out]; exact LT.out.1)
          have sa := S3.out.st1 R SZ.out P (q + 1) (by rw [SZ.out]; exact LT.out.2) dq[q]!
          have sb := S3.out.st2 R SZ.out P (q + 1) q (by rw [SZ.out]; exact LT.out.2) (by rw [SZ.out]; exact LT.out.1) dq[q]! dq[q + 1]!
          have na : (enc dq[q + 1]!).length = k := R.hk _
          have nb : (enc dq[q]!).length = k := R.hk _
          have pa : (0 : Int) ≤ (q : Int) := by omega
          have ba : (q : Int) < (n : Int) := by have := LT.out; have := HN.out; omega
          have ec : ((q : Int) + 1).toNat = q + 1 := by omega
          have pc : (0 : Int) ≤ (q : Int) + 1 := by omega
          have bc : (q : Int) + 1 < (n : Int) := by have := LT.out; have := HN.out; omega
          have rc : IntKind.i64.wrap (q : Int) = (q : Int) := by rw [IntKind.wrap_i64]; omega
          rw [hsw] at S4
          clear hsw
          generalize enc dq[q + 1]! = cI at S4 la sb na
          generalize enc dq[q]! = cJ at S4 lb sa sb nb
          clear S3 SZ
          go_wp2_with fail
          go_big_region_o
          clear la lb sa sb
          generalize (wr.drew.setCells blk (off + (q + 1) * k) cJ).setCells blk (off + q * k) cI = w2 at S4 ⊢
          go_wp2
          go_roundg (q - j)
          case measure => omega
          case rel => exact ⟨q, t, by first | rfl | go_num, (by have := HQ.out; omega : q = a + t), by omega, by omega, Nat.le_refl _, S4⟩
        · have htz : ¬ (j : Int) < (q : Int) := by omega
          obtain rfl : q = j := by omega
          go_wp2
          (try simp only [Exit.inBlock, Exit.then]); refine bodyPost_ret (results_none rfl _ _ _) rfl ?_
          refine ⟨rfl, u.take (q - a) ++ y :: u.drop (q - a), ?_, FIN.out.1, FIN.out.2, ?_⟩
          · simp only [List.length_append, List.length_take, List.length_drop, List.length_cons, List.length_nil]; omega
          · rw [show p ++ (u.take (q - a) ++ y :: u.drop (q - a)) ++ s = p ++ u.take t ++ y :: (u.drop t ++ s) by rw [show q - a = t by have := HQ.out; omega]; simp]
            exact S3.out
end
end Go.Proofs.Ytfidglkhpikdbaa
