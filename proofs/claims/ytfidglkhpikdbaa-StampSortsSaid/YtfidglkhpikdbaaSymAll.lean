/-
  The library's symMerge.
-/
import Derived.Test.YtfidglkhpikdbaaSymOne
import Derived.Deep.Cut
namespace Go.Proofs.Ytfidglkhpikdbaa
open Go.Shelf Go.RowKit Go.Lib
open Go.Sort (SWO swp size_swp grow)
set_option linter.unusedVariables false

section
variable {P : Program} {α : Type} [Inhabited α] {k : Nat}

set_option maxHeartbeats 8000000 in
set_option maxRecDepth 1000000 in
theorem symBoth_any (L : Bears P k) (enc : α → List Value) (cf : α → α → Int) (hS : SWO (ltOf cf)) (g : Nat) (cb : Array Value) (blk off cap : Nat) (w0 : World) (d0 : Array α) (R : Go.Proofs.RowK enc k w0 blk off d0) (hsz : d0.size < 4611686018427387904)
    (eg : ∀ args w, (callFunc g args).run P w = .ok (.enter g args) w) (hcmp : CmpLays P g cb enc k cf blk off d0.size w0) (n : Nat) (hn : n = d0.size) (B : Nat)
    (ih : ∀ (p u v s : List α) (a m b : Nat) (w : World), u.length + v.length < B → (p ++ u ++ v ++ s).length = d0.size → a = p.length → m = p.length + u.length → b = p.length + u.length + v.length → 0 < u.length → 0 < v.length →
      Srt (ltOf cf) u → Srt (ltOf cf) v → SWK enc k w0 blk off (p ++ u ++ v ++ s).toArray w →
      Calls P 33 #[.slice (some ⟨blk, off, none⟩) n cap, .int .i64 (a : Int), .int .i64 (m : Int), .int .i64 (b : Int), .func (.func g) #[] cb] w fun e w' => e = .returned (.tuple #[]) ∧ Merged enc k cf w0 blk off p u v s w')
    (p u v s : List α) (a m b : Nat) (w : World) (hB : u.length + v.length = B) (hl : (p ++ u ++ v ++ s).length = d0.size) (ha : a = p.length) (hm : m = p.length + u.length) (hb : b = p.length + u.length + v.length) (hu : 1 < u.length) (hv : 1 < v.length)
    (hsu : Srt (ltOf cf) u) (hsv : Srt (ltOf cf) v) (S : SWK enc k w0 blk off (p ++ u ++ v ++ s).toArray w) :
    Calls P 33 #[.slice (some ⟨blk, off, none⟩) n cap, .int .i64 (a : Int), .int .i64 (m : Int), .int .i64 (b : Int), .func (.func g) #[] cb] w fun e w' => e = .returned (.tuple #[]) ∧ Merged enc k cf w0 blk off p u v s w' := by
  have mixed := L.mixed; have t0 := L.t0; have a0 := L.a0; have z0 := L.z0; have v0 := L.v0; have t3 := L.t3; have a3 := L.a3; have z3 := L.z3; have v3 := L.v3; have t4 := L.t4; have a4 := L.a4; have z4 := L.z4; have v4 := L.v4; have t22 := L.t22; have a22 := L.a22; have z22 := L.z22; have v22 := L.v22; have t25 := L.t25; have a25 := L.a25; have z25 := L.z25; have v25 := L.v25; have aE := L.aE; have zE := L.zE; have t54 := L.t54; have a54 := L.a54; have z54 := L.z54
  have u3 := run_underlying L.t3; have u4 := run_underlying L.t4; have u54 := run_underlying L.t54
  have FG := L.fSym
  have e34 : ∀ args w, (callFunc 34 args).run P w = .ok (.enter 34 args) w := enters_of L.fRot (by kernel_rfl) rfl
  have e33 : ∀ args w, (callFunc 33 args).run P w = .ok (.enter 33 args) w := enters_of L.fSym (by kernel_rfl) rfl
  have hlen : p.length + u.length + v.length + s.length = d0.size := by simp only [List.length_append] at hl; omega
  have S0 : Aside (SWK enc k w0 blk off (p ++ u ++ v ++ s).toArray w) := S
  have HC : Aside _ := hcmp
  have IH : Aside _ := ih
  have HSU := hide hsu
  have HSV := hide hsv
  have HS : Aside _ := hS
  have hbn : b ≤ n := by omega
  have hmb : m + 1 < b := by omega
  have ham : a + 1 < m := by omega
  have hnn : n < 4611686018427387904 := by omega
  have HN := hide hn
  have HA := hide ha
  have HB := hide hB
  have HU := hide (show u.length = m - a ∧ v.length = b - m by omega)
  have HL := hide hl
  have hone : ((m : Int) - (a : Int) == 1) = false := by rw [beq_eq_false_iff_ne]; omega
  have hone2 : ((b : Int) - (m : Int) == 1) = false := by rw [beq_eq_false_iff_ne]; omega
  clear S hl hlen ha hm hb hu hv hn hsu hsv hcmp hS ih hB
  obtain ⟨dk, hdk⟩ : ∃ dk, (p ++ u ++ v ++ s).toArray = dk := ⟨_, rfl⟩
  have DK := hide hdk
  have DS := hide (show dk.size = d0.size by rw [← hdk]; simpa using HL.out)
  rw [hdk] at S0
  clear hdk
  have GU : Hid (∀ t (h : t < u.length), dk[a + t]! = u[t]) := by
    intro t h
    rw [← DK.out]
    have := arr_mid (p ++ u.take t) u[t] (u.drop (t + 1) ++ v ++ s) (a + t) (by have := HA.out; simp; omega)
    rw [← this]
    congr 2
    rw [show u[t] :: (u.drop (t + 1) ++ v ++ s) = (u[t] :: u.drop (t + 1)) ++ v ++ s by rfl, ← drop_cons h]
    conv => lhs; rw [← List.take_append_drop t u]
    simp only [List.append_assoc]
  have GV : Hid (∀ t (h : t < v.length), dk[m + t]! = v[t]) := by
    intro t h
    rw [← DK.out]
    have := arr_mid (p ++ u ++ v.take t) v[t] (v.drop (t + 1) ++ s) (m + t) (by have := HA.out; have := HU.out; simp; omega)
    rw [← this]
    congr 2
    rw [show v[t] :: (v.drop (t + 1) ++ s) = (v[t] :: v.drop (t + 1)) ++ s by rfl, ← drop_cons h]
    conv => lhs; rw [← List.take_append_drop t v]
    simp only [List.append_assoc]
  -- the middle, and the bounds of the search
  obtain ⟨M, hM⟩ : ∃ M, M = (a + b) / 2 := ⟨_, rfl⟩
  have hM2 : ((a : Int) + (b : Int)) / 2 = (M : Int) := by omega
  obtain ⟨lo, hlo⟩ : ∃ lo, lo = if M < m then M + m - b else a := ⟨_, rfl⟩
  obtain ⟨hi, hhi⟩ : ∃ hi, hi = if M < m then M else m := ⟨_, rfl⟩
  have HBND := hide (show a ≤ lo ∧ lo ≤ hi ∧ hi ≤ m ∧ hi ≤ M ∧ M + m ≤ lo + b ∧ M < b ∧ a < M ∧ (lo = a ∨ lo + b = M + m) ∧ (hi = m ∨ hi = M) by
    by_cases h : M < m
    · rw [if_pos h] at hlo hhi; omega
    · rw [if_neg h] at hlo hhi; omega)
  have HLO := hide hlo
  have HHI := hide hhi
  clear hM hlo hhi
  have hMb : M < b := by have := HBND.out; omega
  have hMa : a < M := by have := HBND.out; omega
  go_enter FG, Try.ntmps33
  go_upto_if 140 with fail
  go_cut [20, 21] from 25 (fun s20 s21 wc => s20 = .int .i64 (lo : Int) ∧ s21 = .int .i64 (hi : Int) ∧ wc = w)
  case first => as_aux_lemma =>
    by_cases h : M < m
    · have hz : (M : Int) < (m : Int) := by omega
      go_wp2_with fail
      go_meet
      case rel =>
        have e1 := HLO.out
        have e2 := HHI.out
        have := HBND.out
        rw [if_pos h] at e1 e2
        exact ⟨by congr 1; omega, by congr 1; omega, rfl⟩
    · have hz : ¬ (M : Int) < (m : Int) := by omega
      go_wp2_with fail
      go_meet
      case rel =>
        have e1 := HLO.out
        have e2 := HHI.out
        rw [if_neg h] at e1 e2
        exact ⟨by congr 1; omega, by congr 1; omega, rfl⟩
  case rest =>
    obtain ⟨rfl, rfl, rfl⟩ := hcut
    go_wp2_with fail
    go_loopg [20, 21] (hi - lo) (fun kx s20 s21 wr => ∃ (i j : Nat), s20 = .int .i64 (i : Int) ∧ s21 = .int .i64 (j : Int) ∧ lo ≤ i ∧ i ≤ j ∧ j ≤ hi ∧ j - i ≤ kx ∧ Aside (SWK enc k w0 blk off dk wr) ∧
      Hid ((i = lo ∨ ltOf cf dk[M + m - i]! dk[i - 1]! = false) ∧ (j = hi ∨ ltOf cf dk[M + m - 1 - j]! dk[j]! = true)))
    case atStart => exact ⟨lo, hi, rfl, rfl, Nat.le_refl _, HBND.out.2.1, Nat.le_refl _, Nat.le_refl _, S0, ⟨Or.inl rfl, Or.inl rfl⟩⟩
    case round =>
      clear S0
      obtain ⟨i, j, rfl, rfl, hmi, hij, hjb, hkx, S1, I⟩ := hrel
      by_cases hlt : i < j
      · have hltz : (i : Int) < (j : Int) := by omega
        have h2 : ((i : Int) + (j : Int)) / 2 = (((i + j) / 2 : Nat) : Int) := by omega
        obtain ⟨h, hh⟩ : ∃ h, h = (i + j) / 2 := ⟨_, rfl⟩
        have hih : i ≤ h := by omega
        have hhj : h < j := by omega
        rw [← hh] at h2
        clear hh
        have BH := hide (show h < m ∧ h < M ∧ M + m - 1 - h < n ∧ h < n by have := HBND.out; omega)
        have ba : (h : Int) < (n : Int) := by have := BH.out; omega
        have rh : IntKind.i64.wrap ((h : Int) + 1) = (h : Int) + 1 := by have := BH.out; rw [IntKind.wrap_i64]; omega
        have ea : ((M : Int) + (m : Int) - 1 - (h : Int)).toNat = M + m - 1 - h := by have := BH.out; omega
        have pa : (0 : Int) ≤ (M : Int) + (m : Int) - 1 - (h : Int) := by have := BH.out; omega
        have pa2 : (h : Int) ≤ (M : Int) + (m : Int) - 1 := by have := BH.out; omega
        have bc : (M : Int) + (m : Int) - 1 - (h : Int) < (n : Int) := by have := BH.out; omega
        have ra : IntKind.i64.wrap ((M : Int) + (m : Int) - 1 - (h : Int)) = (M : Int) + (m : Int) - 1 - (h : Int) := by have := BH.out; rw [IntKind.wrap_i64]; omega
        obtain ⟨x, hx⟩ : ∃ x, x = dk[h]! := ⟨_, rfl⟩
        obtain ⟨y, hy⟩ : ∃ y, y = dk[M + m - 1 - h]! := ⟨_, rfl⟩
        have la := S1.out.ld R DS.out P (M + m - 1 - h) (by have := BH.out; rw [DS.out, ← HN.out]; omega)
        have lb := S1.out.ld R DS.out P h (by have := BH.out; rw [DS.out, ← HN.out]; omega)
        rw [← hx] at lb
        rw [← hy] at la
        have hc := S1.out.cmp HC.out DS.out y x
        have HX := hide hx
        have HY := hide hy
        clear hx hy
        by_cases hv : cf y x < 0
        · as_aux_lemma =>
            have hd : decide (cf y x < 0) = true := decide_eq_true hv
            have HD := hide hd
            go_wp2_with fail
            go_quiet_grown (first | (go_at_fn g; refine Calls.grown_of (hc _ _)))
            have S2 : Aside (SWK enc k w0 blk off dk (grow (wr.drewN nq) osq)) := S1.out.grown nq osq
            clear la lb hc S1
            generalize grow (wr.drewN nq) osq = w2 at S2 ⊢
            clear nq osq
            go_wp2
            go_roundg (h - i)
            case measure => omega
            case rel => exact ⟨i, h, rfl, rfl, hmi, hih, by omega, Nat.le_refl _, S2, ⟨I.out.1, Or.inr (by rw [← HX.out, ← HY.out]; exact HD.out)⟩⟩
        · as_aux_lemma =>
            have hd : decide (cf y x < 0) = false := decide_eq_false hv
            have HD := hide hd
            go_wp2_with fail
            go_quiet_grown (first | (go_at_fn g; refine Calls.grown_of (hc _ _)))
            have S2 : Aside (SWK enc k w0 blk off dk (grow (wr.drewN nq) osq)) := S1.out.grown nq osq
            clear la lb hc S1
            generalize grow (wr.drewN nq) osq = w2 at S2 ⊢
            clear nq osq
            go_wp2
            go_roundg (j - (h + 1))
            case measure => omega
            case rel => exact ⟨h + 1, j, by go_num, rfl, by omega, by omega, hjb, Nat.le_refl _, S2, ⟨Or.inr (by rw [show M + m - (h + 1) = M + m - 1 - h by omega, Nat.add_sub_cancel, ← HX.out, ← HY.out]; exact HD.out), I.out.2⟩⟩
      · have hltz : ¬ (i : Int) < (j : Int) := by omega
        obtain rfl : j = i := by omega
        -- both parts are cut
        obtain ⟨x1, x2, y1, y2, HX, HY, HLN, H12⟩ : ∃ x1 x2 y1 y2, Hid (u = x1 ++ x2) ∧ Hid (v = y1 ++ y2) ∧ Hid (x1.length = j - a ∧ x2.length = m - j ∧ y1.length = M - j ∧ y2.length = b - (M + m - j)) ∧
            Hid ((∀ x ∈ x1, ∀ y ∈ y2, ltOf cf y x = false) ∧ (∀ y ∈ y1, ∀ x ∈ x2, ltOf cf y x = true)) := by as_aux_lemma =>
          have hb := HBND.out
          have hul := HU.out
          refine ⟨u.take (j - a), u.drop (j - a), v.take (M - j), v.drop (M - j), (List.take_append_drop _ _).symm, (List.take_append_drop _ _).symm, ⟨by rw [List.length_take]; omega, by rw [List.length_drop]; omega, by rw [List.length_take]; omega, by rw [List.length_drop]; omega⟩, ?_, ?_⟩
          · have huu := HSU.out
            have hvv := HSV.out
            rw [← List.take_append_drop (j - a) u] at huu
            rw [← List.take_append_drop (M - j) v] at hvv
            refine upon_all HS.out huu.left hvv.right ?_
            rcases I.out.1 with e | e
            · rcases hb.2.2.2.2.2.2.2.1 with e2 | e2
              · left; rw [show j - a = 0 by omega]; rfl
              · right; left; rw [List.drop_of_length_le (by omega)]
            · rcases Nat.eq_or_lt_of_le (show a ≤ j by omega) with e2 | e2
              · left; rw [show j - a = 0 by omega]; rfl
              · rcases Nat.eq_or_lt_of_le (show M - j ≤ v.length by omega) with e3 | e3
                · right; left; rw [List.drop_of_length_le (by omega)]
                · right; right
                  have hl2 : j - 1 - a < u.length := by omega
                  refine ⟨u.take (j - 1 - a), u[j - 1 - a], v[M - j], v.drop (M - j + 1), ?_, drop_cons e3, ?_⟩
                  · rw [show j - a = (j - 1 - a) + 1 by omega, List.take_succ_eq_append_getElem hl2]
                  · rw [show M + m - j = m + (M - j) by omega, GV.out _ e3, show j - 1 = a + (j - 1 - a) by omega, GU.out _ hl2] at e
                    exact e
          · have huu := HSU.out
            have hvv := HSV.out
            rw [← List.take_append_drop (j - a) u] at huu
            rw [← List.take_append_drop (M - j) v] at hvv
            refine below_all HS.out hvv.left huu.right ?_
            rcases I.out.2 with e | e
            · rcases hb.2.2.2.2.2.2.2.2 with e2 | e2
              · right; left; rw [List.drop_of_length_le (by omega)]
              · left; rw [show M - j = 0 by omega]; rfl
            · rcases Nat.eq_or_lt_of_le (show j ≤ M by omega) with e2 | e2
              · left; rw [show M - j = 0 by omega]; rfl
              · rcases Nat.eq_or_lt_of_le (show j - a ≤ u.length by omega) with e3 | e3
                · right; left; rw [List.drop_of_length_le (by omega)]
                · right; right
                  have hl2 : M - j - 1 < v.length := by omega
                  refine ⟨v.take (M - j - 1), v[M - j - 1], u[j - a], u.drop (j - a + 1), ?_, drop_cons e3, ?_⟩
                  · have e4 := List.take_succ_eq_append_getElem hl2
                    rw [show M - j - 1 + 1 = M - j by omega] at e4
                    exact e4
                  · have e4 := GV.out _ hl2
                    have e5 := GU.out _ e3
                    rw [show m + (M - j - 1) = M + m - 1 - j by omega] at e4
                    rw [show a + (j - a) = j by omega] at e5
                    rw [e4, e5] at e
                    exact e
        have S2 : Aside (SWK enc k w0 blk off (p ++ x1 ++ x2 ++ y1 ++ (y2 ++ s)).toArray wr) := by
          have := S1.out
          rw [← DK.out, HX.out, HY.out] at this
          rw [show p ++ x1 ++ x2 ++ y1 ++ (y2 ++ s) = p ++ (x1 ++ x2) ++ (y1 ++ y2) ++ s by simp]
          exact this
        have HT := hide (show (p ++ x1 ++ x2 ++ y1 ++ (y2 ++ s)).length = d0.size by
          have := HL.out
          rw [HX.out, HY.out] at this
          simp only [List.length_append] at this ⊢
          omega)
        have hje : (j : Int) ≤ (M : Int) := by have := HBND.out; omega
        clear S1 I GU GV
        have ee : (((M + m - j : Nat) : Nat) : Int) = (M : Int) + (m : Int) - (j : Int) := by have := HBND.out; omega
        -- the rotation
        go_upto_region 39 with fail
        go_cut [185] from 25 (fun s185 wx => s185 = .bool (decide (j < m) && decide (j < M)) ∧ wx = wr)
        case first => as_aux_lemma =>
          by_cases h1 : j < m
          · have h1z : (j : Int) < (m : Int) := by omega
            by_cases h2 : j < M
            · have h2z : (m : Int) < (M : Int) + (m : Int) - (j : Int) := by omega
              go_wp2_with fail
              go_meet
              case rel => exact ⟨by simp [h1, h2], rfl⟩
            · have h2z : ¬ (m : Int) < (M : Int) + (m : Int) - (j : Int) := by omega
              go_wp2_with fail
              go_meet
              case rel => exact ⟨by simp [h1, h2], rfl⟩
          · have h1z : ¬ (j : Int) < (m : Int) := by omega
            go_wp2_with fail
            go_meet
            case rel => exact ⟨by simp [h1], rfl⟩
        case rest =>
          obtain ⟨rfl, rfl⟩ := hcut
          go_upto_if 185 with fail
          go_cut [] from 25 (fun wx => Aside (SWK enc k w0 blk off (p ++ x1 ++ y1 ++ (x2 ++ y2 ++ s)).toArray wx))
          case first => as_aux_lemma =>
            cases hb : (decide (j < m) && decide (j < M))
            · have E := hide (show p ++ x1 ++ y1 ++ (x2 ++ y2 ++ s) = p ++ x1 ++ x2 ++ y1 ++ (y2 ++ s) by
                have hl := HLN.out
                have hbn := HBND.out
                rcases Bool.and_eq_false_iff.1 hb with q | q
                · have : x2 = [] := List.eq_nil_of_length_eq_zero (by have := of_decide_eq_false q; omega)
                  rw [this]; simp
                · have : y1 = [] := List.eq_nil_of_length_eq_zero (by have := of_decide_eq_false q; omega)
                  rw [this]; simp)
              go_wp2_with fail
              go_meet
              case rel => rw [E.out]; exact S2
            · have hq := Bool.and_eq_true_iff.1 hb
              have q1 := of_decide_eq_true hq.1
              have q2 := of_decide_eq_true hq.2
              have hc := rotate_any L enc g cb blk off cap w0 d0 R hsz (p ++ x1) x2 y1 (y2 ++ s) n j m (M + m - j) wc HN.out (by have := HT.out; simpa using this) (by have := HLN.out; have := HA.out; have := HBND.out; simp; omega) (by have := HLN.out; have := HA.out; have := HBND.out; simp; omega) (by have := HLN.out; have := HA.out; have := HBND.out; simp; omega) (by have := HLN.out; omega) (by have := HLN.out; omega) (by have := S2.out; simpa using this)
              rw [ee] at hc
              clear S2 q1 q2 hq
              go_wp2_with (go_at_call 34; refine hc.mono ?_; rintro e w1 ⟨rfl, hS⟩)
              go_meet
              case rel =>
                rw [show p ++ x1 ++ y1 ++ (x2 ++ y2 ++ s) = (p ++ x1) ++ y1 ++ x2 ++ (y2 ++ s) by simp]
                exact hS
          case rest =>
            clear S2
            have S3 : Aside (SWK enc k w0 blk off (p ++ x1 ++ y1 ++ (x2 ++ y2 ++ s)).toArray wc) := hcut
            clear hcut
            -- the left half
            go_upto_region 41 with fail
            go_cut [199] from 25 (fun s199 wx => s199 = .bool (decide (a < j) && decide (j < M)) ∧ wx = wc)
            case first => as_aux_lemma =>
              by_cases h1 : a < j
              · have h1z : (a : Int) < (j : Int) := by omega
                by_cases h2 : j < M
                · have h2z : (j : Int) < (M : Int) := by omega
                  go_wp2_with fail
                  go_meet
                  case rel => exact ⟨by simp [h1, h2], rfl⟩
                · have h2z : ¬ (j : Int) < (M : Int) := by omega
                  go_wp2_with fail
                  go_meet
                  case rel => exact ⟨by simp [h1, h2], rfl⟩
              · have h1z : ¬ (a : Int) < (j : Int) := by omega
                go_wp2_with fail
                go_meet
                case rel => exact ⟨by simp [h1], rfl⟩
            case rest =>
              obtain ⟨rfl, rfl⟩ := hcut
              go_upto_if 199 with fail
              go_cut [] from 25 (fun wx => ∃ r1, Hid (r1.length = M - a ∧ Srt (ltOf cf) r1 ∧ Stab (ltOf cf) (x1 ++ y1) r1) ∧ Aside (SWK enc k w0 blk off (p ++ r1 ++ x2 ++ y2 ++ s).toArray wx))
              case first => as_aux_lemma =>
                cases hb : (decide (a < j) && decide (j < M))
                · have E := hide (show Srt (ltOf cf) (x1 ++ y1) by
                    have hl := HLN.out
                    have hbn := HBND.out
                    have huu := HSU.out
                    have hvv := HSV.out
                    rw [HX.out] at huu
                    rw [HY.out] at hvv
                    rcases Bool.and_eq_false_iff.1 hb with q | q
                    · have : x1 = [] := List.eq_nil_of_length_eq_zero (by have := of_decide_eq_false q; omega)
                      rw [this]; exact hvv.left
                    · have : y1 = [] := List.eq_nil_of_length_eq_zero (by have := of_decide_eq_false q; omega)
                      rw [this, List.append_nil]; exact huu.left)
                  go_wp2_with fail
                  go_meet
                  case rel =>
                    refine ⟨x1 ++ y1, ⟨?_, E.out, Stab.refl _⟩, ?_⟩
                    · have := HLN.out; have := HBND.out; rw [List.length_append]; omega
                    · rw [show p ++ (x1 ++ y1) ++ x2 ++ y2 ++ s = p ++ x1 ++ y1 ++ (x2 ++ y2 ++ s) by simp]; exact S3
                · have hq := Bool.and_eq_true_iff.1 hb
                  have q1 := of_decide_eq_true hq.1
                  have q2 := of_decide_eq_true hq.2
                  have hc := IH.out p x1 y1 (x2 ++ y2 ++ s) a j M wc (by have := HLN.out; have := HB.out; have := HU.out; have := HBND.out; omega) (by have := HT.out; simp only [List.length_append] at this ⊢; omega) HA.out (by have := HLN.out; have := HA.out; omega) (by have := HLN.out; have := HA.out; have := HBND.out; omega) (by have := HLN.out; omega) (by have := HLN.out; omega)
                    (by have := HSU.out; rw [HX.out] at this; exact this.left) (by have := HSV.out; rw [HY.out] at this; exact this.left) S3.out
                  clear S3 q1 q2 hq
                  go_wp2_with (go_at_call 33; refine hc.mono ?_; rintro e w1 ⟨rfl, hS⟩)
                  go_meet
                  case rel =>
                    obtain ⟨r1, q1, q2, q3, q4⟩ := hS
                    refine ⟨r1, ⟨?_, q2, q3⟩, ?_⟩
                    · have := HLN.out; have := HBND.out; omega
                    · rw [show p ++ r1 ++ x2 ++ y2 ++ s = p ++ r1 ++ (x2 ++ y2 ++ s) by simp]; exact q4
              case rest =>
                clear S3
                obtain ⟨r1, HR, S4⟩ := hcut
                -- the right half
                go_upto_region 43 with fail
                go_cut [213] from 25 (fun s213 wx => s213 = .bool (decide (j < m) && decide (M + m - j < b)) ∧ wx = wc)
                case first => as_aux_lemma =>
                  by_cases h1 : j < m
                  · have h1z : (M : Int) < (M : Int) + (m : Int) - (j : Int) := by omega
                    by_cases h2 : M + m - j < b
                    · have h2z : (M : Int) + (m : Int) - (j : Int) < (b : Int) := by omega
                      go_wp2_with fail
                      go_meet
                      case rel => exact ⟨by simp [h1, h2], rfl⟩
                    · have h2z : ¬ (M : Int) + (m : Int) - (j : Int) < (b : Int) := by omega
                      go_wp2_with fail
                      go_meet
                      case rel => exact ⟨by simp [h1, h2], rfl⟩
                  · have h1z : ¬ (M : Int) < (M : Int) + (m : Int) - (j : Int) := by omega
                    go_wp2_with fail
                    go_meet
                    case rel => exact ⟨by simp [h1], rfl⟩
                case rest =>
                  obtain ⟨rfl, rfl⟩ := hcut
                  have fin : ∀ r2, r2.length = b - M → Srt (ltOf cf) r2 → Stab (ltOf cf) (x2 ++ y2) r2 → ∀ wx, SWK enc k w0 blk off (p ++ r1 ++ r2 ++ s).toArray wx → Merged enc k cf w0 blk off p u v s wx := by
                    intro r2 q1 q2 q3 wx q4
                    have huu := HSU.out
                    have hvv := HSV.out
                    rw [HX.out] at huu
                    rw [HY.out] at hvv
                    obtain ⟨f1, f2⟩ := merge_two HS.out huu hvv H12.out.1 H12.out.2 HR.out.2.1 HR.out.2.2 q2 q3
                    refine ⟨r1 ++ r2, ?_, f1, ?_, ?_⟩
                    · have := HR.out; have := HU.out; have := HBND.out; rw [List.length_append]; omega
                    · rw [HX.out, HY.out]; exact f2
                    · rw [show p ++ (r1 ++ r2) ++ s = p ++ r1 ++ r2 ++ s by simp]; exact q4
                  have FIN : Aside _ := fin
                  clear fin
                  cases hb : (decide (j < m) && decide (M + m - j < b))
                  · have E := hide (show Srt (ltOf cf) (x2 ++ y2) by
                      have hl := HLN.out
                      have hbn := HBND.out
                      have huu := HSU.out
                      have hvv := HSV.out
                      rw [HX.out] at huu
                      rw [HY.out] at hvv
                      rcases Bool.and_eq_false_iff.1 hb with q | q
                      · have : x2 = [] := List.eq_nil_of_length_eq_zero (by have := of_decide_eq_false q; omega)
                        rw [this]; exact hvv.right
                      · have : y2 = [] := List.eq_nil_of_length_eq_zero (by have := of_decide_eq_false q; omega)
                        rw [this, List.append_nil]; exact huu.right)
                    go_wp2_with fail
                    go_end0
                    refine ⟨rfl, FIN.out (x2 ++ y2) ?_ E.out (Stab.refl _) _ ?_⟩
                    · have := HLN.out; have := HBND.out; have := HU.out; rw [List.length_append]; omega
                    · rw [show p ++ r1 ++ (x2 ++ y2) ++ s = p ++ r1 ++ x2 ++ y2 ++ s by simp]; exact S4.out
                  · have hq := Bool.and_eq_true_iff.1 hb
                    have q1 := of_decide_eq_true hq.1
                    have q2 := of_decide_eq_true hq.2
                    have hc := IH.out (p ++ r1) x2 y2 s M (M + m - j) b wc (by have := HLN.out; have := HB.out; have := HU.out; have := HBND.out; omega) (by have := HT.out; have := HR.out; have := HLN.out; have := HBND.out; simp only [List.length_append] at this ⊢; simp only [List.length_append] at *; omega)
                      (by have := HR.out; have := HA.out; have := HBND.out; rw [List.length_append]; omega) (by have := HR.out; have := HLN.out; have := HA.out; have := HBND.out; rw [List.length_append]; omega) (by have := HR.out; have := HLN.out; have := HA.out; have := HBND.out; rw [List.length_append]; omega) (by have := HLN.out; omega) (by have := HLN.out; omega)
                      (by have := HSU.out; rw [HX.out] at this; exact this.right) (by have := HSV.out; rw [HY.out] at this; exact this.right) S4.out
                    rw [ee] at hc
                    clear S4 q1 q2 hq
                    go_wp2_with (go_at_call 33; refine hc.mono ?_; rintro e w1 ⟨rfl, hS⟩)
                    go_end0
                    obtain ⟨r2, q1, q2, q3, q4⟩ := hS
                    refine ⟨rfl, FIN.out r2 ?_ q2 q3 _ q4⟩
                    have := HLN.out; have := HBND.out; have := HU.out; omega

/-- symMerge: two sorted parts side by side become one. -/
theorem symMerge_any (L : Bears P k) (enc : α → List Value) (cf : α → α → Int) (hS : SWO (ltOf cf)) (g : Nat) (cb : Array Value) (blk off cap : Nat) (w0 : World) (d0 : Array α) (R : Go.Proofs.RowK enc k w0 blk off d0) (hsz : d0.size < 4611686018427387904)
    (eg : ∀ args w, (callFunc g args).run P w = .ok (.enter g args) w) (hcmp : CmpLays P g cb enc k cf blk off d0.size w0) (n : Nat) (hn : n = d0.size) : ∀ (B : Nat)
    (p u v s : List α) (a m b : Nat) (w : World), u.length + v.length < B → (p ++ u ++ v ++ s).length = d0.size → a = p.length → m = p.length + u.length → b = p.length + u.length + v.length → 0 < u.length → 0 < v.length →
      Srt (ltOf cf) u → Srt (ltOf cf) v → SWK enc k w0 blk off (p ++ u ++ v ++ s).toArray w →
      Calls P 33 #[.slice (some ⟨blk, off, none⟩) n cap, .int .i64 (a : Int), .int .i64 (m : Int), .int .i64 (b : Int), .func (.func g) #[] cb] w fun e w' => e = .returned (.tuple #[]) ∧ Merged enc k cf w0 blk off p u v s w' := by
  intro B
  induction B with
  | zero => intro p u v s a m b w h; omega
  | succ B ih =>
    intro p u v s a m b w hB hl ha hm hb hu hv hsu hsv S
    by_cases h1 : u.length = 1
    · obtain ⟨x, rfl⟩ := List.length_eq_one_iff.1 h1
      exact symLeft_any L enc cf hS g cb blk off cap w0 d0 R hsz eg hcmp p v s x n a m b w hn hl ha hm hb hv hsv S
    · by_cases h2 : v.length = 1
      · obtain ⟨y, rfl⟩ := List.length_eq_one_iff.1 h2
        exact symRight_any L enc cf hS g cb blk off cap w0 d0 R hsz eg hcmp p u s y n a m b w hn hl ha hm hb (by omega) hsu S
      · exact symBoth_any L enc cf hS g cb blk off cap w0 d0 R hsz eg hcmp n hn (u.length + v.length) (fun p' u' v' s' a' m' b' w' hlt => ih p' u' v' s' a' m' b' w' (by omega)) p u v s a m b w rfl hl ha hm hb (by omega) (by omega) hsu hsv S
end
end Go.Proofs.Ytfidglkhpikdbaa
