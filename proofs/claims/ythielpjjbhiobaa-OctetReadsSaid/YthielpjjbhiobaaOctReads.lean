/-
  The walk of the statement OctetReads: each call answers as of what is left.
-/
import Derived.Test.YthielpjjbhiobaaOctC
import Derived.Deep.QuietTactic
import Derived.BigQuiet
namespace Go.Proofs.Ythielpjjbhiobaa
open Go.RowKit
set_option linter.unusedVariables false

theorem few_short (A : Option Addr) (n c : Nat) (w : World) (h : n ≤ 60) :
    Calls Try.prog 7 #[.slice A n c] w fun e w' => e = .returned (.slice A n c) ∧ w = w' := by
  go_enter Try.func7, Try.ntmps7
  go_wp2
  go_ret
  exact ⟨rfl, rfl⟩
theorem few_long (A : Option Addr) (n c : Nat) (w : World) (h : 60 < n) (hc : n ≤ c) (hc9 : c ≤ 9223372036854775807) :
    Calls Try.prog 7 #[.slice A n c] w fun e w' => e = .returned (.slice A 60 c) ∧ w = w' := by
  have hc0 : ¬ (c = 0) := by omega
  go_enter Try.func7, Try.ntmps7
  go_wp2
  go_ret
  exact ⟨rfl, rfl⟩
theorem few_any (A : Option Addr) (n c : Nat) (w : World) (hc : n ≤ c) (hc9 : c ≤ 9223372036854775807) :
    Calls Try.prog 7 #[.slice A n c] w fun e w' => e = .returned (.slice A (min n 60) c) ∧ w = w' := by
  by_cases h : n ≤ 60
  · rw [Nat.min_eq_left h]; exact few_short A n c w h
  · rw [Nat.min_eq_right (by omega)]; exact few_long A n c w (by omega) hc hc9

/-- The calls of a script: the kind and the number of each lie there. -/
def Script (w : World) (B : Option Addr) (m : Nat) (kd nm : Nat → Int) : Prop :=
  m = 0 ∨ ∃ b o, B = some ⟨b, o, none⟩ ∧ b < w.heap.size ∧ ∀ i, i < m → w.cell? ⟨b, o + i * 2, none⟩ = some (.int .i64 (kd i)) ∧ w.cell? ⟨b, o + i * 2 + 1, none⟩ = some (.int .i64 (nm i)) ∧
    -9223372036854775808 ≤ nm i ∧ nm i ≤ 9223372036854775807

theorem script_of {w : World} {A : Option Addr} {n : Nat} {f g : Nat → Int} (h : n = 0 ∨ ∃ b o, A = some ⟨b, o, none⟩ ∧ b < w.heap.size ∧ ∀ i, i < n → w.cell? ⟨b, o + i * 2, none⟩ = some (.int .i64 (f i)) ∧ w.cell? ⟨b, o + i * 2 + 1, none⟩ = some (.int .i64 (g i)) ∧
    -9223372036854775808 ≤ f i ∧ f i ≤ 9223372036854775807 ∧ -9223372036854775808 ≤ g i ∧ g i ≤ 9223372036854775807) : Script w A n f g :=
  h.imp id fun ⟨b, o, e, hb, hc⟩ => ⟨b, o, e, hb, fun i hi => by obtain ⟨h1, h2, _, _, h3, h4⟩ := hc i hi; exact ⟨h1, h2, h3, h4⟩⟩

/-- The reader at g, behind p octets of l; bad, if st. -/
def Now (w : World) (lo g : Nat) (l : List Int) (p : Nat) : Bool → Prop
  | true => Bad w g
  | false => Rdr w (fun b => lo ≤ b) g (l.drop p)

theorem Rdr.at_ {w : World} {lo g p q : Nat} {l : List Int} (h : Rdr w (fun b => lo ≤ b) g ((l.drop p).drop q)) : Now w lo g l (p + q) false := by
  rw [List.drop_drop] at h
  exact h

set_option maxRecDepth 100000 in
set_option maxHeartbeats 4000000 in
theorem reads_walk (A : Option Addr) (n c : Nat) (l : List Int) (B : Option Addr) (m d : Nat) (kd nm : Nat → Int) (w : World) (h : Row w (· < w.heap.size) A n c (octs l)) (ho : Octs l) (hn : n ≤ 140737488355000)
    (hs : Script w B m kd nm) (hmd : m ≤ d) (hd : d ≤ 9223372036854775807) :
    Calls Try.prog 3 #[.slice A n c, .slice B m d] w fun e w' => e = .returned (.bool true) ∧ Below w.heap.size w w' := by
  have H := hide h
  have HS := hide hs
  have HO := hide ho
  clear h hs ho
  go_enter Try.func3, Try.ntmps3
  go_wp2_with fail
  refine (alive02 _).mono ?_
  rintro e w1 ⟨rfl, hb⟩
  have H1 := hide (H.out.below hb (fun b hb _ => hb))
  have HB1 := hide hb
  clear hb
  go_wp2_with fail
  refine (new_any _ _ _ _ l _ H1.out HO.out (by omega)).mono ?_
  rintro e w2 ⟨g, rfl, hg, hr, hb⟩
  have HR2 := hide hr
  have HB2 := hide (HB1.out.trans (hb.mono HB1.out.size))
  have HG := hide (show w.heap.size ≤ g from Nat.le_trans HB1.out.size hg)
  clear hr hb hg
  go_wp2_with fail
  refine (few_any _ _ _ _ hmd hd).mono ?_
  rintro e w' ⟨rfl, rfl⟩
  go_wp2
  have HR := hide (show Now w2 w.heap.size g l 0 false from HR2.out.mono fun b hb => Nat.le_trans HB1.out.size hb)
  clear HR2
  have hk : min m 60 ≤ m := Nat.min_le_left _ _
  have hk60 : min m 60 ≤ 60 := Nat.min_le_right _ _
  generalize min m 60 = k at *
  go_loopw [6, 7, 8] (fun at_ bad i wr => ∃ (i' p : Nat) (st : Bool), i' ≤ k ∧ p ≤ n ∧ i = .int .i64 i' ∧ at_ = .int .i64 p ∧ bad = .bool st ∧ Hid (Now wr w.heap.size g l p st) ∧ Hid (Below w.heap.size w wr)) (fun _ _ i _ => k - (intOf i).toNat)
  case atStart => exact ⟨0, 0, false, Nat.zero_le _, Nat.zero_le _, rfl, rfl, rfl, HR, HB2⟩
  case round =>
    obtain ⟨i, p, st, hi, hp, rfl, rfl, rfl, HN, HB⟩ := hrel
    clear HR HB2
    by_cases hlt : i < k
    · obtain ⟨b, o, rfl, hbw, hc⟩ := HS.out.resolve_left (by omega)
      obtain ⟨hc0, hc1, hr0, hr1⟩ := hc i (by omega)
      have c0 : wr.cell? ⟨b, o + i * 2, none⟩ = some (.int .i64 (kd i)) := (HB.out.cell (p := ⟨b, o + i * 2, none⟩) hbw).trans hc0
      have c1 : wr.cell? ⟨b, o + i * 2 + 1, none⟩ = some (.int .i64 (nm i)) := (HB.out.cell (p := ⟨b, o + i * 2 + 1, none⟩) hbw).trans hc1
      clear hc hc0 hc1
      generalize kd i = z at *
      generalize nm i = q at *
      rcases st with _ | _
      · have HRD := hide (show Rdr wr (fun b => w.heap.size ≤ b) g (l.drop p) from HN.out)
        have HL := hide (show (l.drop p).length = n - p by rw [List.length_drop, ← H.out.1, octs_len])
        clear HN
        by_cases h0 : q < 0
        · by_cases hz : z = 1
          · subst hz
            go_wp2_with fail
            refine (bytes_no _ g _ q _ HRD.out (.inl h0)).mono ?_
            rintro e wr2 ⟨rfl, hbd, ht⟩
            have HD := hide hbd
            have HBL := hide (HB.out.trans (ht.below HB.out.size (fun k hk e => by have := HG.out; omega)))
            clear hbd ht
            go_wp2_with fail
            go_quiet (fail)
            have HD := hide (show Bad (wr2.drewN nq) g from HD.out)
            have HBL := hide (below_drewN HBL.out nq)
            generalize wr2.drewN nq = wr3 at *
            go_wp2_with fail
            refine (bad_any _ g _ _ HD.out).mono ?_
            rintro e w' ⟨rfl, rfl⟩
            go_wp2_with fail
            refine (done_bad _ g HD.out).mono ?_
            rintro e w' ⟨rfl, rfl⟩
            go_wp2_with fail
            refine (left_bad _ g HD.out).mono ?_
            rintro e w' ⟨rfl, rfl⟩
            go_wp2
            go_roundw
            case rel => exact ⟨i + 1, p, true, by omega, hp, by go_num, rfl, rfl, HD, HBL⟩
            case measure => simp [intOf]; omega
          · have hz' : (z == 1) = false := by simpa using hz
            clear hz
            go_wp2_with fail
            refine (take_no _ g _ q _ HRD.out (.inl (by omega))).mono ?_
            rintro e wr2 ⟨rfl, hbd, ht⟩
            have HD := hide hbd
            have HBL := hide (HB.out.trans (ht.below HB.out.size (fun k hk e => by have := HG.out; omega)))
            clear hbd ht
            go_wp2_with fail
            refine (bad_any _ g _ _ HD.out).mono ?_
            rintro e w' ⟨rfl, rfl⟩
            go_wp2_with fail
            refine (done_bad _ g HD.out).mono ?_
            rintro e w' ⟨rfl, rfl⟩
            go_wp2_with fail
            refine (left_bad _ g HD.out).mono ?_
            rintro e w' ⟨rfl, rfl⟩
            go_wp2
            go_roundw
            case rel => exact ⟨i + 1, p, true, by omega, hp, by go_num, rfl, rfl, HD, HBL⟩
            case measure => simp [intOf]; omega
        · by_cases h1 : (n : Int) - p < q
          · have HQ := hide (show ((l.drop p).length : Int) < q by rw [HL.out]; omega)
            by_cases hz : z = 1
            · subst hz
              go_wp2_with fail
              refine (bytes_no _ g _ q _ HRD.out (.inr HQ.out)).mono ?_
              rintro e wr2 ⟨rfl, hbd, ht⟩
              have HD := hide hbd
              have HBL := hide (HB.out.trans (ht.below HB.out.size (fun k hk e => by have := HG.out; omega)))
              clear hbd ht
              go_wp2_with fail
              go_quiet (fail)
              have HD := hide (show Bad (wr2.drewN nq) g from HD.out)
              have HBL := hide (below_drewN HBL.out nq)
              generalize wr2.drewN nq = wr3 at *
              go_wp2_with fail
              refine (bad_any _ g _ _ HD.out).mono ?_
              rintro e w' ⟨rfl, rfl⟩
              go_wp2_with fail
              refine (done_bad _ g HD.out).mono ?_
              rintro e w' ⟨rfl, rfl⟩
              go_wp2_with fail
              refine (left_bad _ g HD.out).mono ?_
              rintro e w' ⟨rfl, rfl⟩
              go_wp2
              go_roundw
              case rel => exact ⟨i + 1, p, true, by omega, hp, by go_num, rfl, rfl, HD, HBL⟩
              case measure => simp [intOf]; omega
            · have hz' : (z == 1) = false := by simpa using hz
              clear hz
              go_wp2_with fail
              refine (take_no _ g _ q _ HRD.out (.inr (.inr HQ.out))).mono ?_
              rintro e wr2 ⟨rfl, hbd, ht⟩
              have HD := hide hbd
              have HBL := hide (HB.out.trans (ht.below HB.out.size (fun k hk e => by have := HG.out; omega)))
              clear hbd ht
              go_wp2_with fail
              refine (bad_any _ g _ _ HD.out).mono ?_
              rintro e w' ⟨rfl, rfl⟩
              go_wp2_with fail
              refine (done_bad _ g HD.out).mono ?_
              rintro e w' ⟨rfl, rfl⟩
              go_wp2_with fail
              refine (left_bad _ g HD.out).mono ?_
              rintro e w' ⟨rfl, rfl⟩
              go_wp2
              go_roundw
              case rel => exact ⟨i + 1, p, true, by omega, hp, by go_num, rfl, rfl, HD, HBL⟩
              case measure => simp [intOf]; omega
          · by_cases hz : z = 1
            · subst hz
              obtain ⟨q', rfl⟩ := Int.eq_ofNat_of_zero_le (show 0 ≤ q by omega)
              go_wp2_with fail
              refine (bytes_yes _ g (l.drop p) q' _ HRD.out (by rw [HL.out]; omega) (by omega)).mono ?_
              rintro e wr2 ⟨A', c', rfl, hown, hrd, ht⟩
              have HBL := hide (HB.out.trans (ht.below HB.out.size (fun k hk e => by have := HG.out; omega)))
              have hcap := H.out.2.1
              obtain ⟨A2, hA2⟩ : ∃ A2, A2 = if c = p then A else A.map (·.add p) := ⟨_, rfl⟩
              have hs2 : ∀ W, (Instr.slice 22 (.slice A n c) (some (.int .i64 (p : Int))) (some (.int .i64 ((p : Int) + q'))) none).run Try.prog W = .ok (.slice A2 q' (c - p)) W := fun W => by rw [hA2]; exact cut_run W A n c p q' (by omega)
              have hs1 : ∀ k, (convert 22 9 (.slice A' q' c')).run Try.prog (wr2.drewN k) = .ok (.string (strOfNums ((l.drop p).take q'))) (wr2.drewN k) := fun k => conv_row (show Row (wr2.drewN k) _ A' q' c' _ from Row.of_own hown)
              have hs3 : ∀ k, (convert 22 9 (.slice A2 q' (c - p))).run Try.prog (wr2.drewN k) = .ok (.string (strOfNums ((l.drop p).take q'))) (wr2.drewN k) := fun k => conv_row (show Row (wr2.drewN k) _ A2 q' (c - p) _ by rw [hA2]; exact (H.out.below HBL.out (fun b hb _ => hb)).mid (by omega))
              have HD := hide hrd
              clear hown hrd ht hA2 hcap
              generalize strOfNums ((l.drop p).take q') = S at *
              go_wp2_with fail
              go_quiet (fail)
              have HD := hide (show Rdr (wr2.drewN nq) (fun b => w.heap.size ≤ b) g ((l.drop p).drop q') from HD.out)
              have HBL := hide (below_drewN HBL.out nq)
              generalize wr2.drewN nq = wr3 at *
              clear hs1 hs2 hs3
              have HL2 := hide (show ((l.drop p).drop q').length = n - (p + q') by rw [List.length_drop, HL.out]; omega)
              by_cases hpn : p + q' = n
              · have hB : ((p : Int) + q' == n) = true := by simp; omega
                go_wp2_with fail
                refine (bad_rdr _ _ _ _ HD.out).mono ?_
                rintro e w' ⟨rfl, rfl⟩
                go_wp2_with fail
                refine (done_rdr0 _ _ _ _ HD.out (by rw [HL2.out]; omega)).mono ?_
                rintro e w' ⟨rfl, rfl⟩
                go_wp2_with fail
                refine (left_rdr _ _ _ _ ((n : Int) - ((p : Int) + q')) HD.out (by rw [HL2.out]; omega)).mono ?_
                rintro e w' ⟨rfl, rfl⟩
                go_wp2
                go_roundw
                case rel => exact ⟨i + 1, p + q', false, by omega, by omega, by go_num, by go_num, rfl, hide (Rdr.at_ HD.out), HBL⟩
                case measure => simp [intOf]; omega
              · have hB : ((p : Int) + q' == n) = false := by simp; omega
                go_wp2_with fail
                refine (bad_rdr _ _ _ _ HD.out).mono ?_
                rintro e w' ⟨rfl, rfl⟩
                go_wp2_with fail
                refine (done_rdr1 _ _ _ _ HD.out (by rw [HL2.out]; omega)).mono ?_
                rintro e w' ⟨rfl, rfl⟩
                go_wp2_with fail
                refine (left_rdr _ _ _ _ ((n : Int) - ((p : Int) + q')) HD.out (by rw [HL2.out]; omega)).mono ?_
                rintro e w' ⟨rfl, rfl⟩
                go_wp2
                go_roundw
                case rel => exact ⟨i + 1, p + q', false, by omega, by omega, by go_num, by go_num, rfl, hide (Rdr.at_ HD.out), HBL⟩
                case measure => simp [intOf]; omega
            · have hz' : (z == 1) = false := by simpa using hz
              clear hz
              by_cases h2 : q < 1
              · skip
                go_wp2_with fail
                refine (take_no _ g _ q _ HRD.out (.inl h2)).mono ?_
                rintro e wr2 ⟨rfl, hbd, ht⟩
                have HD := hide hbd
                have HBL := hide (HB.out.trans (ht.below HB.out.size (fun k hk e => by have := HG.out; omega)))
                clear hbd ht
                go_wp2_with fail
                refine (bad_any _ g _ _ HD.out).mono ?_
                rintro e w' ⟨rfl, rfl⟩
                go_wp2_with fail
                refine (done_bad _ g HD.out).mono ?_
                rintro e w' ⟨rfl, rfl⟩
                go_wp2_with fail
                refine (left_bad _ g HD.out).mono ?_
                rintro e w' ⟨rfl, rfl⟩
                go_wp2
                go_roundw
                case rel => exact ⟨i + 1, p, true, by omega, hp, by go_num, rfl, rfl, HD, HBL⟩
                case measure => simp [intOf]; omega
              · by_cases h3 : 8 < q
                · skip
                  go_wp2_with fail
                  refine (take_no _ g _ q _ HRD.out (.inr (.inl h3))).mono ?_
                  rintro e wr2 ⟨rfl, hbd, ht⟩
                  have HD := hide hbd
                  have HBL := hide (HB.out.trans (ht.below HB.out.size (fun k hk e => by have := HG.out; omega)))
                  clear hbd ht
                  go_wp2_with fail
                  refine (bad_any _ g _ _ HD.out).mono ?_
                  rintro e w' ⟨rfl, rfl⟩
                  go_wp2_with fail
                  refine (done_bad _ g HD.out).mono ?_
                  rintro e w' ⟨rfl, rfl⟩
                  go_wp2_with fail
                  refine (left_bad _ g HD.out).mono ?_
                  rintro e w' ⟨rfl, rfl⟩
                  go_wp2
                  go_roundw
                  case rel => exact ⟨i + 1, p, true, by omega, hp, by go_num, rfl, rfl, HD, HBL⟩
                  case measure => simp [intOf]; omega
                · obtain ⟨q', rfl⟩ := Int.eq_ofNat_of_zero_le (show 0 ≤ q by omega)
                  go_wp2_with fail
                  refine (take_yes _ g (l.drop p) q' _ HRD.out (by rw [HL.out]; omega) (by omega) (by omega)).mono ?_
                  rintro e wr2 ⟨rfl, hrd, ht⟩
                  have HBL := hide (HB.out.trans (ht.below HB.out.size (fun k hk e => by have := HG.out; omega)))
                  have hcap := H.out.2.1
                  obtain ⟨A2, hA2⟩ : ∃ A2, A2 = if c = p then A else A.map (·.add p) := ⟨_, rfl⟩
                  have hs2 : ∀ W, (Instr.slice 22 (.slice A n c) (some (.int .i64 (p : Int))) (some (.int .i64 ((p : Int) + q'))) none).run Try.prog W = .ok (.slice A2 q' (c - p)) W := fun W => by rw [hA2]; exact cut_run W A n c p q' (by omega)
                  have HR2 := hide (show Row wr2 (· < w.heap.size) A2 q' (c - p) (octs ((l.drop p).take q')) by rw [hA2]; exact (H.out.below HBL.out (fun b hb _ => hb)).mid (by omega))
                  have HD := hide hrd
                  have HOT := hide ((HO.out.drop p).take q')
                  clear hrd ht hA2 hcap
                  generalize (l.drop p).take q' = t at *
                  go_wp2_with fail
                  refine (get_any _ _ _ _ t _ HR2.out HOT.out (by omega)).mono ?_
                  rintro e w' ⟨rfl, rfl⟩
                  generalize num t = v at *
                  clear hs2
                  have HL2 := hide (show ((l.drop p).drop q').length = n - (p + q') by rw [List.length_drop, HL.out]; omega)
                  by_cases hpn : p + q' = n
                  · have hB : ((p : Int) + q' == n) = true := by simp; omega
                    go_wp2_with fail
                    refine (bad_rdr _ _ _ _ HD.out).mono ?_
                    rintro e w' ⟨rfl, rfl⟩
                    go_wp2_with fail
                    refine (done_rdr0 _ _ _ _ HD.out (by rw [HL2.out]; omega)).mono ?_
                    rintro e w' ⟨rfl, rfl⟩
                    go_wp2_with fail
                    refine (left_rdr _ _ _ _ ((n : Int) - ((p : Int) + q')) HD.out (by rw [HL2.out]; omega)).mono ?_
                    rintro e w' ⟨rfl, rfl⟩
                    go_wp2
                    go_roundw
                    case rel => exact ⟨i + 1, p + q', false, by omega, by omega, by go_num, by go_num, rfl, hide (Rdr.at_ HD.out), HBL⟩
                    case measure => simp [intOf]; omega
                  · have hB : ((p : Int) + q' == n) = false := by simp; omega
                    go_wp2_with fail
                    refine (bad_rdr _ _ _ _ HD.out).mono ?_
                    rintro e w' ⟨rfl, rfl⟩
                    go_wp2_with fail
                    refine (done_rdr1 _ _ _ _ HD.out (by rw [HL2.out]; omega)).mono ?_
                    rintro e w' ⟨rfl, rfl⟩
                    go_wp2_with fail
                    refine (left_rdr _ _ _ _ ((n : Int) - ((p : Int) + q')) HD.out (by rw [HL2.out]; omega)).mono ?_
                    rintro e w' ⟨rfl, rfl⟩
                    go_wp2
                    go_roundw
                    case rel => exact ⟨i + 1, p + q', false, by omega, by omega, by go_num, by go_num, rfl, hide (Rdr.at_ HD.out), HBL⟩
                    case measure => simp [intOf]; omega
      · have HBD := hide (show Bad wr g from HN.out)
        clear HN
        by_cases hz : z = 1
        · subst hz
          go_wp2_with fail
          refine (bytes_bad g q _ HBD.out).mono ?_
          rintro e wr2 ⟨rfl, hbd, ht⟩
          have HD := hide hbd
          have HBL := hide (HB.out.trans (ht.below HB.out.size (fun k hk e => by have := HG.out; omega)))
          clear hbd ht
          go_wp2_with fail
          go_quiet (fail)
          have HD := hide (show Bad (wr2.drewN nq) g from HD.out)
          have HBL := hide (below_drewN HBL.out nq)
          generalize wr2.drewN nq = wr3 at *
          go_wp2_with fail
          refine (bad_any _ g _ _ HD.out).mono ?_
          rintro e w' ⟨rfl, rfl⟩
          go_wp2_with fail
          refine (done_bad _ g HD.out).mono ?_
          rintro e w' ⟨rfl, rfl⟩
          go_wp2_with fail
          refine (left_bad _ g HD.out).mono ?_
          rintro e w' ⟨rfl, rfl⟩
          go_wp2
          go_roundw
          case rel => exact ⟨i + 1, p, true, by omega, hp, by go_num, rfl, rfl, HD, HBL⟩
          case measure => simp [intOf]; omega
        · have hz' : (z == 1) = false := by simpa using hz
          clear hz
          go_wp2_with fail
          refine (take_bad g q _ HBD.out).mono ?_
          rintro e wr2 ⟨rfl, hbd, ht⟩
          have HD := hide hbd
          have HBL := hide (HB.out.trans (ht.below HB.out.size (fun k hk e => by have := HG.out; omega)))
          clear hbd ht
          go_wp2_with fail
          refine (bad_any _ g _ _ HD.out).mono ?_
          rintro e w' ⟨rfl, rfl⟩
          go_wp2_with fail
          refine (done_bad _ g HD.out).mono ?_
          rintro e w' ⟨rfl, rfl⟩
          go_wp2_with fail
          refine (left_bad _ g HD.out).mono ?_
          rintro e w' ⟨rfl, rfl⟩
          go_wp2
          go_roundw
          case rel => exact ⟨i + 1, p, true, by omega, hp, by go_num, rfl, rfl, HD, HBL⟩
          case measure => simp [intOf]; omega
    · have e : i = k := by omega
      subst e
      go_wp2
      go_ret
      exact ⟨rfl, HB.out⟩
end Go.Proofs.Ythielpjjbhiobaa
