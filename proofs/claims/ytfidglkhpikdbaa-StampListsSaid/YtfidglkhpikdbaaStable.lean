/-
  The library's stable sort.
-/
import Derived.Test.YtfidglkhpikdbaaSymAll
import Derived.Test.YtfidglkhpikdbaaInsM
namespace Go.Proofs.Ytfidglkhpikdbaa
open Go.Shelf Go.RowKit Go.Lib
open Go.Sort (SWO swp size_swp grow)
set_option linter.unusedVariables false

section
variable {P : Program} {α : Type} [Inhabited α] {k : Nat}

set_option maxHeartbeats 8000000 in
set_option maxRecDepth 1000000 in
theorem stable_any (L : Bears P k) (enc : α → List Value) (cf : α → α → Int) (hS : SWO (ltOf cf)) (g : Nat) (cb : Array Value) (blk off cap : Nat) (w0 : World) (d0 : Array α) (R : Go.Proofs.RowK enc k w0 blk off d0) (hsm : d0.size ≤ 1000000000000)
    (eg : ∀ args w, (callFunc g args).run P w = .ok (.enter g args) w) (hcmp : CmpLays P g cb enc k cf blk off d0.size w0)
    (l : List α) (n : Nat) (w : World) (hn : n = d0.size) (hl : l.length = d0.size) (S : SWK enc k w0 blk off l.toArray w) :
    Calls P 29 #[.slice (some ⟨blk, off, none⟩) n cap, .int .i64 (n : Int), .func (.func g) #[] cb] w fun e w' => e = .returned (.tuple #[]) ∧
      ∃ c, c.length = l.length ∧ Srt (ltOf cf) c ∧ Stab (ltOf cf) l c ∧ SWK enc k w0 blk off c.toArray w' := by
  have mixed := L.mixed; have t0 := L.t0; have a0 := L.a0; have z0 := L.z0; have v0 := L.v0; have t3 := L.t3; have a3 := L.a3; have z3 := L.z3; have v3 := L.v3; have t4 := L.t4; have a4 := L.a4; have z4 := L.z4; have v4 := L.v4; have t22 := L.t22; have a22 := L.a22; have z22 := L.z22; have v22 := L.v22; have t25 := L.t25; have a25 := L.a25; have z25 := L.z25; have v25 := L.v25; have aE := L.aE; have zE := L.zE
  have FG := L.fStable
  have e32 : ∀ args w, (callFunc 32 args).run P w = .ok (.enter 32 args) w := enters_of L.fIns (by kernel_rfl) rfl
  have e33 : ∀ args w, (callFunc 33 args).run P w = .ok (.enter 33 args) w := enters_of L.fSym (by kernel_rfl) rfl
  have hsz : d0.size < 4611686018427387904 := by omega
  have ins := fun p u s a b w h1 h2 h3 h4 => ins_any L enc cf hS g cb blk off cap w0 d0 R hsz eg hcmp p u s n a b w hn h1 h2 h3 h4
  have sym := fun p u v s a m b w h1 h2 h3 h4 h5 h6 h7 h8 h9 => symMerge_any L enc cf hS g cb blk off cap w0 d0 R hsz eg hcmp n hn (u.length + v.length + 1) p u v s a m b w (Nat.lt_succ_self _) h1 h2 h3 h4 h5 h6 h7 h8 h9
  have INS : Aside _ := ins
  have SYM : Aside _ := sym
  have S0 : Aside (SWK enc k w0 blk off l.toArray w) := S
  have HS : Aside _ := hS
  have HN := hide (show n = l.length by omega)
  have HD := hide hn
  have hnn : n ≤ 1000000000000 := by omega
  clear S hn hl ins sym hcmp hS hsm hsz
  go_enter FG, Try.ntmps29
  go_wp2
  go_loopg [7, 8] n (fun kx s7 s8 wr => ∃ (A : Nat) (po pc rs : List α), s7 = .int .i64 (A : Int) ∧ s8 = .int .i64 ((A : Int) + 20) ∧ A ≤ n ∧ n - A ≤ kx ∧ Hid (Fb (ltOf cf) 20 po pc ∧ pc.length = A ∧ po.length = A ∧ po ++ rs = l) ∧ Aside (SWK enc k w0 blk off (pc ++ rs).toArray wr))
  case atStart => exact ⟨0, [], [], l, rfl, rfl, Nat.zero_le _, Nat.le_refl _, ⟨Fb.nil, rfl, rfl, rfl⟩, S0⟩
  case round =>
    clear S0
    obtain ⟨A, po, pc, rs, rfl, rfl, hA, hkx, I, S1⟩ := hrel
    have HR := hide (show rs.length = n - A by have := I.out.2.2.2; have h2 := HN.out; rw [← this, List.length_append] at h2; have := I.out.2.2.1; omega)
    by_cases hlt : A + 20 ≤ n
    · have hltz : (A : Int) + 20 ≤ (n : Int) := by omega
      obtain ⟨u, s, E, hu⟩ : ∃ u s, rs = u ++ s ∧ u.length = 20 := ⟨rs.take 20, rs.drop 20, (List.take_append_drop _ _).symm, by rw [List.length_take]; have := HR.out; omega⟩
      subst E
      have HU := hide hu
      have rb : IntKind.i64.wrap ((A : Int) + 20 + 20) = (A : Int) + 20 + 20 := by rw [IntKind.wrap_i64]; omega
      have hc := INS.out pc u s A (A + 20) wr (by have := HR.out; have := I.out.2.1; have := HD.out; simp only [List.length_append] at *; omega) I.out.2.1.symm (by have := I.out.2.1; omega) (by have := S1.out; simpa using this)
      rw [show ((A + 20 : Nat) : Int) = (A : Int) + 20 by omega] at hc
      clear S1 hu
      go_wp2_with (go_at_call 32; refine hc.mono ?_; rintro e w1 ⟨rfl, hr⟩)
      have HRR := hide hr
      clear hr
      go_roundg (n - (A + 20))
      case measure => omega
      case rel =>
        obtain ⟨r, q1, q2, q3, q4⟩ := HRR.out
        have hu := HU.out
        obtain ⟨i1, i2, i3, i4⟩ := I.out
        refine ⟨A + 20, po ++ u, pc ++ r, s, by go_num, by go_num, hlt, Nat.le_refl _, ⟨Fb.snoc po pc u r i1 (by omega) (by omega) q2 q3, by rw [List.length_append]; omega, by rw [List.length_append]; omega, by rw [← i4]; simp⟩, ?_⟩
        exact q4
    · have hltz : ¬ (A : Int) + 20 ≤ (n : Int) := by omega
      have hc := INS.out pc rs [] A n wr (by have := HR.out; have := I.out.2.1; have := HD.out; simp only [List.length_append, List.length_nil] at *; omega) I.out.2.1.symm (by have := I.out.2.1; have := HR.out; omega) (by have := S1.out; simpa using this)
      clear S1
      go_wp2_with (go_at_call 32; refine hc.mono ?_; rintro e w1 ⟨rfl, hr⟩)
      have S2 : Hid (∃ c, Bk (ltOf cf) 20 l c ∧ c.length = n ∧ SWK enc k w0 blk off c.toArray w1) := by
        obtain ⟨r, q1, q2, q3, q4⟩ := hr
        obtain ⟨i1, i2, i3, i4⟩ := I.out
        have := HR.out
        refine ⟨pc ++ r, ?_, by rw [List.length_append]; omega, by simpa using q4⟩
        rw [← i4]
        exact i1.join (.last rs r (by omega) q1.symm q2 q3)
      clear hr I HR
      go_loopg [6] n (fun kx s6 wr => ∃ (z : Nat), s6 = .int .i64 (z : Int) ∧ 20 ≤ z ∧ z ≤ 2 * n + 20 ∧ n - z ≤ kx ∧ Hid (∃ c, Bk (ltOf cf) z l c ∧ c.length = n ∧ SWK enc k w0 blk off c.toArray wr))
      case atStart => exact ⟨20, rfl, Nat.le_refl _, by omega, by omega, S2⟩
      case round =>
        clear S2
        obtain ⟨z, rfl, hz, hz2, hkz, S3⟩ := hrel
        by_cases hzn : z < n
        · have hznz : (z : Int) < (n : Int) := by omega
          have r2 : IntKind.i64.wrap (2 * (z : Int)) = 2 * (z : Int) := by rw [IntKind.wrap_i64]; omega
          have r3 : IntKind.i64.wrap ((z : Int) * 2) = (z : Int) * 2 := by rw [IntKind.wrap_i64]; omega
          go_wp2_with fail
          go_loopg [7, 8] n (fun kx s7 s8 wr => ∃ (A b : Nat), s7 = .int .i64 (A : Int) ∧ s8 = .int .i64 (b : Int) ∧ A ≤ n ∧ n - A ≤ kx ∧ b ≤ 3 * n ∧ Hid (b = A + 2 * z) ∧
            Hid (∃ po pc ro rc, Fb (ltOf cf) (2 * z) po pc ∧ pc.length = A ∧ Bk (ltOf cf) z ro rc ∧ rc.length = n - A ∧ po ++ ro = l ∧ SWK enc k w0 blk off (pc ++ rc).toArray wr))
          case atStart =>
            obtain ⟨c, c1, c2, c3⟩ := S3.out
            exact ⟨0, 2 * z, rfl, by first | rfl | go_num | (congr 1; omega), Nat.zero_le _, Nat.le_refl _, by omega, (by omega : 2 * z = 0 + 2 * z), [], [], l, c, Fb.nil, rfl, c1, c2, rfl, c3⟩
          case round =>
            clear S3
            obtain ⟨A, b, rfl, rfl, hA, hkA, hb3, HB, S4⟩ := hrel
            have ra : IntKind.i64.wrap ((A : Int) + (z : Int)) = (A : Int) + (z : Int) := by rw [IntKind.wrap_i64]; omega
            by_cases hbn : b ≤ n
            · have hbnz : (b : Int) ≤ (n : Int) := by omega
              have rb : IntKind.i64.wrap ((b : Int) + 2 * (z : Int)) = (b : Int) + 2 * (z : Int) := by rw [IntKind.wrap_i64]; omega
              obtain ⟨po, pc, ro, rc, i1, i2, i3, i4, i5, i6⟩ := S4.out
              obtain ⟨o1, c1, ro', rc', rfl, rfl, j1, j0, j2, j3, j4⟩ := i3.front (by have := HB.out; omega)
              obtain ⟨o2, c2, ro2, rc2, rfl, rfl, k1, k0, k2, k3, k4⟩ := j4.front (by have := HB.out; simp only [List.length_append] at i4; omega)
              have hc := SYM.out pc c1 c2 rc2 A (A + z) b wr (by have := HD.out; simp only [List.length_append] at *; omega) i2.symm (by omega) (by have := HB.out; omega) (by omega) (by omega) j2 k2 (by have := i6; simpa using this)
              rw [show ((A + z : Nat) : Int) = (A : Int) + (z : Int) by omega] at hc
              have K := hide (show Fb (ltOf cf) (2 * z) po pc ∧ pc.length = A ∧ Stab (ltOf cf) o1 c1 ∧ Stab (ltOf cf) o2 c2 ∧ c1.length = z ∧ c2.length = z ∧ o1.length = z ∧ o2.length = z ∧ Bk (ltOf cf) z ro2 rc2 ∧ (c1 ++ (c2 ++ rc2)).length = n - A ∧ po ++ (o1 ++ (o2 ++ ro2)) = l from ⟨i1, i2, j3, k3, j1, k1, j0, k0, k4, i4, i5⟩)
              clear S4 i1 i2 i4 i5 i6 j1 j0 j2 j3 j4 k1 k0 k2 k3 k4
              go_wp2_with (go_at_call 33; refine hc.mono ?_; rintro e w2 ⟨rfl, hr⟩)
              have HRR := hide hr
              clear hr
              go_roundg (n - b)
              case measure => have := HB.out; omega
              case rel =>
                obtain ⟨i1, i2, j3, k3, j1, k1, j0, k0, k4, i4, i5⟩ := K.out
                obtain ⟨r, q1, q2, q3, q4⟩ := HRR.out
                have e := HB.out
                simp only [List.length_append] at i4
                refine ⟨b, b + 2 * z, rfl, by first | rfl | go_num | (congr 1; omega), hbn, Nat.le_refl _, by omega, rfl, po ++ (o1 ++ o2), pc ++ r, ro2, rc2, Fb.snoc po pc (o1 ++ o2) r i1 (by omega) (by rw [List.length_append]; omega) q2 ((j3.append k3).trans q3), by rw [List.length_append]; omega, k4, by omega, by rw [← i5]; simp, by simpa using q4⟩
            · have hbnz : ¬ (b : Int) ≤ (n : Int) := by omega
              by_cases hm : A + z < n
              · have hmz : (A : Int) + (z : Int) < (n : Int) := by omega
                obtain ⟨po, pc, ro, rc, i1, i2, i3, i4, i5, i6⟩ := S4.out
                obtain ⟨o1, c1, ro', rc', rfl, rfl, j1, j0, j2, j3, j4⟩ := i3.front (by omega)
                simp only [List.length_append] at i4
                obtain ⟨k1, k2⟩ := j4.small HS.out (by have := HB.out; omega)
                have hc := SYM.out pc c1 rc' [] A (A + z) n wr (by have := HD.out; simp only [List.length_append, List.length_nil] at *; omega) i2.symm (by omega) (by omega) (by omega) (by omega) j2 k1 (by have := i6; simpa using this)
                rw [show ((A + z : Nat) : Int) = (A : Int) + (z : Int) by omega] at hc
                have K := hide (show Fb (ltOf cf) (2 * z) po pc ∧ pc.length = A ∧ Stab (ltOf cf) o1 c1 ∧ Stab (ltOf cf) ro' rc' ∧ c1.length + rc'.length = n - A ∧ po ++ (o1 ++ ro') = l from ⟨i1, i2, j3, k2, i4, i5⟩)
                clear S4 i1 i2 i3 i4 i5 i6 j1 j0 j2 j3 j4 k1 k2
                go_wp2_with (go_at_call 33; refine hc.mono ?_; rintro e w2 ⟨rfl, hr⟩)
                have HRR := hide hr
                clear hr
                go_roundg (n - 2 * z)
                case measure => omega
                case rel =>
                  obtain ⟨i1, i2, j3, k2, i4, i5⟩ := K.out
                  obtain ⟨r, q1, q2, q3, q4⟩ := HRR.out
                  have e := HB.out
                  have hol : (o1 ++ ro').length = r.length := by
                    have h1 := congrArg List.length i5
                    have h2 := HN.out
                    have h3 := i1.lengths
                    simp only [List.length_append] at h1 ⊢
                    omega
                  refine ⟨2 * z, by first | rfl | go_num | (congr 1; omega), by omega, by omega, Nat.le_refl _, pc ++ r, ?_, by rw [List.length_append]; omega, by simpa using q4⟩
                  rw [← i5]
                  exact i1.join (.last _ r (by omega) hol q2 ((j3.append k2).trans q3))
              · have hmz : ¬ (A : Int) + (z : Int) < (n : Int) := by omega
                go_wp2
                go_roundg (n - 2 * z)
                case measure => omega
                case rel =>
                  obtain ⟨po, pc, ro, rc, i1, i2, i3, i4, i5, i6⟩ := S4.out
                  obtain ⟨k1, k2⟩ := i3.small HS.out (by omega)
                  have hol : ro.length = rc.length := by
                    have h1 := congrArg List.length i5
                    have h2 := HN.out
                    have h3 := i1.lengths
                    simp only [List.length_append] at h1
                    omega
                  refine ⟨2 * z, by first | rfl | go_num | (congr 1; omega), by omega, by omega, Nat.le_refl _, pc ++ rc, ?_, by rw [List.length_append]; omega, i6⟩
                  rw [← i5]
                  exact i1.join (.last ro rc (by omega) hol k1 k2)
        · have hznz : ¬ (z : Int) < (n : Int) := by omega
          go_wp2
          go_end0
          obtain ⟨c, c1, c2, c3⟩ := S3.out
          obtain ⟨k1, k2⟩ := c1.small HS.out (by omega)
          exact ⟨rfl, c, by rw [c2]; exact HN.out, k1, k2, c3⟩
end
end Go.Proofs.Ytfidglkhpikdbaa
