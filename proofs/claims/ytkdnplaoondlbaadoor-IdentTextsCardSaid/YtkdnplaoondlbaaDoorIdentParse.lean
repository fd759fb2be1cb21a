/-
  The contract of the reference's Parse: the Id whose text it is.
-/
import Derived.Test.YtkdnplaoondlbaaDoorIdentC
import Derived.Test.YtkdnplaoondlbaaDoorPlainNum
namespace Go.Proofs.YtkdnplaoondlbaaDoor
open Go.RowKit Go.PlainAid
set_option linter.unusedVariables false

theorem signed_form (l : List UInt8) : ∃ neg D, l = signed neg D ∧ (neg = false → D.head? ≠ some 45) := by
  by_cases h : l.head? = some 45
  · cases l with
    | nil => cases h
    | cons b D =>
      rw [List.head?_cons] at h
      injection h with h
      subst h
      exact ⟨true, D, rfl, fun h => by cases h⟩
  · exact ⟨false, l, rfl, fun _ => h⟩
theorem refnum_any (l : List UInt8) (w : World) (hl : l.length ≤ 9223372036854775807) :
    Calls Tryd.prog 26 #[.string (txt l)] w fun e w' => PNum l w w' e := by
  obtain ⟨neg, D, rfl, hs⟩ := signed_form l
  exact refnum_go neg D w hs hl

theorem PNum.val {l : List UInt8} {w w' : World} {e : Ending} (h : PNum l w w' e) : ∃ r ok, e = .returned (.tuple #[.int .i64 r, .bool ok]) ∧ ((ok = true ∧ numText l = some r) ∨ (ok = false ∧ numText l = none)) ∧ w = w' := by
  obtain ⟨h1, h2, h3⟩ := h
  cases hn : numText l with
  | none => exact ⟨0, false, h2 hn, .inr ⟨rfl, rfl⟩, h3⟩
  | some n => exact ⟨n, true, h1 n hn, .inl ⟨rfl, rfl⟩, h3⟩
theorem idText_cut {p q : List UInt8} (hp : (46 : UInt8) ∉ p) : idText mayId (p ++ 46 :: q) = match numText p, numText q with
    | some r, some s => if mayId r s then some (r, s) else none
    | _, _ => none := by
  have key : ∀ r s, textId r s = p ++ 46 :: q → Lib.itoa r = p ∧ Lib.itoa s = q := fun r s h =>
    cut_first (itoa_not r 46 (by decide) (.inl (by decide))) hp h
  have inr : ∀ r s, mayId r s = true → In64 r ∧ In64 s := fun r s h => by
    have := may_bounds h
    exact ⟨⟨by omega, by omega⟩, ⟨by omega, by omega⟩⟩
  cases h1 : numText p with
  | none =>
    refine idText_none fun r s hm he => ?_
    obtain ⟨e1, e2⟩ := key r s he
    rw [numText_some (inr r s hm).1 e1] at h1
    cases h1
  | some r =>
    cases h2 : numText q with
    | none =>
      refine idText_none fun r s hm he => ?_
      obtain ⟨e1, e2⟩ := key r s he
      rw [numText_some (inr r s hm).2 e2] at h2
      cases h2
    | some s =>
      have a1 := (numText_is h1).2
      have a2 := (numText_is h2).2
      show _ = if mayId r s then some (r, s) else none
      by_cases hm : mayId r s = true
      · rw [if_pos hm]
        exact idText_some hm (by unfold textId; rw [a1, a2])
      · rw [if_neg hm]
        refine idText_none fun r2 s2 hm2 he => ?_
        obtain ⟨e1, e2⟩ := key r2 s2 he
        have er := itoa_inj (e1.trans a1.symm)
        have es := itoa_inj (e2.trans a2.symm)
        rw [er, es] at hm2
        exact hm hm2
theorem idText_nodot {l : List UInt8} (h : (46 : UInt8) ∉ l) : idText mayId l = none :=
  idText_none fun r s hm he => h (by rw [← he]; unfold textId; simp)
theorem parsed_no {l : List UInt8} {w w' : World} {e : Ending} (h : idText mayId l = none) (he : e = .returned (.tuple #[idOf 0 0, .bool false])) (hb : Below w.heap.size w w') : Parsed l w w' e :=
  ⟨(fun r s hi => by rw [h] at hi; cases hi), fun _ => he, hb⟩
theorem parsed_yes {l : List UInt8} {w w' : World} {e : Ending} {r s : Int} (h : idText mayId l = some (r, s)) (he : e = .returned (.tuple #[idOf r s, .bool true])) (hb : Below w.heap.size w w') : Parsed l w w' e :=
  ⟨(fun r2 s2 hi => by rw [h] at hi; injection hi with hi; injection hi with h1 h2; rw [← h1, ← h2]; exact he), (fun hi => by rw [h] at hi; cases hi), hb⟩

set_option maxHeartbeats 2000000 in
theorem refparse_any (l : List UInt8) (w : World) (hl : l.length ≤ 9223372036854775807) : Calls Tryd.prog 18 #[.string (txt l)] w fun e w' => Parsed l w w' e := by
  have hsz : (txt l).size = l.length := txt_size l
  have hb := get_bt (txt l)
  have HTB := hide (fun k => txt_bt l k)
  have HX0 := hide (fun j => txt_extract l 0 j)
  have HX1 := hide (fun j => txt_extract l (j + 1) l.length)
  generalize txt l = T at *
  have HB0 := hide ((Below.refl w.heap.size w).alloc (Nat.le_refl _) (.cells #[.int .i64 0, .int .i64 0] 23))
  have HC0 := hide (Blk.new w 23 #[.int .i64 0, .int .i64 0])
  go_enter Tryd.func18, Tryd.ntmps18
  go_wp2
  go_loop [4] (fun i => ∃ (j : Nat), j ≤ l.length ∧ i = .int .i64 j ∧ Hid ((46 : UInt8) ∉ l.take j)) (fun i => l.length - (intOf i).toNat)
  case atStart => exact ⟨0, Nat.zero_le _, rfl, hide (by simp)⟩
  case round =>
    obtain ⟨j, hj, rfl, hnd⟩ := hrel
    by_cases hlt : j < l.length
    · have htk : l.take (j + 1) = l.take j ++ [l.getD j 0] := by
        rw [List.take_add_one, List.getElem?_eq_getElem hlt, List.getD_eq_getElem?_getD, List.getElem?_eq_getElem hlt]
        rfl
      have hbj : bt T j = ((l.getD j 0).toNat : Int) := HTB.out j
      have hc8 : (l.getD j 0).toNat < 256 := UInt8.toNat_lt _
      have hjT : (j : Int) < (T.size : Int) := by omega
      by_cases hdot : l.getD j 0 = 46
      · have hl2 : l = l.take j ++ 46 :: l.drop (j + 1) := by
          conv => lhs; rw [← List.take_append_drop j l, List.drop_eq_getElem_cons hlt]
          rw [show l[j] = 46 by rw [← hdot, List.getD_eq_getElem?_getD, List.getElem?_eq_getElem hlt]; rfl]
        have hi := idText_cut (q := l.drop (j + 1)) hnd.out
        rw [← hl2] at hi
        have e0 : T.extract 0 j = txt (l.take j) := by rw [HX0.out j]; rfl
        have e1 : T.extract (j + 1) l.length = txt (l.drop (j + 1)) := by rw [HX1.out j, List.take_of_length_le (Nat.le_refl _)]
        have E0 := hide e0
        have E1 := hide e1
        have HI := hide hi
        have LP := hide (show (l.take j).length ≤ 9223372036854775807 by rw [List.length_take]; omega)
        have LQ := hide (show (l.drop (j + 1)).length ≤ 9223372036854775807 by rw [List.length_drop]; omega)
        rw [hdot] at hbj
        have hbj : bt T j = 46 := hbj
        have hjs : (j : Int) + 1 ≤ (T.size : Int) := by omega
        clear htk hl2 hi e0 e1 hnd hdot hc8
        generalize l.take j = p at *
        generalize l.drop (j + 1) = q at *
        go_wp2_with fail
        rw [E0.out]
        refine (refnum_any p _ LP.out).mono ?_
        intro e w' hpn
        obtain ⟨r, ok, rfl, hpv, rfl⟩ := hpn.val
        have HP := hide hpv
        clear hpn hpv
        go_wp2_with fail
        rw [E1.out]
        refine (refnum_any q _ LQ.out).mono ?_
        intro e w' hqn
        obtain ⟨n, is, rfl, hqv, rfl⟩ := hqn.val
        have HQ := hide hqv
        clear hqn hqv
        have HB1 := hide (HB0.out.alloc HB0.out.size (.cells #[.int .i64 r, .int .i64 n] 23))
        cases ok with
        | false =>
          have hp : numText p = none := by
            rcases HP.out with ⟨h, _⟩ | ⟨_, h⟩
            · cases h
            · exact h
          have NN := hide (show idText mayId l = none by rw [HI.out, hp])
          clear hp
          go_wp2
          go_returns
          exact parsed_no NN.out rfl HB1.out
        | true =>
          have hp : numText p = some r := by
            rcases HP.out with ⟨_, h⟩ | ⟨h, _⟩
            · exact h
            · cases h
          cases is with
          | false =>
            have hq : numText q = none := by
              rcases HQ.out with ⟨h, _⟩ | ⟨_, h⟩
              · cases h
              · exact h
            have NN := hide (show idText mayId l = none by rw [HI.out, hp, hq])
            clear hp hq
            go_wp2
            go_returns
            exact parsed_no NN.out rfl HB1.out
          | true =>
            have hq : numText q = some n := by
              rcases HQ.out with ⟨_, h⟩ | ⟨h, _⟩
              · exact h
              · cases h
            have hi : idText mayId l = if mayId r n then some (r, n) else none := by rw [HI.out, hp, hq]
            have HI2 := hide hi
            clear hp hq hi
            go_wp2_with fail
            refine (refmay_any r n _).mono ?_
            rintro e w2 ⟨rfl, hb2⟩
            have hs2 : (w.alloc (.cells #[.int .i64 0, .int .i64 0] 23)).heap.size = w.heap.size + 1 := by simp
            have B1 := (Blk.new (w.alloc (.cells #[.int .i64 0, .int .i64 0] 23)) 23 #[.int .i64 r, .int .i64 n]).below hb2 (by simp)
            have B0 := (HC0.out.alloc (.cells #[.int .i64 r, .int .i64 n] 23)).below hb2 (by simp; omega)
            rw [hs2] at B1
            have a0 := (B1.cell 0).trans rfl
            have a1 := (B1.cell 1).trans rfl
            have z0 := (B0.cell 0).trans rfl
            have z1 := (B0.cell 1).trans rfl
            have f0 := B0.frozen 0
            have f1 := B0.frozen 1
            have HB2 := hide (HB1.out.trans (hb2.mono HB1.out.size))
            have HB3 := hide (((HB2.out.setCell (p := ⟨w.heap.size, 0, none⟩) (Nat.le_refl _) (.int .i64 r)).setCell (p := ⟨w.heap.size, 1, none⟩) (Nat.le_refl _) (.int .i64 n)))
            have HB4 := hide (((HB2.out.setCell (p := ⟨w.heap.size, 0, none⟩) (Nat.le_refl _) (.int .i64 0)).setCell (p := ⟨w.heap.size, 1, none⟩) (Nat.le_refl _) (.int .i64 0)))
            have s0 : (w2.setCell ⟨w.heap.size, 0, none⟩ (.int .i64 r)).cell? ⟨w.heap.size, 0, none⟩ = some (.int .i64 r) := ((B0.store 0 _).cell 0).trans rfl
            have s1 : ((w2.setCell ⟨w.heap.size, 0, none⟩ (.int .i64 r)).setCell ⟨w.heap.size, 1, none⟩ (.int .i64 n)).cell? ⟨w.heap.size, 1, none⟩ = some (.int .i64 n) := (((B0.store 0 _).store 1 _).cell 1).trans rfl
            have t0 : (w2.setCell ⟨w.heap.size, 0, none⟩ (.int .i64 0)).cell? ⟨w.heap.size, 0, none⟩ = some (.int .i64 0) := ((B0.store 0 _).cell 0).trans rfl
            have t1 : ((w2.setCell ⟨w.heap.size, 0, none⟩ (.int .i64 0)).setCell ⟨w.heap.size, 1, none⟩ (.int .i64 0)).cell? ⟨w.heap.size, 1, none⟩ = some (.int .i64 0) := (((B0.store 0 _).store 1 _).cell 1).trans rfl
            clear B0 B1 hb2
            cases hm : mayId r n with
            | true =>
              rw [hm] at HI2
              have YY := hide (show idText mayId l = some (r, n) from HI2.out)
              clear HI2
              go_wp2
              (try simp only [Exit.inBlock, Exit.then])
              refine bodyPost_ret (by simp [results, Tryd.results18, go_sem, s0, s1]; try rfl) rfl ?_
              exact parsed_yes YY.out rfl HB3.out
            | false =>
              rw [hm] at HI2
              have NN := hide (show idText mayId l = none from HI2.out)
              clear HI2
              go_wp2
              (try simp only [Exit.inBlock, Exit.then])
              refine bodyPost_ret (by simp [results, Tryd.results18, go_sem, t0, t1]; try rfl) rfl ?_
              exact parsed_no NN.out rfl HB4.out
      · have hne : (l.getD j 0).toNat ≠ 46 := fun h => hdot (UInt8.toNat_inj.1 (by rw [h]; rfl))
        have hnd2 : (46 : UInt8) ∉ l.take (j + 1) := by
          rw [htk]
          intro h
          rcases List.mem_append.1 h with h | h
          · exact hnd.out h
          · exact hdot (List.mem_singleton.1 h).symm
        have HN2 := hide hnd2
        clear htk hnd2 hdot
        generalize (l.getD j 0).toNat = c at *
        have hnb : ((c : Int) != 46) = true := by simp; omega
        go_wp2
        go_round
        case rel => exact ⟨j + 1, by omega, by go_num, HN2⟩
        case measure => simp [intOf]; omega
    · obtain rfl : j = l.length := by omega
      have hnd := hnd.out
      rw [List.take_length] at hnd
      have NN := hide (idText_nodot hnd)
      clear hnd hlt
      go_wp2
      go_returns
      exact parsed_no NN.out rfl HB0.out
end Go.Proofs.YtkdnplaoondlbaaDoor
