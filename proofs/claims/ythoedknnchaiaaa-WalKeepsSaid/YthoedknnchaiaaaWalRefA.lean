/-
  The reference's log: Append.
-/
import Derived.Test.YthoedknnchaiaaaWalRefS
import Derived.Test.YthoedknnchaiaaaFrameRef
import Derived.Test.YthoedknnchaiaaaAppE
import Derived.Maps.AppendAt
import Derived.Deep.DeepCutAuto
import Derived.Deep.Cut
import Derived.Deep.CutRange
namespace Go.Proofs.Ythoedknnchaiaaa
open Go.RowKit
set_option linter.unusedVariables false

theorem own_lt8 {w : World} {base : Nat} {e : TypeId} {size : Nat} {v : Value} {n : Nat} {xs : List Value} (h : w.ownsRow base e size v n xs) : ∀ g, v.ownBlock = some g → g < w.heap.size := fun g hg => (h.lt g hg).2
theorem own_len8 {w : World} {base : Nat} {e : TypeId} {size : Nat} {v : Value} {n : Nat} {xs : List Value} (h : w.ownsRow base e size v n xs) : ∃ A c, v = .slice A n c := by
  rcases h.2 with ⟨h1, h2⟩ | ⟨g, cap, cur, h1, _⟩
  · exact ⟨none, 0, by rw [h1, h2]⟩
  · exact ⟨_, _, h1⟩
theorem allF_len7 (xs : List (List Int)) : 7 * xs.length ≤ (allF xs).length := by
  induction xs with
  | nil => exact Nat.le_refl _
  | cons x xs ih =>
    show 7 * (xs.length + 1) ≤ (frameOf x ++ allF xs).length
    rw [List.length_append, frameOf_len]
    omega
/-- A record more. -/
theorem append_rec {w : World} {v : Value} {nr s : Nat} {vs : List Value} {u : Value} (h : w.ownsRow 0 32 1 v nr vs) (hu : ∀ j u', [u][j]? = some u' → w.cell? ((⟨s, 0, none⟩ : Addr).add j) = some u') (hn : nr ≤ 100000) (ho : u.oneCell' = true := by rfl) (ty : TypeId := 37) :
    ∃ v2 w', (Builtin.append_ #[37, 37] ty #[v, .slice (some ⟨s, 0, none⟩) 1 1]).run Try.prog w = .ok v2 w' ∧ w'.ownsRow 0 32 1 v2 (nr + 1) (vs ++ [u]) ∧ w.grownBy w' v.ownBlock ∧ (v2.ownBlock = v.ownBlock ∨ v2.ownBlock = some w.heap.size) := by
  obtain ⟨i6, hi, hz0, hz1, hz2⟩ := info_parts info24
  obtain ⟨v2, w', h1, h2, h3, _, h5⟩ := run_append_own_at (P := Try.prog) w 0 37 ty 32 i6 (.slice none 0 0) 1 24 Try.underlying37 hi hz0 hz1 hz2 rfl (by decide) v nr vs h ⟨s, 0, none⟩ 1 1 [u] rfl hu (by intro u' hu'; rw [List.mem_singleton.1 hu']; exact ho) (by unfold maxLen; omega) (by omega) (Nat.zero_le _)
  exact ⟨v2, w', h1, h2, h3, h5⟩
/-- Behind a record more: the row of v, nr long, that lies in the log's third cell, has one more. -/
def Pushed (l : Nat) (T : TypeId) (cs : Array Value) (v : Value) (nr : Nat) (vs : List Value) (n : Nat) (x : List Int) (w5 W : World) : Prop :=
  ∃ (RA' : Option Addr) (rc' aA capA : Nat), Blk W l T (cs.setIfInBounds 3 (.slice RA' (nr + 1) rc')) ∧ W.ownsRow 0 32 1 (.slice RA' (nr + 1) rc') (nr + 1) (vs ++ [.slice (some ⟨aA, 0, none⟩) n capA]) ∧ Row W (· = aA) (some ⟨aA, 0, none⟩) n capA (octs x) ∧
    w5.heap.size ≤ aA ∧ aA < W.heap.size ∧ Touch (fun b => b = l ∨ v.ownBlock = some b) w5 W ∧ (Value.slice RA' (nr + 1) rc').ownBlock ≠ some aA ∧ ((Value.slice RA' (nr + 1) rc').ownBlock = v.ownBlock ∨ ∃ s, (Value.slice RA' (nr + 1) rc').ownBlock = some s ∧ w5.heap.size ≤ s ∧ s < W.heap.size)
theorem pushed_end {l : Nat} {T : TypeId} {cs : Array Value} {v v2 : Value} {nr n : Nat} {vs : List Value} {x : List Int} {w5 wC wD : World} {aA capA : Nat} {curA : Array Value} (hl : Blk w5 l T cs) (hlv : v.ownBlock ≠ some l) (hvl : ∀ b, v.ownBlock = some b → b < w5.heap.size) (hS : Since w5 wC)
    (hA : Blk wC aA 5 curA) (ha1 : w5.heap.size ≤ aA) (ha3 : n ≤ capA) (ha4 : capA ≤ 9223372036854775807) (ha5 : curA.size = capA) (ha6 : curA.toList.take n = octs x) (hxn : x.length = n)
    (h1 : wD.ownsRow 0 32 1 v2 (nr + 1) (vs ++ [.slice (some ⟨aA, 0, none⟩) n capA])) (h2 : wC.grownBy wD v.ownBlock) (h3 : v2.ownBlock = v.ownBlock ∨ v2.ownBlock = some wC.heap.size) :
    Blk wD l T cs ∧ Pushed l T cs v nr vs n x w5 (wD.setCell ⟨l, 3, none⟩ v2) := by
  have hsz : w5.heap.size ≤ wC.heap.size := Below.size (show Below w5.heap.size w5 wC from hS)
  have hlC : Blk wC l T cs := hl.below hS hl.lt
  have hlD : Blk wD l T cs := (h2.block l hlC.lt (fun e => hlv e.symm)).trans hlC
  have hlt := own_lt8 h1
  have hl5 := hl.lt
  obtain ⟨RA', rc', rfl⟩ := own_len8 h1
  have hal := hA.lt
  have hav : v.ownBlock ≠ some aA := fun e => by have := hvl aA e; omega
  have haD : Blk wD aA 5 curA := (h2.block aA hal (fun e => hav e.symm)).trans hA
  have hne : (Value.slice RA' (nr + 1) rc').ownBlock ≠ some l := fun e => by
    rcases h3 with h | h
    · rw [e] at h; exact hlv h.symm
    · rw [e] at h; injection h with h; omega
  refine ⟨hlD, RA', rc', aA, capA, hlD.store 3 _, own_keep h1 fun b hb => Below.heap_setCell wD ⟨l, 3, none⟩ _ b (fun e => hne (hb.trans (congrArg some e))), ?_, ha1, ?_, ?_, ?_, ?_⟩
  · refine ⟨by rw [octs_len, hxn], ha3, ha4, .inr ⟨aA, 0, rfl, rfl, fun j hj => ?_⟩⟩
    rw [Nat.zero_add, (haD.far (p := ⟨l, 3, none⟩) (fun e => by have := e; simp at this; omega) _).cell j, ← ha6, List.getElem?_take, if_pos hj]
    simp
  · have := haD.lt
    simpa using this
  · have t1 := (Touch.of_below (show Below w5.heap.size w5 wC from hS)).mono (Q := fun b => b = l ∨ v.ownBlock = some b) fun _ _ h => h.elim
    have t2 := t1.trans ((Touch.of_grown h2).mono (Q := fun b => b = l ∨ v.ownBlock = some b) fun _ _ h => .inr h) fun _ _ h => h
    exact t2.setCell (p := ⟨l, 3, none⟩) (fun _ => .inl rfl) _
  · intro e
    rcases h3 with h | h
    · rw [e] at h; exact hav h.symm
    · rw [e] at h; injection h with h; omega
  · rcases h3 with h | h
    · exact .inl h
    · refine .inr ⟨_, h, hsz, ?_⟩
      have := hlt _ h
      simpa using this

/-- What a call leaves that writes nothing. -/
theorem RLog.still {R : Nat → Prop} {l g a c : Nat} {k : Dk} {m : Lm} {w W : World} (h : RLog R w l g a c k m) (hb : Below w.heap.size w W) (v : Value) : RStep R l g a c k m v w W (.returned v) := by
  have hs := h
  obtain ⟨cur, RA, rc, PA, pc, vs, h1, h2, h3, h4, h5, h6, h7, h8⟩ := h
  exact ⟨rfl, (Touch.of_below hb).mono fun _ _ h => h.elim, R, hs.keep hb.size (fun b hb' => hb.block b (h3.2.2.2.2.2 b hb')), fun b hb => .inl hb⟩

/-- A record is pending, too. -/
theorem RLog.pushed {R : Nat → Prop} {l g a c : Nat} {k : Dk} {m : Lm} {cur : Array Value} {RA PA' : Option Addr} {rc pc' n : Nat} {vs : List Value} {x : List Int} {w w5 W : World} (hd : m.dur ≤ m.recs.length) (hxo : Octs x) (hxn : x.length = n)
    (d : l ≠ g ∧ l ≠ a ∧ R l ∧ R g ∧ R a ∧ ∀ b, R b → b < w.heap.size) (hk5 : Rk w5 g a c cur k)
    (hp5 : w5.ownsRow 0 5 1 (.slice PA' (m.pend.length + (n + 7)) pc') (m.pend.length + (n + 7)) (octs m.pend ++ octs (frameOf x)))
    (hv' : ∀ b, (Value.slice PA' (m.pend.length + (n + 7)) pc').ownBlock = some b → ((R b ∧ b ≠ l ∧ b ≠ g ∧ b ≠ a) ∨ w.heap.size ≤ b) ∧ b < w5.heap.size)
    (h7 : ∀ b, (Value.slice RA m.recs.length rc).ownBlock = some b → R b ∧ b ≠ l ∧ b ≠ g ∧ b ≠ a ∧ (Value.slice PA' (m.pend.length + (n + 7)) pc').ownBlock ≠ some b)
    (hV5 : Vals w5 (fun b => R b ∧ b ≠ l ∧ b ≠ g ∧ b ≠ a ∧ (Value.slice PA' (m.pend.length + (n + 7)) pc').ownBlock ≠ some b ∧ (Value.slice RA m.recs.length rc).ownBlock ≠ some b) vs m.recs) (ht5 : Touch R w w5)
    (hP : Pushed l 64 #[.pointer (some ⟨g, 0, none⟩), .int .i64 (m.n : Int), .int .i64 (m.at_ : Int), .slice RA m.recs.length rc, .int .i64 (m.dur : Int), .slice PA' (m.pend.length + (n + 7)) pc'] (.slice RA m.recs.length rc) m.recs.length vs n x w5 W) :
    RStep R l g a c k { m with recs := m.recs ++ [x] } (.int .i64 0) w W (.returned (.int .i64 0)) := by
  obtain ⟨d1, d2, d3, d4, d5, d6⟩ := d
  obtain ⟨RA', rc', aA, capA, p1, p2, p3, p4, p5, p6, p7, p8⟩ := hP
  have e1 : ({ m with recs := m.recs ++ [x] } : Lm).at_ = m.at_ := by
    show (allF ((m.recs ++ [x]).take m.dur)).length = _
    rw [List.take_append_of_le_length hd]
    rfl
  have e2 : ({ m with recs := m.recs ++ [x] } : Lm).pend = m.pend ++ frameOf x := by
    show allF ((m.recs ++ [x]).drop m.dur) = _
    rw [List.drop_append_of_le_length hd, allF_append, allF_one]
    rfl
  have e3 : ({ m with recs := m.recs ++ [x] } : Lm).pend.length = m.pend.length + (n + 7) := by rw [e2, List.length_append, frameOf_len, hxn]
  have e4 : ({ m with recs := m.recs ++ [x] } : Lm).recs.length = m.recs.length + 1 := by simp
  have hs5 := ht5.size
  have hs6 := p6.size
  have keep : ∀ b, b < w5.heap.size → b ≠ l → (Value.slice RA m.recs.length rc).ownBlock ≠ some b → W.heap[b]? = w5.heap[b]? := fun b hb h1 h2 => p6.block b hb fun h => h.elim h1 h2
  have hnr : ∀ b, R b → (b ≠ g → False) ∨ (b = g → False) ∨ True := fun _ _ => .inr (.inr trivial)
  have hga : (Value.slice RA m.recs.length rc).ownBlock ≠ some g ∧ (Value.slice RA m.recs.length rc).ownBlock ≠ some a := ⟨fun h => (h7 g h).2.2.1 rfl, fun h => (h7 a h).2.2.2.1 rfl⟩
  have hT : Touch R w W := ht5.trans (p6.mono (Q := fun b => R b ∨ w.heap.size ≤ b) fun b _ h => h.elim (fun h => .inl (h ▸ d3)) (fun h => .inl (h7 b h).1)) fun b hb h => h.elim id (fun h => by omega)
  refine ⟨rfl, hT, fun b => R b ∨ (w.heap.size ≤ b ∧ b < W.heap.size), ?_, fun b hb => hb.elim .inl (fun h => .inr h.1)⟩
  refine ⟨cur, RA', rc', PA', pc', vs ++ [.slice (some ⟨aA, 0, none⟩) n capA], hk5.keep (keep g hk5.1.lt (Ne.symm d1) hga.1) (keep a hk5.2.1.lt (Ne.symm d2) hga.2), ?_,
    ⟨d1, d2, .inl d3, .inl d4, .inl d5, fun b hb => hb.elim (fun h => by have := d6 b h; omega) (fun h => h.2)⟩, ?_, ?_, ?_, ?_, ?_⟩
  · rw [e1, e3, e4]
    exact p1
  · rw [e3, e2, ← octs_append]
    exact own_keep hp5 fun b hb => keep b (hv' b hb).2 (fun h => by
      rcases (hv' b hb).1 with h2 | h2
      · exact h2.2.1 h
      · have := d6 l d3; omega) (fun h => (h7 b h).2.2.2.2 hb)
  · rw [e4]
    exact p2
  · rw [e3]
    intro b hb
    have h := hv' b hb
    rcases h.1 with h2 | h2
    · exact ⟨.inl h2.1, h2.2⟩
    · exact ⟨.inr ⟨h2, by omega⟩, fun e => by have := d6 l d3; omega, fun e => by have := d6 g d4; omega, fun e => by have := d6 a d5; omega⟩
  · rw [e3, e4]
    intro b hb
    rcases p8 with h | ⟨s, h, h2, h3⟩
    · have h7b := h7 b (h ▸ hb)
      exact ⟨.inl h7b.1, h7b.2⟩
    · rw [hb] at h
      injection h with h
      subst h
      exact ⟨.inr ⟨by omega, h3⟩, fun e => by have := d6 l d3; omega, fun e => by have := d6 g d4; omega, fun e => by have := d6 a d5; omega, fun e => by have := (hv' _ e).2; omega⟩
  · rw [e3, e4]
    have hal : w.heap.size ≤ aA := by omega
    refine Vals.snoc (hV5.turn fun {A n' c' xs} r => ?_) (p3.mono fun b hb => ?_) hxo
    · refine (r.keep fun b hb hlt => keep b hlt hb.2.1 hb.2.2.2.2.2).mono fun b hb => ⟨.inl hb.1, hb.2.1, hb.2.2.1, hb.2.2.2.1, hb.2.2.2.2.1, fun h => ?_⟩
      rcases p8 with h9 | ⟨s, h9, h2, h3⟩
      · exact hb.2.2.2.2.2 (h9 ▸ h)
      · rw [h] at h9
        injection h9 with h9
        have := d6 b hb.1
        omega
    · subst hb
      exact ⟨.inr ⟨hal, p5⟩, fun e => by have := d6 l d3; omega, fun e => by have := d6 g d4; omega, fun e => by have := d6 a d5; omega, fun e => by have := (hv' _ e).2; omega, p7⟩

set_option maxHeartbeats 4000000 in
set_option maxRecDepth 100000 in
theorem refappend_any {R Q : Nat → Prop} {l g a c : Nat} {k : Dk} {m : Lm} (A : Option Addr) (n cx : Nat) (x : List Int) (w : World) (h : RLog R w l g a c k m) (hx : Row w Q A n cx (octs x)) (hxo : Octs x) (hq : ∀ b, Q b → b < w.heap.size → ¬ R b) (hn1 : m.n ≤ 127) (hu : m.used ≤ 32 * m.n) (hd : m.dur ≤ m.recs.length) (hnb : n ≤ 140737488355000) :
    Calls Try.prog 32 #[.pointer (some ⟨l, 0, none⟩), .slice A n cx] w fun e w' => RStep R l g a c k (appendL m x).1 (.int .i64 (appendL m x).2) w w' e := by
  obtain rfl : n = x.length := by rw [← hx.1, octs_len]
  have HS := hide (fun (W : World) (hb : Below w.heap.size w W) (v : Value) => h.still hb v)
  by_cases h0 : x.length = 0
  · have e1 : appendL m x = (m, 4) := by unfold appendL; rw [if_pos h0]
    rw [e1]
    generalize x.length = n at *
    subst h0
    clear h hx e1
    go_enter Try.func32, Try.ntmps32
    go_wp2
    go_ret
    exact HS.out _ (Below.refl _ _) _
  by_cases h4 : 4096 < x.length
  · have e1 : appendL m x = (m, 5) := by unfold appendL; rw [if_neg h0, if_pos h4]
    rw [e1]
    generalize hxl : x.length = n at *
    have h0' : ((n : Int) == 0) = false := by rw [beq_eq_false_iff_ne]; omega
    have h4' : (4096 : Int) < (n : Int) := by omega
    clear h hx e1
    go_enter Try.func32, Try.ntmps32
    go_wp2
    go_ret
    exact HS.out _ (Below.refl _ _) _
  have hfl := frameOf_len x
  have hfo := frameOf_octs hxo
  have HX0 := hide hx
  have HXO := hide hxo
  have HR := hide h
  have HR0 := hide h
  have HQ := hide hq
  have h0' : ((x.length : Int) == 0) = false := by rw [beq_eq_false_iff_ne]; omega
  have h4' : ¬ (4096 : Int) < (x.length : Int) := by omega
  have hput := refframe_put Q A _ cx x w hx hxo hnb
  have HPUT := hide hput
  have hxb : x.length ≤ 4096 := by omega
  have hx1 : 1 ≤ x.length := by omega
  have HFL := hide hfl
  generalize hN : x.length = n at *
  clear h hx hxo hput hq h0 h4
  go_enter Try.func32, Try.ntmps32
  go_wp2_with fail
  refine HPUT.out.mono ?_
  rintro e w2 ⟨A6, c6, rfl, hown, hb2⟩
  rw [hfl] at hown ⊢
  have HOWN := hide hown
  have HB2 := hide hb2
  clear hown hb2
  have hR2 := HR.out.keep HB2.out.size (fun b hb => by
    obtain ⟨cur, RA, rc, PA, pc, vs, h1, h2, h3, h4, h5, h6, h7, h8⟩ := HR.out
    exact HB2.out.block b (h3.2.2.2.2.2 b hb))
  have HR2 := hide hR2
  have HRO := hide (refroom_any w2 hR2 hn1 hu)
  clear hR2
  go_wp2_with fail
  refine HRO.out.mono ?_
  rintro e w3 ⟨rfl, q, rfl⟩
  have HB3 := hide (below_drewN HB2.out q)
  have HR3 := hide (show RLog R (w2.drewN q) l g a c k m from HR2.out.keep (Nat.le_refl _) (fun b hb => rfl))
  have HOWN3 := hide (show (w2.drewN q).ownsRow w.heap.size 5 1 (.slice A6 (n + 7) c6) (n + 7) (octs (frameOf x)) from HOWN.out)
  generalize w2.drewN q = w3 at *
  clear HRO HR2 HB2 HOWN HPUT HR
  by_cases hf : 32 * m.n < m.used + (n + 7)
  · have e1 : appendL m x = (m, 10) := by unfold appendL; rw [if_neg (by omega), if_neg (by omega), if_pos (by rw [hN]; exact hf)]
    have HE := hide e1
    have hf' : 32 * (m.n : Int) - (m.used : Int) < (n : Int) + 7 := by omega
    clear e1
    go_wp2
    go_ret
    rw [HE.out]
    exact HS.out _ HB3.out _
  · have e1 : appendL m x = ({ m with recs := m.recs ++ [x] }, 0) := by unfold appendL; rw [if_neg (by omega), if_neg (by omega), if_neg (by rw [hN]; exact hf)]
    have HE := hide e1
    have hf' : ¬ 32 * (m.n : Int) - (m.used : Int) < (n : Int) + 7 := by omega
    obtain ⟨cur, RA, rc, PA, pc, vs, h1, h2, h3, h4, h5, h6, h7, h8⟩ := HR3.out
    obtain ⟨d1, d2, d3, d4, d5, d6⟩ := h3
    have hlw : ∀ b, R b → b < w.heap.size := by
      obtain ⟨_, _, _, _, _, _, _, _, h3, _⟩ := HR0.out
      exact h3.2.2.2.2.2
    have hus := m.used_split
    have c5 := (h2.cell 5).trans rfl
    obtain ⟨i5, hi, hz0, hz1, hz2⟩ := info_parts info5
    have hrf := own_row8 HOWN3.out
    obtain ⟨fb, fo, rfl, hfq, hflt, hfc⟩ := hrf.some_ (by omega)
    have hfb : w.heap.size ≤ fb := own_block HOWN3.out fb rfl
    have HRF := hide hrf
    have HPO := hide h4
    have HB := hide h2
    have HOR3 := hide h5
    have HV3 := hide h8
    have HK3 := hide h1
    have HUS := hide hus
    have hpb : m.pend.length + (n + 7) ≤ 4096 := by omega
    clear e1 h1 h2 h4 h5 h8 hrf hfc hus hf hu
    go_wp2_with (at_builtin; refine wpList_append_own_at _ rfl _ _ 32 rfl 0 5 i5 (.int .u8 0) 1 1 Try.underlying32 hi hz0 hz1 hz2 rfl (by decide) _ m.pend.length _ rfl HPO.out ⟨fb, fo, none⟩ (n + 7) c6 (octs (frameOf x)) rfl ?c1 ?c2 (octs_one _) ?c3 ?c4 (Nat.zero_le _) ?_)
    case c1 => rw [octs_len, HFL.out, Nat.mul_one]
    case c2 => exact fun j u hu => HRF.out.add_cell hu
    case c3 => unfold maxLen; omega
    case c4 => omega
    intro v' w4 hown4 hgrow _ hvb
    have hT4 := (Touch.of_below HB3.out).mono (Q := R) fun _ _ h => h.elim
    have hw3 := HB3.out.size
    have hw4 := hgrow.size
    have hvl := own_lt8 hown4
    obtain ⟨PA', pc', rfl⟩ := own_len8 hown4
    have hpl : (Value.slice PA m.pend.length pc).ownBlock ≠ some l := fun h => (h6 l h).2.1 rfl
    have B4 : Blk w4 l 64 _ := (hgrow.block l HB.out.lt (fun e => hpl e.symm)).trans HB.out
    have f5 := B4.frozen 5
    have v5 := (B4.cell 5).trans rfl
    have B5 := B4.store 5 (.slice PA' (m.pend.length + (n + 7)) pc')
    have keep4 : ∀ b, b < w3.heap.size → b ≠ l → (Value.slice PA m.pend.length pc).ownBlock ≠ some b → (w4.setCell ⟨l, 5, none⟩ (.slice PA' (m.pend.length + (n + 7)) pc')).heap[b]? = w3.heap[b]? := fun b hb h1 h2 =>
      (Below.heap_setCell w4 ⟨l, 5, none⟩ _ b h1).trans (hgrow.block b hb (fun e => h2 e.symm))
    have hl4 : w4.heap.size = (w4.setCell ⟨l, 5, none⟩ (.slice PA' (m.pend.length + (n + 7)) pc')).heap.size := by simp
    have hlw3 := d6 l d3
    have P5 := own_keep hown4 (w' := w4.setCell ⟨l, 5, none⟩ (.slice PA' (m.pend.length + (n + 7)) pc')) fun b hb => Below.heap_setCell w4 ⟨l, 5, none⟩ _ b (fun e => by
      rcases hvb with h | h
      · exact hpl (h ▸ (hb.trans (congrArg some e)))
      · rw [hb] at h; injection h with h; have e : b = l := e; omega)
    have T5 : Touch R w (w4.setCell ⟨l, 5, none⟩ (.slice PA' (m.pend.length + (n + 7)) pc')) := (hT4.trans ((Touch.of_grown hgrow).mono (Q := fun b => R b) fun b _ h => (h6 b h).1) fun b hb h => h).setCell (p := ⟨l, 5, none⟩) (fun _ => d3) _
    have K5 := HK3.out.keep (keep4 g HK3.out.1.lt (Ne.symm d1) fun h => (h6 g h).2.2.1 rfl) (keep4 a HK3.out.2.1.lt (Ne.symm d2) fun h => (h6 a h).2.2.2 rfl)
    have OR5 := own_keep HOR3.out fun b hb => keep4 b (own_lt8 HOR3.out b hb) (h7 b hb).2.1 (h7 b hb).2.2.2.2
    have hv5 : ∀ b, (Value.slice PA' (m.pend.length + (n + 7)) pc').ownBlock = some b → ((R b ∧ b ≠ l ∧ b ≠ g ∧ b ≠ a) ∨ w.heap.size ≤ b) ∧ b < (w4.setCell ⟨l, 5, none⟩ (.slice PA' (m.pend.length + (n + 7)) pc')).heap.size := fun b hb => by
      refine ⟨?_, by rw [← hl4]; exact hvl b hb⟩
      rcases hvb with h | h
      · exact .inl (h6 b (h ▸ hb))
      · rw [hb] at h; injection h with h; right; omega
    have h75 : ∀ b, (Value.slice RA m.recs.length rc).ownBlock = some b → R b ∧ b ≠ l ∧ b ≠ g ∧ b ≠ a ∧ (Value.slice PA' (m.pend.length + (n + 7)) pc').ownBlock ≠ some b := fun b hb => ⟨(h7 b hb).1, (h7 b hb).2.1, (h7 b hb).2.2.1, (h7 b hb).2.2.2.1, fun e => by
      rcases hvb with h | h
      · exact (h7 b hb).2.2.2.2 (h ▸ e)
      · rw [e] at h; injection h with h; have := own_lt8 HOR3.out b hb; omega⟩
    have V5 : Vals (w4.setCell ⟨l, 5, none⟩ (.slice PA' (m.pend.length + (n + 7)) pc')) (fun b => R b ∧ b ≠ l ∧ b ≠ g ∧ b ≠ a ∧ (Value.slice PA' (m.pend.length + (n + 7)) pc').ownBlock ≠ some b ∧ (Value.slice RA m.recs.length rc).ownBlock ≠ some b) vs m.recs := HV3.out.turn fun {A' n' c' xs'} r => (r.keep fun b hb hlt => keep4 b hlt hb.2.1 hb.2.2.2.2.1).mono fun b hb => ⟨hb.1, hb.2.1, hb.2.2.1, hb.2.2.2.1, fun e => by
      rcases hvb with h | h
      · exact hb.2.2.2.2.1 (h ▸ e)
      · rw [e] at h; injection h with h; have := hlw b hb.1; omega, hb.2.2.2.2.2⟩
    have X5 := HX0.out.touch T5 HQ.out
    have HFIN := hide (fun W (hP : Pushed l 64 _ _ _ _ n x _ W) => RLog.pushed (R := R) (w := w) hd HXO.out hN ⟨d1, d2, d3, d4, d5, hlw⟩ K5 P5 hv5 h75 V5 T5 hP)
    have HBL := hide B5
    have HOR := hide OR5
    have HX := hide (fun w' (h : Since (w4.setCell ⟨l, 5, none⟩ (.slice PA' (m.pend.length + (n + 7)) pc')) w') => h.row X5)
    have HLV := hide (show (Value.slice RA m.recs.length rc).ownBlock ≠ some l from fun h => (h7 l h).2.1 rfl)
    have HXN := hide hN
    have HLN := hide (show n ≤ 8192 by omega)
    have HNR := hide (show m.recs.length ≤ 100000 by have := allF_len7 m.recs; have := HUS.out; have e : m.used = (allF m.recs).length := rfl; omega)
    have z3 : ∀ w', Since (w4.setCell ⟨l, 5, none⟩ (.slice PA' (m.pend.length + (n + 7)) pc')) w' → w'.cell? ⟨l, 3, none⟩ = some (.slice RA m.recs.length rc) := fun w' h => ((B5.below h B5.lt).cell 3).trans rfl
    clear hT4 hvl hvb hown4 hgrow hpl B4 B5 keep4 P5 T5 K5 OR5 hv5 h75 V5 X5 HK3 HV3 HPO HOR3 HRF HB
    go_wp2_with fail
    generalize w4.setCell ⟨l, 5, none⟩ (.slice PA' (m.pend.length + (n + 7)) pc') = w5 at *
    refine wp_region_held_drew (S := (fun _ => True)) (by kernel_rfl) trivial (fun hHeld => ?_)
    refine wpAnyH_taken (i := 0) (v := ?_) rfl rfl (by kernel_rfl) (by kernel_rfl) (by kernel_rfl) (fun _ _ _ h => h) (Or.inl ⟨by rfl, ?_⟩) (by assumption) ?_
    rotate_left 1
    · intro w hSw
      (try dsimp only at hSw)
      go_simp
      try with_reducible rfl
    simp only [List.setIfInBounds_toArray, List.set_cons_zero, List.set_cons_succ]
    refine wpAnyH_taken (i := 1) (v := ?_) rfl rfl (by kernel_rfl) (by kernel_rfl) (by kernel_rfl) (fun _ _ _ h => h) (Or.inl ⟨by rfl, ?_⟩) (by assumption) ?_
    rotate_left 1
    · intro w hSw
      (try dsimp only at hSw)
      go_simp
      try with_reducible rfl
    simp only [List.setIfInBounds_toArray, List.set_cons_zero, List.set_cons_succ]
    refine wpAnyH_taken (i := 2) (v := ?_) rfl rfl (by kernel_rfl) (by kernel_rfl) (by kernel_rfl) (fun _ _ _ h => h) (Or.inl ⟨by rfl, ?_⟩) (by assumption) ?_
    rotate_left 1
    · intro w hSw
      (try dsimp only at hSw)
      go_simp
      try with_reducible rfl
    simp only [List.setIfInBounds_toArray, List.set_cons_zero, List.set_cons_succ]
    refine wpAnyH_taken (i := 3) (v := ?_) rfl rfl (by kernel_rfl) (by kernel_rfl) (by kernel_rfl) (fun _ _ _ h => h) (Or.inl ⟨by rfl, ?_⟩) (by assumption) ?_
    rotate_left 1
    · intro w hSw
      (try dsimp only at hSw)
      go_simp
      try with_reducible rfl
    simp only [List.setIfInBounds_toArray, List.set_cons_zero, List.set_cons_succ]
    have hS := (Since.refl w5).drew
    generalize w5.drew = w6 at *
    refine wpAnyH_taken (i := 6) (v := ?_) rfl rfl (by kernel_rfl) (by kernel_rfl) (by kernel_rfl) (fun _ _ _ h => h) (Or.inl ⟨by rfl, ?_⟩) (by assumption) ?_
    rotate_left 1
    · intro w hSw
      (try dsimp only at hSw)
      go_simp
      try with_reducible rfl
    simp only [List.setIfInBounds_toArray, List.set_cons_zero, List.set_cons_succ]
    refine wpAnyH_ready (rs := [4, 5]) (by kernel_rfl) (by simp) ?_
    refine AllReadyH.cons rfl (fun K hK => ?_) ?_
    · have zl := z3 w6 hS
      go_simp
      refine hK.out _ _ ?_ (fun hHeld => ?_)
      · assumption
      clear hK K zl
      refine wpAnyH_ready (rs := [5]) (by kernel_rfl) (by simp) ?_
      refine AllReadyH.cons rfl (fun K hK => ?_) AllReadyH.nil
      go_simp
      have hge : w5.heap.size ≤ w6.heap.size := Below.size (show Below w5.heap.size w5 w6 from hS)
      have hE := own_mono (World.ownsRow_lit (base := w6.heap.size) (e := 5) (size := 1) w6 #[] 0 (Nat.le_refl _) (by unfold maxLen; omega) rfl) hge
      have hS := Since.alloc hS (.cells #[] 5)
      refine hK.out _ _ ?_ (fun hHeld => ?_)
      · trivial
      clear hK K
      generalize w6.alloc (.cells #[] 5) = wB at *
      generalize w6.heap.size = ge at *
      refine wpAnyH_ready (rs := [7]) (by kernel_rfl) (by simp) ?_
      refine AllReadyH.cons rfl (fun K hK => ?_) AllReadyH.nil
      obtain ⟨aA, capA, curA, wA, hrunA, ha1, hA, ha3, ha4, ha5, ha6, hgr, hor⟩ := append_empty hE (HX.out _ hS) HLN.out (Below.size (show Below w5.heap.size w5 wB from hS)) 32
      have hS := since_grown hS hgr hge
      rw [if_pos (by rfl)]
      refine append_op _ _ _ rfl rfl rfl rfl hrunA ?_
      simp only [List.setIfInBounds_toArray, List.set_cons_zero, List.set_cons_succ]
      refine hK.out _ _ ?_ (fun hHeld => ?_)
      · trivial
      clear hK K hrunA hE hor hgr
      refine wpAnyH_ready (rs := [8]) (by kernel_rfl) (by simp) ?_
      refine AllReadyH.cons rfl (fun K hK => ?_) AllReadyH.nil
      go_simp
      have hnew := cell_one_new wA (.slice (some ⟨aA, 0, none⟩) n capA) 32
      have hsA : wA.heap.size ≠ aA := fun e => by have := hA.lt; omega
      have hA := hA.alloc (.cells #[.slice (some ⟨aA, 0, none⟩) n capA] 32)
      have hS := Since.alloc hS (.cells #[.slice (some ⟨aA, 0, none⟩) n capA] 32)
      refine hK.out _ _ ?_ (fun hHeld => ?_)
      · trivial
      clear hK K
      generalize wA.alloc (.cells #[.slice (some ⟨aA, 0, none⟩) n capA] 32) = wC at *
      generalize wA.heap.size = sA at *
      refine wpAnyH_ready (rs := [9]) (by kernel_rfl) (by simp) ?_
      refine AllReadyH.cons rfl (fun K hK => ?_) AllReadyH.nil
      obtain ⟨v2, wD, hrunD, hD1, hD2, hD3⟩ := append_rec (own_below HOR.out hS) hnew HNR.out
      obtain ⟨A2, c2, rfl⟩ := own_len8 hD1
      rw [if_pos (by rfl)]
      refine append_op _ _ _ rfl rfl rfl rfl hrunD ?_
      simp only [List.setIfInBounds_toArray, List.set_cons_zero, List.set_cons_succ]
      have hP := pushed_end HBL.out HLV.out (own_lt8 HOR.out) hS hA ha1 ha3 ha4 ha5 ha6 HXN.out hD1 hD2 hD3
      have fl := (hP.1).frozen 3
      have cl := ((hP.1).cell 3).trans rfl
      have hP := hP.2
      refine hK.out _ _ ?_ (fun hHeld => ?_)
      · trivial
      clear hK K hrunD
      refine wpAnyH_taken (i := 10) (v := ?_) rfl rfl (by kernel_rfl) (by kernel_rfl) (by kernel_rfl) (fun _ _ _ h => h) (Or.inl ⟨by rfl, ?_⟩) (by assumption) ?_
      rotate_left 1
      · intro w hSw
        (try dsimp only at hSw)
        go_simp
        try with_reducible rfl
      simp only [List.setIfInBounds_toArray, List.set_cons_zero, List.set_cons_succ]
      refine wpAnyH_taken (i := 11) (v := ?_) rfl rfl (by kernel_rfl) (by kernel_rfl) (by kernel_rfl) (fun _ _ _ h => h) (Or.inl ⟨by rfl, ?_⟩) (by assumption) ?_
      rotate_left 1
      · intro w hSw
        (try dsimp only at hSw)
        go_simp
        try with_reducible rfl
      simp only [List.setIfInBounds_toArray, List.set_cons_zero, List.set_cons_succ]
      refine wpAnyH_ready (rs := [12]) (by kernel_rfl) (by simp) ?_
      refine AllReadyH.cons rfl (fun K hK => ?_) AllReadyH.nil
      go_simp
      refine hK.out _ _ ?_ (fun hHeld => ?_)
      · trivial
      clear hK K
      refine wpAnyH_done (by kernel_rfl) ?_ _
      go_wp2
      go_ret
      rw [HE.out]
      exact HFIN.out _ hP
    refine AllReadyH.cons rfl (fun K hK => ?_) AllReadyH.nil
    go_simp
    have hge : w5.heap.size ≤ w6.heap.size := Below.size (show Below w5.heap.size w5 w6 from hS)
    have hE := own_mono (World.ownsRow_lit (base := w6.heap.size) (e := 5) (size := 1) w6 #[] 0 (Nat.le_refl _) (by unfold maxLen; omega) rfl) hge
    have hS := Since.alloc hS (.cells #[] 5)
    refine hK.out _ _ ?_ (fun hHeld => ?_)
    · trivial
    clear hK K
    generalize w6.alloc (.cells #[] 5) = wB at *
    generalize w6.heap.size = ge at *
    refine wpAnyH_ready (rs := [4, 7]) (by kernel_rfl) (by simp) ?_
    refine AllReadyH.cons rfl (fun K hK => ?_) ?_
    · have zl := z3 wB hS
      go_simp
      refine hK.out _ _ ?_ (fun hHeld => ?_)
      · assumption
      clear hK K zl
      refine wpAnyH_ready (rs := [7]) (by kernel_rfl) (by simp) ?_
      refine AllReadyH.cons rfl (fun K hK => ?_) AllReadyH.nil
      obtain ⟨aA, capA, curA, wA, hrunA, ha1, hA, ha3, ha4, ha5, ha6, hgr, hor⟩ := append_empty hE (HX.out _ hS) HLN.out (Below.size (show Below w5.heap.size w5 wB from hS)) 32
      have hS := since_grown hS hgr hge
      rw [if_pos (by rfl)]
      refine append_op _ _ _ rfl rfl rfl rfl hrunA ?_
      simp only [List.setIfInBounds_toArray, List.set_cons_zero, List.set_cons_succ]
      refine hK.out _ _ ?_ (fun hHeld => ?_)
      · trivial
      clear hK K hrunA hE hor hgr
      refine wpAnyH_ready (rs := [8]) (by kernel_rfl) (by simp) ?_
      refine AllReadyH.cons rfl (fun K hK => ?_) AllReadyH.nil
      go_simp
      have hnew := cell_one_new wA (.slice (some ⟨aA, 0, none⟩) n capA) 32
      have hsA : wA.heap.size ≠ aA := fun e => by have := hA.lt; omega
      have hA := hA.alloc (.cells #[.slice (some ⟨aA, 0, none⟩) n capA] 32)
      have hS := Since.alloc hS (.cells #[.slice (some ⟨aA, 0, none⟩) n capA] 32)
      refine hK.out _ _ ?_ (fun hHeld => ?_)
      · trivial
      clear hK K
      generalize wA.alloc (.cells #[.slice (some ⟨aA, 0, none⟩) n capA] 32) = wC at *
      generalize wA.heap.size = sA at *
      refine wpAnyH_ready (rs := [9]) (by kernel_rfl) (by simp) ?_
      refine AllReadyH.cons rfl (fun K hK => ?_) AllReadyH.nil
      obtain ⟨v2, wD, hrunD, hD1, hD2, hD3⟩ := append_rec (own_below HOR.out hS) hnew HNR.out
      obtain ⟨A2, c2, rfl⟩ := own_len8 hD1
      rw [if_pos (by rfl)]
      refine append_op _ _ _ rfl rfl rfl rfl hrunD ?_
      simp only [List.setIfInBounds_toArray, List.set_cons_zero, List.set_cons_succ]
      have hP := pushed_end HBL.out HLV.out (own_lt8 HOR.out) hS hA ha1 ha3 ha4 ha5 ha6 HXN.out hD1 hD2 hD3
      have fl := (hP.1).frozen 3
      have cl := ((hP.1).cell 3).trans rfl
      have hP := hP.2
      refine hK.out _ _ ?_ (fun hHeld => ?_)
      · trivial
      clear hK K hrunD
      refine wpAnyH_taken (i := 10) (v := ?_) rfl rfl (by kernel_rfl) (by kernel_rfl) (by kernel_rfl) (fun _ _ _ h => h) (Or.inl ⟨by rfl, ?_⟩) (by assumption) ?_
      rotate_left 1
      · intro w hSw
        (try dsimp only at hSw)
        go_simp
        try with_reducible rfl
      simp only [List.setIfInBounds_toArray, List.set_cons_zero, List.set_cons_succ]
      refine wpAnyH_taken (i := 11) (v := ?_) rfl rfl (by kernel_rfl) (by kernel_rfl) (by kernel_rfl) (fun _ _ _ h => h) (Or.inl ⟨by rfl, ?_⟩) (by assumption) ?_
      rotate_left 1
      · intro w hSw
        (try dsimp only at hSw)
        go_simp
        try with_reducible rfl
      simp only [List.setIfInBounds_toArray, List.set_cons_zero, List.set_cons_succ]
      refine wpAnyH_ready (rs := [12]) (by kernel_rfl) (by simp) ?_
      refine AllReadyH.cons rfl (fun K hK => ?_) AllReadyH.nil
      go_simp
      refine hK.out _ _ ?_ (fun hHeld => ?_)
      · trivial
      clear hK K
      refine wpAnyH_done (by kernel_rfl) ?_ _
      go_wp2
      go_ret
      rw [HE.out]
      exact HFIN.out _ hP
    refine AllReadyH.cons rfl (fun K hK => ?_) AllReadyH.nil
    obtain ⟨aA, capA, curA, wA, hrunA, ha1, hA, ha3, ha4, ha5, ha6, hgr, hor⟩ := append_empty hE (HX.out _ hS) HLN.out (Below.size (show Below w5.heap.size w5 wB from hS)) 32
    have hS := since_grown hS hgr hge
    rw [if_pos (by rfl)]
    refine append_op _ _ _ rfl rfl rfl rfl hrunA ?_
    simp only [List.setIfInBounds_toArray, List.set_cons_zero, List.set_cons_succ]
    refine hK.out _ _ ?_ (fun hHeld => ?_)
    · trivial
    clear hK K hrunA hE hor hgr
    refine wpAnyH_ready (rs := [4, 8]) (by kernel_rfl) (by simp) ?_
    refine AllReadyH.cons rfl (fun K hK => ?_) ?_
    · have zl := z3 wA hS
      go_simp
      refine hK.out _ _ ?_ (fun hHeld => ?_)
      · assumption
      clear hK K zl
      refine wpAnyH_ready (rs := [8]) (by kernel_rfl) (by simp) ?_
      refine AllReadyH.cons rfl (fun K hK => ?_) AllReadyH.nil
      go_simp
      have hnew := cell_one_new wA (.slice (some ⟨aA, 0, none⟩) n capA) 32
      have hsA : wA.heap.size ≠ aA := fun e => by have := hA.lt; omega
      have hA := hA.alloc (.cells #[.slice (some ⟨aA, 0, none⟩) n capA] 32)
      have hS := Since.alloc hS (.cells #[.slice (some ⟨aA, 0, none⟩) n capA] 32)
      refine hK.out _ _ ?_ (fun hHeld => ?_)
      · trivial
      clear hK K
      generalize wA.alloc (.cells #[.slice (some ⟨aA, 0, none⟩) n capA] 32) = wC at *
      generalize wA.heap.size = sA at *
      refine wpAnyH_ready (rs := [9]) (by kernel_rfl) (by simp) ?_
      refine AllReadyH.cons rfl (fun K hK => ?_) AllReadyH.nil
      obtain ⟨v2, wD, hrunD, hD1, hD2, hD3⟩ := append_rec (own_below HOR.out hS) hnew HNR.out
      obtain ⟨A2, c2, rfl⟩ := own_len8 hD1
      rw [if_pos (by rfl)]
      refine append_op _ _ _ rfl rfl rfl rfl hrunD ?_
      simp only [List.setIfInBounds_toArray, List.set_cons_zero, List.set_cons_succ]
      have hP := pushed_end HBL.out HLV.out (own_lt8 HOR.out) hS hA ha1 ha3 ha4 ha5 ha6 HXN.out hD1 hD2 hD3
      have fl := (hP.1).frozen 3
      have cl := ((hP.1).cell 3).trans rfl
      have hP := hP.2
      refine hK.out _ _ ?_ (fun hHeld => ?_)
      · trivial
      clear hK K hrunD
      refine wpAnyH_taken (i := 10) (v := ?_) rfl rfl (by kernel_rfl) (by kernel_rfl) (by kernel_rfl) (fun _ _ _ h => h) (Or.inl ⟨by rfl, ?_⟩) (by assumption) ?_
      rotate_left 1
      · intro w hSw
        (try dsimp only at hSw)
        go_simp
        try with_reducible rfl
      simp only [List.setIfInBounds_toArray, List.set_cons_zero, List.set_cons_succ]
      refine wpAnyH_taken (i := 11) (v := ?_) rfl rfl (by kernel_rfl) (by kernel_rfl) (by kernel_rfl) (fun _ _ _ h => h) (Or.inl ⟨by rfl, ?_⟩) (by assumption) ?_
      rotate_left 1
      · intro w hSw
        (try dsimp only at hSw)
        go_simp
        try with_reducible rfl
      simp only [List.setIfInBounds_toArray, List.set_cons_zero, List.set_cons_succ]
      refine wpAnyH_ready (rs := [12]) (by kernel_rfl) (by simp) ?_
      refine AllReadyH.cons rfl (fun K hK => ?_) AllReadyH.nil
      go_simp
      refine hK.out _ _ ?_ (fun hHeld => ?_)
      · trivial
      clear hK K
      refine wpAnyH_done (by kernel_rfl) ?_ _
      go_wp2
      go_ret
      rw [HE.out]
      exact HFIN.out _ hP
    refine AllReadyH.cons rfl (fun K hK => ?_) AllReadyH.nil
    go_simp
    have hnew := cell_one_new wA (.slice (some ⟨aA, 0, none⟩) n capA) 32
    have hsA : wA.heap.size ≠ aA := fun e => by have := hA.lt; omega
    have hA := hA.alloc (.cells #[.slice (some ⟨aA, 0, none⟩) n capA] 32)
    have hS := Since.alloc hS (.cells #[.slice (some ⟨aA, 0, none⟩) n capA] 32)
    refine hK.out _ _ ?_ (fun hHeld => ?_)
    · trivial
    clear hK K
    generalize wA.alloc (.cells #[.slice (some ⟨aA, 0, none⟩) n capA] 32) = wC at *
    generalize wA.heap.size = sA at *
    refine wpAnyH_ready (rs := [4]) (by kernel_rfl) (by simp) ?_
    refine AllReadyH.cons rfl (fun K hK => ?_) AllReadyH.nil
    have zl := z3 wC hS
    go_simp
    refine hK.out _ _ ?_ (fun hHeld => ?_)
    · assumption
    clear hK K zl
    refine wpAnyH_ready (rs := [9]) (by kernel_rfl) (by simp) ?_
    refine AllReadyH.cons rfl (fun K hK => ?_) AllReadyH.nil
    obtain ⟨v2, wD, hrunD, hD1, hD2, hD3⟩ := append_rec (own_below HOR.out hS) hnew HNR.out
    obtain ⟨A2, c2, rfl⟩ := own_len8 hD1
    rw [if_pos (by rfl)]
    refine append_op _ _ _ rfl rfl rfl rfl hrunD ?_
    simp only [List.setIfInBounds_toArray, List.set_cons_zero, List.set_cons_succ]
    have hP := pushed_end HBL.out HLV.out (own_lt8 HOR.out) hS hA ha1 ha3 ha4 ha5 ha6 HXN.out hD1 hD2 hD3
    have fl := (hP.1).frozen 3
    have cl := ((hP.1).cell 3).trans rfl
    have hP := hP.2
    refine hK.out _ _ ?_ (fun hHeld => ?_)
    · trivial
    clear hK K hrunD
    refine wpAnyH_taken (i := 10) (v := ?_) rfl rfl (by kernel_rfl) (by kernel_rfl) (by kernel_rfl) (fun _ _ _ h => h) (Or.inl ⟨by rfl, ?_⟩) (by assumption) ?_
    rotate_left 1
    · intro w hSw
      (try dsimp only at hSw)
      go_simp
      try with_reducible rfl
    simp only [List.setIfInBounds_toArray, List.set_cons_zero, List.set_cons_succ]
    refine wpAnyH_taken (i := 11) (v := ?_) rfl rfl (by kernel_rfl) (by kernel_rfl) (by kernel_rfl) (fun _ _ _ h => h) (Or.inl ⟨by rfl, ?_⟩) (by assumption) ?_
    rotate_left 1
    · intro w hSw
      (try dsimp only at hSw)
      go_simp
      try with_reducible rfl
    simp only [List.setIfInBounds_toArray, List.set_cons_zero, List.set_cons_succ]
    refine wpAnyH_ready (rs := [12]) (by kernel_rfl) (by simp) ?_
    refine AllReadyH.cons rfl (fun K hK => ?_) AllReadyH.nil
    go_simp
    refine hK.out _ _ ?_ (fun hHeld => ?_)
    · trivial
    clear hK K
    refine wpAnyH_done (by kernel_rfl) ?_ _
    go_wp2
    go_ret
    rw [HE.out]
    exact HFIN.out _ hP


end Go.Proofs.Ythoedknnchaiaaa
