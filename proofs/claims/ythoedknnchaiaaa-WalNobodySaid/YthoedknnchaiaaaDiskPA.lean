/-
  The program's contracts of layer 11: Read, All.
-/
import Derived.Test.YthoedknnchaiaaaDiskPS
import Derived.Test.YthoedknnchaiaaaApp
namespace Go.Proofs.Ythoedknnchaiaaa
open Go.RowKit
set_option linter.unusedVariables false

/-- Sector j's octets, as a row. -/
theorem Secs.row {w : World} {s m c : Nat} {b : List Int} (h : Secs w s m c b) {j : Nat} (hj : j < m) : Row w (· = s) (some ⟨s, j * 32, none⟩) 32 32 (octs ((b.drop (j * 32)).take 32)) := by
  have hl := h.len
  refine ⟨by rw [octs_len, List.length_take, List.length_drop]; omega, by omega, by omega, .inr ⟨s, j * 32, rfl, rfl, fun i hi => ?_⟩⟩
  rw [h.cell (by omega), ← octs_take, ← octs_drop, List.getElem?_take, if_pos hi, List.getElem?_drop]
theorem Secs.range {w : World} {s m c : Nat} {b : List Int} (h : Secs w s m c b) {j : Nat} (hj : j < m) : w.rangeAt s (j * 32) (octs ((b.drop (j * 32)).take 32)) := fun i v hv => by
  have hl := h.len
  have hi : i < 32 := by
    rcases Nat.lt_or_ge i 32 with x | x
    · exact x
    · rw [List.getElem?_eq_none (by rw [octs_len, List.length_take]; omega)] at hv; cases hv
  rw [h.cell (by omega), ← hv, ← octs_take, ← octs_drop, List.getElem?_take, if_pos hi, List.getElem?_drop]

theorem dread_any {P : Nat → Prop} {d m : Nat} {k : Dk} (i : Int) (w : World) (h : Dsk w P d k) (hk : k.ok m) (hi : I64' i) : Calls Try.prog 59 #[.pointer (some ⟨d, 0, none⟩), .int .i64 i] w fun e w' => FreshB w (k.read i) (decide (k.has i)) w' e := by
  obtain ⟨s, m', sc, hd, hP⟩ := h
  obtain rfl := hd.secs hk
  have RE := hide (reaches_at i hd hk hi)
  have hsec := Dk.secs hk
  by_cases hh : k.has i
  · have e1 : k.read i = (k.b.drop (32 * i.toNat)).take 32 := if_pos hh
    have e2 : decide (k.has i) = true := decide_eq_true hh
    rw [e2] at RE
    rw [e1, e2]
    obtain ⟨h0, h1, h2⟩ := hh
    obtain ⟨j, rfl⟩ := Int.eq_ofNat_of_zero_le h0
    have hj : j < m := by rw [hsec] at h1; omega
    have hr := hd.2.1.row hj
    have HC := hide (clone_any _ _ _ _ _ w hr (by omega))
    have hb := hd.1
    have q1 : w.cell? ⟨d, 1, none⟩ = some (.slice (some ⟨s, 0, none⟩) m sc) := (hb.cell 1).trans rfl
    have hmc : m ≤ sc := by obtain ⟨_, _, h, _⟩ := hd.2.1; exact h
    have hscb : sc ≤ 9223372036854775807 := by obtain ⟨_, _, _, h, _⟩ := hd.2.1; exact h
    have hl : ((k.b.drop (32 * ((j : Int)).toNat)).take 32).length = 32 := by rw [List.length_take, List.length_drop, hd.2.1.len]; omega
    have HL := hide (show (k.b.drop (j * 32)).take 32 = (k.b.drop (32 * ((j : Int)).toNat)).take 32 by rw [show 32 * ((j : Int)).toNat = j * 32 by omega])
    rw [HL.out] at HC
    have HN := hide hl
    generalize (k.b.drop (32 * ((j : Int)).toNat)).take 32 = x at *
    clear hd hk hP hr hb h0 h1 h2 e1 e2 hl hsec HL
    go_enter Try.func59, Try.ntmps59
    go_wp2_with fail
    refine RE.out.mono ?_
    rintro e w' ⟨rfl, rfl⟩
    go_wp2_with fail
    refine HC.out.mono ?_
    rintro e w' ⟨A', c', rfl, hown, hbl⟩
    have HO := hide hown
    have HB := hide hbl
    clear hown hbl
    go_wp2
    go_ret2
    exact ⟨A', c', by rw [HN.out]; rfl, by rw [HN.out]; exact HO.out, HB.out⟩
  · have e1 : k.read i = [] := if_neg hh
    have e2 : decide (k.has i) = false := decide_eq_false hh
    rw [e2] at RE
    rw [e1, e2]
    clear hd hk hP hsec hh e1 e2
    go_enter Try.func59, Try.ntmps59
    go_wp2_with fail
    refine RE.out.mono ?_
    rintro e w' ⟨rfl, rfl⟩
    go_wp2
    go_ret2
    exact ⟨none, 0, rfl, ⟨rfl, .inl ⟨rfl, rfl⟩⟩, Below.refl _ _⟩

theorem own_held {w w' : World} {base : Nat} {e : TypeId} {size : Nat} {v : Value} {n : Nat} {xs : List Value} (h : w.ownsRow base e size v n xs) (hk : ∀ g, g < w.heap.size → w'.heap[g]? = w.heap[g]?) : w'.ownsRow base e size v n xs := by
  obtain ⟨h1, h2⟩ := h
  refine ⟨h1, h2.imp id ?_⟩
  rintro ⟨g, cap, cur, hv, hb, hg, h3⟩
  exact ⟨g, cap, cur, hv, hb, (hk g (Array.getElem?_eq_some_iff.1 hg).1).trans hg, h3⟩
abbrev zero32 : Array Value := #[.int .u8 0, .int .u8 0, .int .u8 0, .int .u8 0, .int .u8 0, .int .u8 0, .int .u8 0, .int .u8 0, .int .u8 0, .int .u8 0, .int .u8 0, .int .u8 0, .int .u8 0, .int .u8 0, .int .u8 0, .int .u8 0, .int .u8 0, .int .u8 0, .int .u8 0, .int .u8 0, .int .u8 0, .int .u8 0, .int .u8 0, .int .u8 0, .int .u8 0, .int .u8 0, .int .u8 0, .int .u8 0, .int .u8 0, .int .u8 0, .int .u8 0, .int .u8 0]
theorem zero32_size : zero32.size = 32 := rfl
theorem info32 : (Try.prog.info? 80).map (·.size) = some 32 := by kernel_rfl
theorem dall_any {P : Nat → Prop} {d m : Nat} {k : Dk} (w : World) (h : Dsk w P d k) (hk : k.ok m) : Calls Try.prog 27 #[.pointer (some ⟨d, 0, none⟩)] w fun e w' => Fresh w k.b w' e := by
  obtain ⟨s, m', sc, hd, hP⟩ := h
  obtain rfl := hd.secs hk
  obtain ⟨i5, hi, hz0, hz1, hz2⟩ := info_parts info5
  have hb := hd.1
  have q0 : w.cell? ⟨d, 0, none⟩ = some (.bool true) := (hb.cell 0).trans rfl
  have q1 : w.cell? ⟨d, 1, none⟩ = some (.slice (some ⟨s, 0, none⟩) m sc) := (hb.cell 1).trans rfl
  have hmc : m ≤ sc := by obtain ⟨_, _, h, _⟩ := hd.2.1; exact h
  have hscb : sc ≤ 9223372036854775807 := by obtain ⟨_, _, _, h, _⟩ := hd.2.1; exact h
  have hm := hk.2.1
  have HS := hide hd.2.1
  have HL := hide hd.2.1.len
  clear hd hk hP hb
  generalize k.b = b at *
  go_enter Try.func27, Try.ntmps27
  go_wp2_with fail
  refine (real_at w d true q0).mono ?_
  rintro e w' ⟨rfl, rfl⟩
  go_wp2_with fail
  go_loopw [3, 14] (fun v i wr => ∃ (j : Nat), j ≤ m ∧ i = .int .i64 j ∧ Hid (∃ A' c', v = .slice A' (j * 32) c') ∧ Hid (wr.ownsRow w.heap.size 5 1 v (j * 32) (octs (b.take (j * 32)))) ∧ Hid (Below w.heap.size w wr)) (fun _ i _ => m - (intOf i).toNat)
  case atStart => exact ⟨0, Nat.zero_le _, rfl, hide ⟨none, 0, by rw [Nat.zero_mul]⟩, hide (by rw [Nat.zero_mul]; exact ⟨rfl, .inl ⟨rfl, rfl⟩⟩), hide (Below.refl _ _)⟩
  case round =>
    obtain ⟨j, hj, rfl, hv, how, hbl⟩ := hrel
    obtain ⟨A', c', rfl⟩ := hv.out
    by_cases hlt : j < m
    · have hS : Secs wr s m sc b := HS.out.keep (hbl.out.block s HS.out.lt)
      have hra := hS.range hlt
      have hx : (octs ((b.drop (j * 32)).take 32)).length = 32 := by rw [octs_len, List.length_take, List.length_drop, HL.out]; omega
      have hk1 : octs (b.take (j * 32)) ++ octs ((b.drop (j * 32)).take 32) = octs (b.take ((j + 1) * 32)) := by
        rw [octs_append, ← List.take_add, show (j + 1) * 32 = j * 32 + 32 by omega]
      have h1 := octs_one ((b.drop (j * 32)).take 32)
      have HK := hide hk1
      generalize octs ((b.drop (j * 32)).take 32) = x at *
      have hsz : (Try.prog.info? 80).map (·.size) = some x.length := by rw [hx]; exact info32
      have hsz2 : (Try.prog.info? 80).map (·.size) = some x.toArray.size := by rw [List.size_toArray]; exact hsz
      have hone : x.toArray.all (·.oneCell') = true := all_oneCell_toArray h1
      have HX := hide hx
      have HZ := hide hsz
      have HZ2 := hide hsz2
      have HO := hide hone
      have H1 := hide h1
      have HR := hide hra
      have HJ := hide (show j * 32 + 32 = (j + 1) * 32 by omega)
      obtain ⟨b1, b2, b3⟩ := var_new wr 80 (Z := zero32) (C := x.toArray) (zero32_size.trans (by rw [List.size_toArray, hx]))
      obtain ⟨W3, hW3⟩ : ∃ W3, W3 = (wr.alloc (.cells zero32 80)).setCells wr.heap.size 0 x.toArray.toList := ⟨_, rfl⟩
      rw [← hW3] at b1 b2
      have hrow : Row W3 (fun _ => True) (some ⟨wr.heap.size, 0, none⟩) 32 32 x := ⟨hx, by omega, by omega, .inr ⟨wr.heap.size, 0, rfl, trivial, fun i hi => by rw [Nat.zero_add, b1.cell i, List.getElem?_toArray]⟩⟩
      have HTH := hide b3
      have HROW := hide hrow
      have HW3 := hide hW3
      have HOW := hide (own_held how.out fun g hg => b2.block g hg)
      have HBL := hide (hbl.out.trans (b2.mono hbl.out.size))
      clear hx hk1 h1 hsz hsz2 hone hra hS hv b1 b2 b3 hW3 hrow how hbl
      go_wp2_with (first
        | (refine wpList_load_row (by rfl) 80 _ rfl _ _ rfl x _ HR.out Try.underlying80 rfl HZ.out ?_)
        | (refine wpList_store_row (by rfl) 80 _ _ rfl _ _ x.toArray rfl rfl HTH.out HZ2.out HO.out ?_; rw [← HW3.out])
        | (at_builtin; refine wpList_append_row _ rfl _ _ 32 rfl w.heap.size 5 i5 (.int .u8 0) 1 Try.underlying32 hi hz0 hz1 hz2 rfl _ (j * 32) _ rfl HOW.out _ (some ⟨wr.heap.size, 0, none⟩) 32 32 x rfl HROW.out H1.out ?h1 ?h2 ?h3 ?_))
      case h1 => unfold maxLen; omega
      case h2 => omega
      case h3 => exact HBL.out.size
      intro v2 w2 hown hgr _
      obtain ⟨A2, c2', rfl⟩ := own_form hown
      have HB2 := hide (HBL.out.grown hgr HBL.out.size (fun g hg => (HOW.out.lt g hg).1))
      rw [HK.out] at hown
      have HO2 := hide hown
      clear hown hgr
      go_wp2
      go_roundw
      case rel => exact ⟨j + 1, by omega, by go_num, hide ⟨A2, c2', by rw [← HJ.out]⟩, hide (by have := HO2.out; rw [HJ.out] at this ⊢; exact this), HB2⟩
      case measure => simp [intOf]; omega
    · obtain rfl : j = m := by omega
      have how := how.out
      have HW := hide (show wr.ownsRow w.heap.size 5 1 (.slice A' (j * 32) c') (j * 32) (octs b) from by rw [List.take_of_length_le (Nat.le_of_eq HL.out)] at how; exact how)
      clear how hlt hv
      go_wp2
      go_ret
      exact ⟨A', c', by rw [HL.out]; rfl, by rw [HL.out]; exact HW.out, hbl.out⟩
end Go.Proofs.Ythoedknnchaiaaa
