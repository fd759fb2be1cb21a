/-
  Contracts of octet.New, and of a Reader's next, Bytes and Take.
-/
import Derived.Test.YthoedknnchaiaaaOct
import Derived.Laws.BitsAllLaws
import Derived.Lib.EndianBits
namespace Go.Proofs.Ythoedknnchaiaaa
open Go.RowKit
set_option linter.unusedVariables false

theorem Row.none_len {w : World} {P : Nat → Prop} {n c : Nat} {xs : List Value} (h : Row w P none n c xs) : n = 0 ∧ xs = [] := by
  have h0 : n = 0 := by
    rcases Nat.eq_zero_or_pos n with x | x
    · exact x
    · obtain ⟨b, o, e, _⟩ := h.some_ x
      cases e
  exact ⟨h0, List.eq_nil_of_length_eq_zero (by rw [h.1]; exact h0)⟩
theorem octs_nil {l : List Int} (h : octs l = []) : l = [] := by cases l <;> simp_all [octs]

/-- A copy: memory of its own. -/
def Cloned (w : World) (n : Nat) (l : List Int) (w' : World) (e : Ending) : Prop :=
  ∃ A' c', e = .returned (.slice A' n c') ∧ w'.ownsRow w.heap.size 5 1 (.slice A' n c') n (octs l) ∧ Below w.heap.size w w'
theorem clone_any (P : Nat → Prop) (A : Option Addr) (n c : Nat) (l : List Int) (w : World) (h : Row w P A n c (octs l)) (hn : n ≤ 140737488355328) :
    Calls Try.prog 76 #[.slice A n c] w fun e w' => Cloned w n l w' e := by
  cases A with
  | none =>
    obtain ⟨rfl, hx⟩ := h.none_len
    obtain rfl := octs_nil hx
    refine (clone_nil c w).mono ?_
    rintro e w' ⟨rfl, rfl⟩
    exact ⟨none, 0, rfl, World.ownsRow_nil _ _ _ _, Below.refl _ _⟩
  | some a => exact clone_some P a n c l w h hn

/-- A new reader of l: all that is its own is new. -/
def Made (w : World) (l : List Int) (w' : World) (e : Ending) : Prop :=
  ∃ g, e = .returned (.pointer (some ⟨g, 0, none⟩)) ∧ w.heap.size ≤ g ∧ Rdr w' (fun b => w.heap.size ≤ b) g l ∧ Below w.heap.size w w'
theorem new_any (P : Nat → Prop) (A : Option Addr) (n c : Nat) (l : List Int) (w : World) (h : Row w P A n c (octs l)) (ho : Octs l) (hn : n ≤ 140737488355328) :
    Calls Try.prog 84 #[.slice A n c] w fun e w' => Made w l w' e := by
  go_enter Try.func84, Try.ntmps84
  go_wp2_with fail
  refine (clone_any P A n c l w h hn).mono ?_
  rintro e w' ⟨A', c', rfl, hown, hb⟩
  have HO := hide hown
  have HB := hide hb
  clear hown hb h
  go_wp2
  go_ret
  have hr := Row.of_own HO.out
  have hlt : ∀ b, w.heap.size ≤ b → b < w'.heap.size → b ≠ w'.heap.size := fun b _ hb => by omega
  have hr' : Row (w'.alloc (.cells #[.slice A' n c', .bool true] 115)) (fun b => w.heap.size ≤ b ∧ b ≠ w'.heap.size) A' n c' (octs l) := by
    refine (show Row w' (fun b => w.heap.size ≤ b ∧ b ≠ w'.heap.size) A' n c' (octs l) from ?_).alloc _
    refine ⟨hr.1, hr.2.1, hr.2.2.1, ?_⟩
    rcases Nat.eq_zero_or_pos n with h0 | h0
    · exact .inl h0
    · obtain ⟨b, o, e, hp, hl, hc⟩ := hr.some_ h0
      exact .inr ⟨b, o, e, ⟨hp, by omega⟩, hc⟩
  exact ⟨w'.heap.size, rfl, HB.out.size, ⟨A', n, c', Blk.new _ _ _, hr', HB.out.size, ho⟩, HB.out.alloc HB.out.size _⟩

/-- Nothing was read: what went wrong goes on so. -/
def NoNext (g : Nat) (w w' : World) (e : Ending) : Prop := e = .returned (.tuple #[.slice none 0 0, .bool false]) ∧ Bad w' g ∧ Touch (· = g) w w'
/-- The first k were read: they lie in the reader's own memory. -/
def Next (P : Nat → Prop) (g k : Nat) (l : List Int) (w w' : World) (e : Ending) : Prop :=
  ∃ A c, e = .returned (.tuple #[.slice A k c, .bool true]) ∧ Row w' (fun b => P b ∧ b ≠ g) A k c (octs (l.take k)) ∧ Rdr w' P g (l.drop k) ∧ Touch (· = g) w w'

theorem next_nil (k : Int) (w : World) :
    Calls Try.prog 89 #[.pointer none, .int .i64 k] w fun e w' => e = .returned (.tuple #[.slice none 0 0, .bool false]) ∧ w = w' := by
  by_cases h0 : k < 0
  · go_enter Try.func89, Try.ntmps89
    go_wp2_with fail
    refine (spoil_nil _).mono ?_
    rintro e w' ⟨rfl, rfl⟩
    go_wp2_with fail
    refine (bad_nil _).mono ?_
    rintro e w' ⟨rfl, rfl⟩
    go_wp2
    go_ret2
    exact ⟨rfl, rfl⟩
  · by_cases h1 : 0 < k
    · go_enter Try.func89, Try.ntmps89
      go_wp2_with fail
      refine (left_nil _).mono ?_
      rintro e w' ⟨rfl, rfl⟩
      go_wp2_with fail
      refine (spoil_nil _).mono ?_
      rintro e w' ⟨rfl, rfl⟩
      go_wp2_with fail
      refine (bad_nil _).mono ?_
      rintro e w' ⟨rfl, rfl⟩
      go_wp2
      go_ret2
      exact ⟨rfl, rfl⟩
    · go_enter Try.func89, Try.ntmps89
      go_wp2_with fail
      refine (left_nil _).mono ?_
      rintro e w' ⟨rfl, rfl⟩
      go_wp2_with fail
      refine (bad_nil _).mono ?_
      rintro e w' ⟨rfl, rfl⟩
      go_wp2
      go_ret2
      exact ⟨rfl, rfl⟩

theorem next_bad (g : Nat) (k : Int) (w : World) (h : Bad w g) :
    Calls Try.prog 89 #[.pointer (some ⟨g, 0, none⟩), .int .i64 k] w fun e w' => NoNext g w w' e := by
  have H := hide h
  clear h
  by_cases h0 : k < 0
  · go_enter Try.func89, Try.ntmps89
    go_wp2_with fail
    refine (spoil_any _ _ _ _ H.out).mono ?_
    rintro e w' ⟨rfl, hb, ht⟩
    go_wp2_with fail
    refine (bad_any _ _ _ _ hb).mono ?_
    rintro e w' ⟨rfl, rfl⟩
    go_wp2
    go_ret2
    exact ⟨rfl, hb, ht⟩
  · by_cases h1 : 0 < k
    · go_enter Try.func89, Try.ntmps89
      go_wp2_with fail
      refine (left_bad _ _ H.out).mono ?_
      rintro e w' ⟨rfl, rfl⟩
      go_wp2_with fail
      refine (spoil_any _ _ _ _ H.out).mono ?_
      rintro e w' ⟨rfl, hb, ht⟩
      go_wp2_with fail
      refine (bad_any _ _ _ _ hb).mono ?_
      rintro e w' ⟨rfl, rfl⟩
      go_wp2
      go_ret2
      exact ⟨rfl, hb, ht⟩
    · go_enter Try.func89, Try.ntmps89
      go_wp2_with fail
      refine (left_bad _ _ H.out).mono ?_
      rintro e w' ⟨rfl, rfl⟩
      go_wp2_with fail
      refine (bad_any _ _ _ _ H.out).mono ?_
      rintro e w' ⟨rfl, rfl⟩
      go_wp2
      go_ret2
      exact ⟨rfl, H.out, Touch.refl _ _⟩

theorem next_no (P : Nat → Prop) (g : Nat) (l : List Int) (k : Int) (w : World) (h : Rdr w P g l) (hk : k < 0 ∨ (l.length : Int) < k) :
    Calls Try.prog 89 #[.pointer (some ⟨g, 0, none⟩), .int .i64 k] w fun e w' => NoNext g w w' e := by
  obtain ⟨A, n, c, hb, hr, hp, ho⟩ := h
  obtain rfl : n = l.length := by rw [← hr.1, octs_len]
  have H := hide hb
  clear hb hr ho
  by_cases h0 : k < 0
  · clear hk
    go_enter Try.func89, Try.ntmps89
    go_wp2_with fail
    refine (spoil_any _ _ _ _ H.out).mono ?_
    rintro e w' ⟨rfl, hb, ht⟩
    go_wp2_with fail
    refine (bad_any _ _ _ _ hb).mono ?_
    rintro e w' ⟨rfl, rfl⟩
    go_wp2
    go_ret2
    exact ⟨rfl, hb, ht⟩
  · have hk' : (l.length : Int) < k := by omega
    clear hk
    go_enter Try.func89, Try.ntmps89
    go_wp2_with fail
    refine (left_good _ _ _ _ _ H.out).mono ?_
    rintro e w' ⟨rfl, rfl⟩
    go_wp2_with fail
    refine (spoil_any _ _ _ _ H.out).mono ?_
    rintro e w' ⟨rfl, hb, ht⟩
    go_wp2_with fail
    refine (bad_any _ _ _ _ hb).mono ?_
    rintro e w' ⟨rfl, rfl⟩
    go_wp2
    go_ret2
    exact ⟨rfl, hb, ht⟩

theorem next_done {P : Nat → Prop} {g : Nat} {l : List Int} {k : Nat} {w : World} {A A2 : Option Addr} {c : Nat} (hb : Blk w g 115 #[.slice A l.length c, .bool true]) (hr : Row w (fun b => P b ∧ b ≠ g) A l.length c (octs l))
    (hp : P g) (ho : Octs l) (hk : k ≤ l.length) (h2 : A2 = if c = k then A else A.map (·.add k)) :
    Next P g k l w (w.setCell ⟨g, 0, none⟩ (.slice A2 (l.length - k) (c - k))) (.returned (.tuple #[.slice A k c, .bool true])) := by
  refine ⟨A, c, rfl, ?_, ⟨A2, l.length - k, c - k, hb.store 0 _, ?_, hp, ho.drop k⟩, (Touch.refl (· = g) w).setCell (fun _ => rfl) _⟩
  · have := (hr.front hk).far (p := ⟨g, 0, none⟩) (by simp) (.slice A2 (l.length - k) (c - k))
    rwa [octs_take] at this
  · have := (hr.back hk).far (p := ⟨g, 0, none⟩) (by simp) (.slice A2 (l.length - k) (c - k))
    rw [octs_drop] at this
    rw [← h2] at this
    exact this
theorem next_yes (P : Nat → Prop) (g : Nat) (l : List Int) (k : Nat) (w : World) (h : Rdr w P g l) (hk : k ≤ l.length) :
    Calls Try.prog 89 #[.pointer (some ⟨g, 0, none⟩), .int .i64 k] w fun e w' => Next P g k l w w' e := by
  obtain ⟨A, n, c, hb, hr, hp, ho⟩ := h
  obtain rfl : n = l.length := by rw [← hr.1, octs_len]
  have hcl := hr.2.1
  have hc9 := hr.2.2.1
  have h0 : w.cell? ⟨g, 0, none⟩ = some (.slice A l.length c) := hb.cell 0
  have f0 := hb.frozen 0
  have H := hide hb
  have HR := hide hr
  clear hb hr
  have hkl : ¬ ((l.length : Int) < k) := by omega
  have hk0 : ¬ ((k : Int) < 0) := by omega
  by_cases hck : c = k
  · subst hck
    go_enter Try.func89, Try.ntmps89
    go_wp2_with fail
    refine (left_good _ _ _ _ _ H.out).mono ?_
    rintro e w' ⟨rfl, rfl⟩
    go_wp2_with fail
    refine (bad_any _ _ _ _ H.out).mono ?_
    rintro e w' ⟨rfl, rfl⟩
    go_wp2
    go_ret2
    have e : l.length = c := by omega
    have := next_done (A2 := A) (k := c) H.out HR.out hp ho hk (by simp)
    simp only [e, Nat.sub_self] at this ⊢
    exact this
  · have H2 := hide hck
    clear hck
    go_enter Try.func89, Try.ntmps89
    go_wp2_with fail
    refine (left_good _ _ _ _ _ H.out).mono ?_
    rintro e w' ⟨rfl, rfl⟩
    go_wp2_with fail
    refine (bad_any _ _ _ _ H.out).mono ?_
    rintro e w' ⟨rfl, rfl⟩
    go_wp2
    go_ret2
    exact next_done H.out HR.out hp ho hk (by rw [if_neg H2.out])

/-- The octets that Bytes hands out: memory of their own. -/
def Got (P : Nat → Prop) (g k : Nat) (l : List Int) (w w' : World) (e : Ending) : Prop :=
  ∃ A c, e = .returned (.tuple #[.slice A k c, .bool true]) ∧ w'.ownsRow w.heap.size 5 1 (.slice A k c) k (octs (l.take k)) ∧ Rdr w' P g (l.drop k) ∧ Touch (· = g) w w'
theorem own_mono {w : World} {base base' : Nat} {e : TypeId} {size : Nat} {v : Value} {n : Nat} {xs : List Value} (h : w.ownsRow base e size v n xs) (hb : base' ≤ base) : w.ownsRow base' e size v n xs :=
  ⟨h.1, h.2.imp id fun ⟨g, cap, cur, hv, hg, r⟩ => ⟨g, cap, cur, hv, Nat.le_trans hb hg, r⟩⟩

/-- The number of some octets. -/
def num (l : List Int) : Int := l.foldl (fun n o => n * 256 + o) 0
theorem num_snoc (l : List Int) (o : Int) : num (l ++ [o]) = num l * 256 + o := by simp [num]
theorem num_from (l : List Int) (h : Octs l) : ∀ n : Int, 0 ≤ n → 0 ≤ l.foldl (fun n o => n * 256 + o) n ∧ l.foldl (fun n o => n * 256 + o) n < (n + 1) * 256 ^ l.length := by
  induction l with
  | nil => intro n hn; simp; omega
  | cons o l ih =>
    intro n hn
    have ho := h o (by simp)
    have h1 := ih (fun x hx => h x (by simp [hx])) (n * 256 + o) (by omega)
    refine ⟨h1.1, Int.lt_of_lt_of_le h1.2 ?_⟩
    rw [List.length_cons, Int.pow_succ, Int.mul_comm (256 ^ l.length) 256, ← Int.mul_assoc]
    exact Int.mul_le_mul_of_nonneg_right (by omega) (Int.le_of_lt (Int.pow_pos (by omega)))
theorem num_lt (l : List Int) (h : Octs l) : 0 ≤ num l ∧ num l < 256 ^ l.length := by
  have := num_from l h 0 (by omega)
  simpa [num] using this
theorem num_small (l : List Int) (h : Octs l) (k : Nat) (hk : k ≤ 7) : 0 ≤ num (l.take k) ∧ num (l.take k) ≤ 72057594037927935 := by
  have h1 := num_lt (l.take k) (h.take k)
  have h2 : (256 : Nat) ^ (l.take k).length ≤ 256 ^ 7 := Nat.pow_le_pow_right (by omega) (by simp; omega)
  have h3 : ((256 ^ (l.take k).length : Nat) : Int) = 256 ^ (l.take k).length := by simp
  omega
theorem num_more (l : List Int) (k : Nat) (hk : k < l.length) : num (l.take (k + 1)) = num (l.take k) * 256 + l.getD k 0 := by
  have e : l.take (k + 1) = l.take k ++ [l.getD k 0] := by
    rw [List.take_add_one, List.getElem?_eq_getElem hk]
    simp [List.getD, List.getElem?_eq_getElem hk]
  rw [e, num_snoc]
theorem or_oct (v z : Int) (h1 : 0 ≤ v) (h2 : v ≤ 72057594037927935) (h3 : 0 ≤ z) (h4 : z < 256) : bits .or .u64 (v * 256) z = v * 256 + z := by
  rw [u64_or _ _ (by omega) (by omega) h3 (by omega), Nat.or_comm, ← u64_or _ _ h3 (by omega) (by omega) (by omega), u64_or8 z (v * 256) h3 h4 (by omega) (by omega) (by omega), Int.add_comm]

theorem take_nil (k : Int) (w : World) :
    Calls Try.prog 85 #[.pointer none, .int .i64 k] w fun e w' => e = .returned (.tuple #[.int .u64 0, .bool false]) ∧ w = w' := by
  by_cases h : 1 ≤ k ∧ k ≤ 8
  · obtain ⟨h1, h2⟩ := h
    go_enter Try.func85, Try.ntmps85
    go_wp2_with fail
    refine (wide_yes _ _ h1 h2).mono ?_
    rintro e w' ⟨rfl, rfl⟩
    go_wp2_with fail
    refine (next_nil _ _).mono ?_
    rintro e w' ⟨rfl, rfl⟩
    go_wp2
    go_rounds 1
    go_ret2
    exact ⟨rfl, rfl⟩
  · have H := hide (show k < 1 ∨ 8 < k by omega)
    clear h
    go_enter Try.func85, Try.ntmps85
    go_wp2_with fail
    refine (wide_no _ _ H.out).mono ?_
    rintro e w' ⟨rfl, rfl⟩
    go_wp2_with fail
    refine (spoil_nil _).mono ?_
    rintro e w' ⟨rfl, rfl⟩
    go_wp2
    go_ret2
    exact ⟨rfl, rfl⟩

/-- No number was taken. -/
def NoTake (g : Nat) (w w' : World) (e : Ending) : Prop := e = .returned (.tuple #[.int .u64 0, .bool false]) ∧ Bad w' g ∧ Touch (· = g) w w'
theorem take_bad (g : Nat) (k : Int) (w : World) (h : Bad w g) :
    Calls Try.prog 85 #[.pointer (some ⟨g, 0, none⟩), .int .i64 k] w fun e w' => NoTake g w w' e := by
  have HB := hide h
  clear h
  by_cases h : 1 ≤ k ∧ k ≤ 8
  · obtain ⟨h1, h2⟩ := h
    go_enter Try.func85, Try.ntmps85
    go_wp2_with fail
    refine (wide_yes _ _ h1 h2).mono ?_
    rintro e w' ⟨rfl, rfl⟩
    go_wp2_with fail
    refine (next_bad _ _ _ HB.out).mono ?_
    rintro e w' ⟨rfl, hb, ht⟩
    go_wp2
    go_rounds 1
    go_ret2
    exact ⟨rfl, hb, ht⟩
  · have H := hide (show k < 1 ∨ 8 < k by omega)
    clear h
    go_enter Try.func85, Try.ntmps85
    go_wp2_with fail
    refine (wide_no _ _ H.out).mono ?_
    rintro e w' ⟨rfl, rfl⟩
    go_wp2_with fail
    refine (spoil_any _ _ _ _ HB.out).mono ?_
    rintro e w' ⟨rfl, hb, ht⟩
    go_wp2
    go_ret2
    exact ⟨rfl, hb, ht⟩
theorem take_no (P : Nat → Prop) (g : Nat) (l : List Int) (k : Int) (w : World) (h : Rdr w P g l) (hk : k < 1 ∨ 8 < k ∨ (l.length : Int) < k) :
    Calls Try.prog 85 #[.pointer (some ⟨g, 0, none⟩), .int .i64 k] w fun e w' => NoTake g w w' e := by
  have HB := hide h
  clear h
  by_cases h : 1 ≤ k ∧ k ≤ 8
  · have HK := hide (show k < 0 ∨ (l.length : Int) < k by omega)
    obtain ⟨h1, h2⟩ := h
    clear hk
    go_enter Try.func85, Try.ntmps85
    go_wp2_with fail
    refine (wide_yes _ _ h1 h2).mono ?_
    rintro e w' ⟨rfl, rfl⟩
    go_wp2_with fail
    refine (next_no P _ _ _ _ HB.out HK.out).mono ?_
    rintro e w' ⟨rfl, hb, ht⟩
    go_wp2
    go_rounds 1
    go_ret2
    exact ⟨rfl, hb, ht⟩
  · have H := hide (show k < 1 ∨ 8 < k by omega)
    clear h hk
    obtain ⟨A, n, c, hb, _⟩ := HB.out
    have HC := hide hb
    clear hb
    go_enter Try.func85, Try.ntmps85
    go_wp2_with fail
    refine (wide_no _ _ H.out).mono ?_
    rintro e w' ⟨rfl, rfl⟩
    go_wp2_with fail
    refine (spoil_any _ _ _ _ HC.out).mono ?_
    rintro e w' ⟨rfl, hb, ht⟩
    go_wp2
    go_ret2
    exact ⟨rfl, hb, ht⟩

/-- A number was taken. -/
def Took (P : Nat → Prop) (g k : Nat) (l : List Int) (w w' : World) (e : Ending) : Prop :=
  e = .returned (.tuple #[.int .u64 (num (l.take k)), .bool true]) ∧ Rdr w' P g (l.drop k) ∧ Touch (· = g) w w'
theorem take_yes (P : Nat → Prop) (g : Nat) (l : List Int) (k : Nat) (w : World) (h : Rdr w P g l) (hk : k ≤ l.length) (h1 : 1 ≤ k) (h8 : k ≤ 8) :
    Calls Try.prog 85 #[.pointer (some ⟨g, 0, none⟩), .int .i64 k] w fun e w' => Took P g k l w w' e := by
  have HB := hide h
  clear h
  go_enter Try.func85, Try.ntmps85
  go_wp2_with fail
  refine (wide_yes _ _ (by omega) (by omega)).mono ?_
  rintro e w' ⟨rfl, rfl⟩
  go_wp2_with fail
  refine (next_yes P _ _ _ _ HB.out hk).mono ?_
  rintro e w1 ⟨A, c, rfl, hr, hd, ht⟩
  obtain ⟨b, o, rfl, -, hblt, hc⟩ := hr.some_ (by omega)
  have HD := hide hd
  have HT := hide ht
  have HC := hide hc
  clear hd ht hr hc
  go_wp2
  have hm : (l.take k).length = k := by simp; omega
  have HM := hide hm
  clear hm
  have hoct : Octs (l.take k) := by
    obtain ⟨_, _, _, _, _, _, ho⟩ := HB.out
    exact ho.take k
  have HOC := hide hoct
  clear hoct
  generalize hmk : l.take k = m at *
  have HMK := hide hmk
  clear hmk
  go_loop [8, 24] (fun v i => ∃ j : Nat, j ≤ k ∧ i = .int .i64 j ∧ v = .int .u64 (num (m.take j))) (fun _ i => k - (intOf i).toNat)
  case atStart => exact ⟨0, Nat.zero_le _, rfl, rfl⟩
  case round =>
    obtain ⟨j, hj, rfl, rfl⟩ := hrel
    by_cases hlt : j < k
    · have hcell := (HC.out j hlt).trans (octs_at m j (by rw [HM.out]; exact hlt))
      have h1 := num_small m HOC.out j (by omega)
      have h2 := HOC.out.getD j
      have hm := hide (num_more m j (by rw [HM.out]; exact hlt))
      generalize num (m.take j) = v at *
      generalize m.getD j 0 = z at *
      have h3 := hide (or_oct v z h1.1 h1.2 h2.1 h2.2)
      go_wp2
      go_round
      case rel => exact ⟨j + 1, by omega, by go_num, by rw [h3.out, hm.out]⟩
      case measure => simp [intOf]; omega
    · have e : j = k := by omega
      subst e
      have HE := hide (show m.take j = m from List.take_of_length_le (by rw [HM.out]; omega))
      go_wp2
      go_ret2
      refine ⟨?_, HD.out, HT.out⟩
      rw [HMK.out]
      show Ending.returned (.tuple #[.int .u64 (num (m.take j)), _]) = _
      rw [HE.out]
      rfl

end Go.Proofs.Ythoedknnchaiaaa
