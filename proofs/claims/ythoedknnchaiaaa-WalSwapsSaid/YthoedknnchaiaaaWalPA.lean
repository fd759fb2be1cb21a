/-
  The program's halves and log: how they lie in memory; the small ones of their functions.
-/
import Derived.Test.YthoedknnchaiaaaWalD
import Derived.Test.YthoedknnchaiaaaFrameP
import Derived.Test.YthoedknnchaiaaaLater
import Derived.Test.YthoedknnchaiaaaWalRefS
import Derived.Deep.QuietTactic
import Derived.BigQuiet
import Derived.IntWalk
import Derived.Test.YthoedknnchaiaaaSliceRow
import Derived.Deep.RegionHeld
import Derived.Test.YthoedknnchaiaaaApp
namespace Go.Proofs.Ythoedknnchaiaaa
open Go.RowKit
set_option linter.unusedVariables false

/-- Which half. -/
def hi_ (o : Bool) : Int := if o then 1 else 0
/-- The sector i of a half. -/
def plc (o : Bool) (n i : Nat) : Nat := (if o then 1 + n else 1) + i
/-- At g a disk's halves begin. -/
def HvAt (w : World) (g d : Nat) (o : Bool) : Prop := w.cell? ⟨g, 0, none⟩ = some (.pointer (some ⟨d, 0, none⟩)) ∧ w.cell? ⟨g, 1, none⟩ = some (.int .i64 (hi_ o))
theorem HvAt.keep {w w' : World} {g d : Nat} {o : Bool} (h : HvAt w g d o) (hk : w'.heap[g]? = w.heap[g]?) : HvAt w' g d o :=
  ⟨(World.cell?_of_block (a := ⟨g, 0, none⟩) hk).trans h.1, (World.cell?_of_block (a := ⟨g, 1, none⟩) hk).trans h.2⟩
abbrev oddLCells : Array Value := #[.pointer none, .int .i64 0, .slice none 0 0, .int .i64 0]
def OddL (w : World) (g : Nat) : Prop := Blk w g 57 oddLCells
theorem oddl_keep {w w' : World} {g : Nat} (h : OddL w g) (hk : w'.heap[g]? = w.heap[g]?) : OddL w' g := hk.trans h
theorem oddl_lt {w : World} {g : Nat} (h : OddL w g) : g < w.heap.size := Blk.lt h
theorem oddl_new (w : World) : OddL (w.alloc (.cells oddLCells 57)) w.heap.size := Blk.new w _ _

/-- At l, with the blocks of P, is a log upon the disk at d: its frames lie in memory of its own. -/
def LogAt (w : World) (P : Nat → Prop) (l d : Nat) (o : Bool) (m : Lm) : Prop :=
  ∃ A c, Blk w l 57 #[.pointer (some ⟨d, 0, none⟩), .int .i64 (hi_ o), .slice A m.used c, .int .i64 (m.at_ : Int)] ∧ w.ownsRow 0 5 1 (.slice A m.used c) m.used (octs (allF m.recs)) ∧
    (∀ b, P b ↔ b = l ∨ (Value.slice A m.used c).ownBlock = some b) ∧ (Value.slice A m.used c).ownBlock ≠ some l
/-- .. and the half that counts is the one that the disk tells, where that is not dead. -/
def LogM (w : World) (P : Nat → Prop) (l d : Nat) (k : Dk) (m : Lm) : Prop := ∃ o, LogAt w P l d o m ∧ (k.dead = false → o = bitOf k)
theorem LogAt.lt {w : World} {P : Nat → Prop} {l d : Nat} {o : Bool} {m : Lm} (h : LogAt w P l d o m) : ∀ i, P i → i < w.heap.size := by
  obtain ⟨A, c, h1, h2, h3, h4⟩ := h
  intro i hi
  rcases (h3 i).1 hi with rfl | hi
  · exact h1.lt
  · exact (h2.lt i hi).2
theorem LogAt.keep {w w' : World} {P : Nat → Prop} {l d : Nat} {o : Bool} {m : Lm} (h : LogAt w P l d o m) (hk : ∀ i, P i → i < w.heap.size → w'.heap[i]? = w.heap[i]?) : LogAt w' P l d o m := by
  have hl := h.lt
  obtain ⟨A, c, h1, h2, h3, h4⟩ := h
  exact ⟨A, c, (hk l ((h3 l).2 (.inl rfl)) h1.lt).trans h1, own_keep h2 fun b hb => hk b ((h3 b).2 (.inr hb)) (hl b ((h3 b).2 (.inr hb))), h3, h4⟩
theorem log_lt {w : World} {P : Nat → Prop} {l d : Nat} {k : Dk} {m : Lm} (h : LogM w P l d k m) : ∀ i, P i → i < w.heap.size := by
  obtain ⟨o, h, -⟩ := h
  exact h.lt
theorem log_keep {w w' : World} {P : Nat → Prop} {l d : Nat} {k : Dk} {m : Lm} (h : LogM w P l d k m) (hs : w.heap.size ≤ w'.heap.size) (hk : ∀ i, P i → i < w.heap.size → w'.heap[i]? = w.heap[i]?) : LogM w' P l d k m := by
  obtain ⟨o, h, ho⟩ := h
  exact ⟨o, h.keep hk, ho⟩
theorem log_arm {w : World} {P : Nat → Prop} {l d : Nat} {k : Dk} {m : Lm} (a : Int) (h : LogM w P l d k m) : LogM w P l d (k.arm a) m := by
  obtain ⟨o, h, ho⟩ := h
  exact ⟨o, h, fun hd => by
    rw [arm_dead] at hd
    rw [ho hd]
    unfold bitOf
    rw [arm_b]⟩

/-! ### Small ones -/
theorem wreal_nil (w : World) : Calls Try.prog 37 #[.pointer none] w fun e w' => e = .returned (.bool false) ∧ w = w' := by
  go_enter Try.func37, Try.ntmps37
  go_wp2
  go_ret
  exact ⟨rfl, rfl⟩
theorem wreal_yes (w : World) (g d : Nat) (h : w.cell? ⟨g, 0, none⟩ = some (.pointer (some ⟨d, 0, none⟩))) : Calls Try.prog 37 #[.pointer (some ⟨g, 0, none⟩)] w fun e w' => e = .returned (.bool true) ∧ w = w' := by
  go_enter Try.func37, Try.ntmps37
  go_wp2
  go_ret
  exact ⟨rfl, rfl⟩
theorem wreal_no (w : World) (g : Nat) (h : w.cell? ⟨g, 0, none⟩ = some (.pointer none)) : Calls Try.prog 37 #[.pointer (some ⟨g, 0, none⟩)] w fun e w' => e = .returned (.bool false) ∧ w = w' := by
  go_enter Try.func37, Try.ntmps37
  go_wp2
  go_ret
  exact ⟨rfl, rfl⟩
theorem wlen_any {P : Nat → Prop} {d m : Nat} {k : Dk} (w : World) (h : Dsk w P d k) (hk : k.ok m) : Calls Try.prog 65 #[.pointer (some ⟨d, 0, none⟩)] w fun e w' => e = .returned (.int .i64 (m : Int)) ∧ w = w' := by
  obtain ⟨s, n, c, hd, -⟩ := h
  obtain rfl := hd.secs hk
  have hn := hk.2.1
  have h0 : w.cell? ⟨d, 0, none⟩ = some (.bool true) := (hd.1.cell 0).trans rfl
  have h1 : w.cell? ⟨d, 1, none⟩ = some (.slice (some ⟨s, 0, none⟩) m c) := (hd.1.cell 1).trans rfl
  clear hd hk
  go_enter Try.func65, Try.ntmps65
  go_wp2_with fail
  refine (real_at w d true h0).mono ?_
  rintro e w' ⟨rfl, rfl⟩
  go_wp2
  go_ret
  exact ⟨rfl, rfl⟩
theorem wsectors_any {P : Nat → Prop} {g d n : Nat} {o : Bool} {k : Dk} (w : World) (hv : HvAt w g d o) (h : Dsk w P d k) (hk : k.ok (2 * n + 1)) : Calls Try.prog 66 #[.pointer (some ⟨g, 0, none⟩)] w fun e w' => e = .returned (.int .i64 (n : Int)) ∧ w = w' := by
  have hn := hk.2.1
  have h0 := hv.1
  have HL := hide (wlen_any w h hk)
  obtain ⟨M, hM⟩ : ∃ M : Int, ((2 * n + 1 : Nat) : Int) = M := ⟨_, rfl⟩
  have hd : M.tdiv 2 = (n : Int) := by rw [Int.tdiv_eq_ediv_of_nonneg (by omega)]; omega
  have hw : IntKind.i64.wrap (n : Int) = (n : Int) := by rw [IntKind.wrap_i64]; omega
  rw [hM] at HL
  clear hM hv h hk
  go_enter Try.func66, Try.ntmps66
  go_wp2_with fail
  refine HL.out.mono ?_
  rintro e w' ⟨rfl, rfl⟩
  go_wp2
  go_ret
  exact ⟨by simp, rfl⟩
theorem wsize_any {P : Nat → Prop} {g d n : Nat} {o : Bool} {k : Dk} (w : World) (hv : HvAt w g d o) (h : Dsk w P d k) (hk : k.ok (2 * n + 1)) : Calls Try.prog 49 #[.pointer (some ⟨g, 0, none⟩)] w fun e w' => e = .returned (.int .i64 ((32 * n : Nat) : Int)) ∧ w = w' := by
  have hn := hk.2.1
  have HL := hide (wsectors_any w hv h hk)
  have HE := hide (show ((32 * n : Nat) : Int) = (n : Int) * 32 by omega)
  have hnb : (n : Int) ≤ 127 := by omega
  clear hv h hk hn
  go_enter Try.func49, Try.ntmps49
  go_wp2_with fail
  refine HL.out.mono ?_
  rintro e w' ⟨rfl, rfl⟩
  go_wp2
  go_ret
  rw [HE.out]
  exact ⟨rfl, rfl⟩
theorem wplace_any {P : Nat → Prop} {g d n : Nat} {o u : Bool} {k : Dk} (i : Nat) (w : World) (hv : HvAt w g d u) (h : Dsk w P d k) (hk : k.ok (2 * n + 1)) (hi : i ≤ 200) :
    Calls Try.prog 62 #[.pointer (some ⟨g, 0, none⟩), .int .i64 (hi_ o), .int .i64 (i : Int)] w fun e w' => e = .returned (.int .i64 ((plc o n i : Nat) : Int)) ∧ w = w' := by
  have hn := hk.2.1
  have HL := hide (wsectors_any w hv h hk)
  have hnb : (n : Int) ≤ 127 := by omega
  clear hv h hk hn
  cases o
  · have HE := hide (show ((plc false n i : Nat) : Int) = 1 + (i : Int) by simp [plc])
    show Calls _ _ #[_, .int .i64 0, _] _ _
    go_enter Try.func62, Try.ntmps62
    go_wp2_with fail
    refine HL.out.mono ?_
    rintro e w' ⟨rfl, rfl⟩
    go_wp2
    go_ret
    rw [HE.out]
    exact ⟨by simp, rfl⟩
  · have HE := hide (show ((plc true n i : Nat) : Int) = 1 + (n : Int) + (i : Int) by simp [plc])
    show Calls _ _ #[_, .int .i64 1, _] _ _
    go_enter Try.func62, Try.ntmps62
    go_wp2_with fail
    refine HL.out.mono ?_
    rintro e w' ⟨rfl, rfl⟩
    go_wp2
    go_ret
    rw [HE.out]
    exact ⟨by simp, rfl⟩
set_option maxRecDepth 100000 in
theorem wand_one : ∀ i : Fin 256, bits .and .u8 ((i.val : Nat) : Int) 1 = ((i.val : Nat) : Int) % 2 := by decide
theorem wand_1 {y : Int} (h : 0 ≤ y ∧ y < 256) : bits .and .u8 y 1 = y % 2 := by
  have := wand_one ⟨y.toNat, by omega⟩
  rwa [show (((⟨y.toNat, by omega⟩ : Fin 256).val : Nat) : Int) = y by show ((y.toNat : Nat) : Int) = y; omega] at this
/-- The half that octets tell. -/
theorem wtold_any {P : Nat → Prop} (A : Option Addr) (n c : Nat) (l : List Int) (w : World) (h : Row w P A n c (octs l)) (ho : Octs l) (hn : 1 ≤ n) :
    Calls Try.prog 60 #[.slice A n c] w fun e w' => e = .returned (.int .i64 (hi_ (decide (l.getD 0 0 % 2 = 1)))) ∧ w = w' := by
  obtain ⟨b, o, rfl, -, -, hc⟩ := h.some_ (by omega)
  have hl := h.len
  rw [octs_len] at hl
  have hcap := h.2.1
  have hcb := h.2.2.1
  have c0 := (hc 0 (by omega)).trans (octs_at l 0 (by omega))
  have hy := ho.getD 0
  rw [Nat.add_zero] at c0
  generalize l.getD 0 0 = y at *
  have ha := wand_1 hy
  have HE := hide (show hi_ (decide (y % 2 = 1)) = y % 2 by unfold hi_; by_cases h : y % 2 = 1 <;> simp [h] <;> omega)
  have hr : 0 ≤ y % 2 ∧ y % 2 ≤ 1 := by omega
  generalize y % 2 = z at *
  clear hc h ho hl hy
  go_enter Try.func60, Try.ntmps60
  go_wp2
  go_ret
  rw [HE.out]
  exact ⟨by simp, rfl⟩
theorem wcount_any (A : Option Addr) (n c : Nat) (l : List Int) (w : World) (h : Row w (· < w.heap.size) A n c (octs l)) (ho : Octs l) (hn : n ≤ 40000000000000) :
    Calls Try.prog 42 #[.slice A n c] w fun e w' => e = .returned (.int .i64 ((frames l).1.length : Int)) ∧ Below w.heap.size w w' := by
  have HA := hide (fallc_any A n c l w h ho hn)
  clear h ho
  go_enter Try.func42, Try.ntmps42
  go_wp2_with fail
  refine HA.out.mono ?_
  rintro e w1 ⟨A', c', rfl, -, hc, hcb, hb⟩
  have HB := hide hb
  clear hb
  go_wp2
  go_ret
  exact ⟨by simp, HB.out⟩
end Go.Proofs.Ythoedknnchaiaaa

/-
  The program's contracts of layer 12: Room, Records, Durable, Pending, Append, Disk; and all of none, or of one that nobody made.
-/
namespace Go.Proofs.Ythoedknnchaiaaa
open Go.RowKit
set_option linter.unusedVariables false

/-- What fit answers. -/
def WFit (w : World) (x : List Int) (r : Int) (w' : World) (e : Ending) : Prop :=
  (x.length = 0 → e = .returned (.tuple #[.slice none 0 0, .int .i64 4])) ∧ (4096 < x.length → e = .returned (.tuple #[.slice none 0 0, .int .i64 5])) ∧
  (1 ≤ x.length → x.length ≤ 4096 → r < (x.length : Int) + 7 → e = .returned (.tuple #[.slice none 0 0, .int .i64 10])) ∧
  (1 ≤ x.length → x.length ≤ 4096 → (x.length : Int) + 7 ≤ r → ∃ A c, e = .returned (.tuple #[.slice A (x.length + 7) c, .int .i64 0]) ∧ w'.ownsRow w.heap.size 5 1 (.slice A (x.length + 7) c) (x.length + 7) (octs (frameOf x))) ∧ Below w.heap.size w w'
theorem wfit_any (P : Nat → Prop) (A : Option Addr) (n c : Nat) (x : List Int) (r : Int) (w : World) (h : Row w P A n c (octs x)) (ho : Octs x) :
    Calls Try.prog 38 #[.slice A n c, .int .i64 r] w fun e w' => WFit w x r w' e := by
  have HP := hide (fput_any P A n c x w h ho)
  clear h ho
  rcases Nat.eq_zero_or_pos x.length with h0 | h0
  · go_enter Try.func38, Try.ntmps38
    go_wp2_with fail
    refine HP.out.mono ?_
    rintro e w1 ⟨q1, q2, q3, hb⟩
    have := q1 h0
    subst this
    clear q1 q2 q3
    have HB := hide hb
    clear hb
    go_wp2
    go_ret2
    exact ⟨fun _ => rfl, fun h => by omega, fun h => by omega, fun h => by omega, HB.out⟩
  rcases Nat.lt_or_ge 4096 x.length with h1 | h1
  · go_enter Try.func38, Try.ntmps38
    go_wp2_with fail
    refine HP.out.mono ?_
    rintro e w1 ⟨q1, q2, q3, hb⟩
    have := q2 h1
    subst this
    clear q1 q2 q3
    have HB := hide hb
    clear hb
    go_wp2
    go_ret2
    exact ⟨fun h => by omega, fun _ => rfl, fun _ h => by omega, fun _ h => by omega, HB.out⟩
  by_cases h2 : r < (x.length : Int) + 7
  · go_enter Try.func38, Try.ntmps38
    go_wp2_with fail
    refine HP.out.mono ?_
    rintro e w1 ⟨q1, q2, q3, hb⟩
    obtain ⟨A1, c1, rfl, hown⟩ := q3 h0 h1
    clear q1 q2 q3 hown
    have HB := hide hb
    clear hb
    go_wp2
    go_ret2
    exact ⟨fun h => by omega, fun h => by omega, fun _ _ _ => rfl, fun _ _ h => by omega, HB.out⟩
  · go_enter Try.func38, Try.ntmps38
    go_wp2_with fail
    refine HP.out.mono ?_
    rintro e w1 ⟨q1, q2, q3, hb⟩
    obtain ⟨A1, c1, rfl, hown⟩ := q3 h0 h1
    clear q1 q2 q3
    have HO := hide hown
    have HB := hide hb
    clear hb hown
    go_wp2
    go_ret2
    exact ⟨fun h => by omega, fun h => by omega, fun _ _ h => by omega, fun _ _ _ => ⟨A1, c1, rfl, HO.out⟩, HB.out⟩

/-! ### Of one that is there -/
section
variable {P Q : Nat → Prop} {l d : Nat} {k k2 : Dk} {m : Lm}
theorem wroom_any (w : World) (h : LogM w P l d k m) (hq : DskL w Q d k2) (hk : k2.ok (2 * m.n + 1)) (hi : Inv k m) :
    Calls Try.prog 30 #[.pointer (some ⟨l, 0, none⟩)] w fun e w' => e = .returned (.int .i64 (32 * (m.n : Int) - (m.used : Int))) ∧ Below w.heap.size w w' := by
  obtain ⟨o, ⟨FA, fc, b1, -, -, -⟩, -⟩ := h
  obtain ⟨k0, e1, e2, hd⟩ := hq
  have c0 : w.cell? ⟨l, 0, none⟩ = some (.pointer (some ⟨d, 0, none⟩)) := (b1.cell 0).trans rfl
  have c2 : w.cell? ⟨l, 2, none⟩ = some (.slice FA m.used fc) := (b1.cell 2).trans rfl
  have hn := hk.2.1
  have hu := hi.room
  have HS := hide (fun (nq : Nat) => wsize_any (g := l) (n := m.n) (w.drewN nq) ⟨c0, (b1.cell 1).trans rfl⟩ (dsk_keep hd fun _ _ _ => rfl) (like_ok e1 e2 hk))
  have HE := hide (show 32 * (m.n : Int) - (m.used : Int) = ((32 * m.n : Nat) : Int) - (m.used : Int) by omega)
  obtain ⟨S, hS⟩ : ∃ S, 32 * m.n = S := ⟨_, rfl⟩
  rw [HE.out]
  rw [hS] at HS hu ⊢
  have hSb : S ≤ 8192 := by omega
  generalize m.used = u at *
  clear hk hi b1 hd e1 e2 hS HE hn
  go_enter Try.func30, Try.ntmps30
  go_wp2_with fail
  refine (wreal_yes w l d c0).mono ?_
  rintro e w' ⟨rfl, rfl⟩
  go_wp2_with fail
  have q1 := fun nq => quiet_same (HS.out nq)
  go_quiet ((with_reducible exact q1 _))
  go_wp2
  go_ret
  exact ⟨rfl, below_drewN (Below.refl _ _) _⟩
/-- The frames, as octets in a row. -/
theorem LogAt.row {w : World} {FA : Option Addr} {fc : Nat} (h : w.ownsRow 0 5 1 (.slice FA m.used fc) m.used (octs (allF m.recs))) : Row w (fun b => (Value.slice FA m.used fc).ownBlock = some b ∧ b < w.heap.size) FA m.used fc (octs (allF m.recs)) := (own_row8 h).inb
theorem frames_all (hi : Inv k m) : frames (allF m.recs) = (m.recs, m.used) := by
  have h := frames_whole hi.fit 0
  rw [show zs 0 = [] from rfl, List.append_nil] at h
  exact Prod.ext h.1 h.2
theorem wrecords_any (w : World) (h : LogM w P l d k m) (hi : Inv k m) : Calls Try.prog 17 #[.pointer (some ⟨l, 0, none⟩)] w fun e w' => LRecs m.recs w w' e := by
  obtain ⟨o, ⟨FA, fc, b1, b2, -, -⟩, -⟩ := h
  have c0 : w.cell? ⟨l, 0, none⟩ = some (.pointer (some ⟨d, 0, none⟩)) := (b1.cell 0).trans rfl
  have c2 : w.cell? ⟨l, 2, none⟩ = some (.slice FA m.used fc) := (b1.cell 2).trans rfl
  have hu := hi.room
  have hn := hi.ok.2.1
  have HA := hide (fallc_any FA m.used fc (allF m.recs) w ((LogAt.row b2).mono fun b h => h.2) (allF_octs hi.octs) (by omega))
  have HF := hide (frames_all hi)
  clear hi b1 b2 hu hn
  generalize m.used = u at *
  go_enter Try.func17, Try.ntmps17
  go_wp2_with fail
  refine (wreal_yes w l d c0).mono ?_
  rintro e w' ⟨rfl, rfl⟩
  go_wp2_with fail
  refine HA.out.mono ?_
  rintro e w1 ⟨A', c', rfl, hp, hc, hcb, hb⟩
  rw [HF.out] at hp hc ⊢
  have H := hide (And.intro hp (And.intro hc (And.intro hcb hb)))
  clear hp hc hcb hb
  go_wp2
  go_ret
  exact ⟨A', c', rfl, H.out.1, H.out.2.1, H.out.2.2.1, H.out.2.2.2⟩
theorem wdurable_any (w : World) (h : LogM w P l d k m) (hi : Inv k m) : Calls Try.prog 18 #[.pointer (some ⟨l, 0, none⟩)] w fun e w' => e = .returned (.int .i64 (m.dur : Int)) ∧ Below w.heap.size w w' := by
  obtain ⟨o, ⟨FA, fc, b1, b2, -, -⟩, -⟩ := h
  have hlt := b1.lt
  have c0 : w.cell? ⟨l, 0, none⟩ = some (.pointer (some ⟨d, 0, none⟩)) := (b1.cell 0).trans rfl
  have z2 : ∀ w', Since w w' → w'.cell? ⟨l, 2, none⟩ = some (.slice FA m.used fc) := fun w' hs => ((b1.below hs hlt).cell 2).trans rfl
  have z3 : ∀ w', Since w w' → w'.cell? ⟨l, 3, none⟩ = some (.int .i64 (m.at_ : Int)) := fun w' hs => ((b1.below hs hlt).cell 3).trans rfl
  have hu := hi.room
  have hn := hi.ok.2.1
  have hus := m.used_split
  have hrow := LogAt.row b2
  have huc := hrow.2.1
  have hucb := hrow.2.2.1
  have e1 : (allF m.recs).take m.at_ = allF (m.recs.take m.dur) := by
    rw [allF_split m.recs m.dur]
    exact List.take_left' rfl
  have e2 : (frames (allF (m.recs.take m.dur))).1 = m.recs.take m.dur := by
    have h := (frames_whole (xs := m.recs.take m.dur) (fun x hx => hi.fit x (List.mem_of_mem_take hx)) 0).1
    rwa [show zs 0 = [] from rfl, List.append_nil] at h
  have hfr := hrow.front (show m.at_ ≤ m.used by omega)
  rw [octs_take, e1] at hfr
  have HC := hide (fun (w' : World) (hs : Since w w') => wcount_any FA m.at_ fc (allF (m.recs.take m.dur)) w' ((hs.row hfr).mono fun b h => Nat.lt_of_lt_of_le h.2 (Below.size (show Below w.heap.size w w' from hs))) (allF_octs fun x hx => hi.octs x (List.mem_of_mem_take hx)) (by omega))
  rw [e2, List.length_take, Nat.min_eq_left hi.dur] at HC
  have hs1 : ∀ W : World, (Instr.slice 32 (.slice FA m.used fc) none (some (.int .i64 (m.at_ : Int))) none).run Try.prog W = .ok (.slice FA m.at_ fc) W := fun W => front_run W FA m.used fc m.at_ (by omega)
  have hb1 : m.at_ ≤ m.used := by omega
  have hr0 := (Since.refl w).drew
  clear hi b1 b2 hu hn hus hrow e1 e2 hfr hlt
  generalize m.used = u at *
  generalize m.at_ = a at *
  go_enter Try.func18, Try.ntmps18
  go_wp2_with fail
  refine (wreal_yes w l d c0).mono ?_
  rintro e w' ⟨rfl, rfl⟩
  go_wp2_with fail
  go_region_held (fun w' => Since w w') (assumption) (first
    | (go_at_call 42; refine (HC.out _ (by assumption)).mono ?_; rintro e w5 ⟨rfl, hb5⟩; have hS5 := Since.next (by assumption) hb5))
  all_goals go_wp2
  all_goals go_ret
  all_goals exact ⟨rfl, by assumption⟩
theorem wpending_any (w : World) (h : LogM w P l d k m) (hi : Inv k m) : Calls Try.prog 23 #[.pointer (some ⟨l, 0, none⟩)] w fun e w' => e = .returned (.int .i64 ((m.recs.length : Int) - (m.dur : Int))) ∧ Below w.heap.size w w' := by
  obtain ⟨o, ⟨FA, fc, b1, b2, -, -⟩, -⟩ := h
  have hlt := b1.lt
  have c0 : w.cell? ⟨l, 0, none⟩ = some (.pointer (some ⟨d, 0, none⟩)) := (b1.cell 0).trans rfl
  have z2 : ∀ w', Since w w' → w'.cell? ⟨l, 2, none⟩ = some (.slice FA m.used fc) := fun w' hs => ((b1.below hs hlt).cell 2).trans rfl
  have z3 : ∀ w', Since w w' → w'.cell? ⟨l, 3, none⟩ = some (.int .i64 (m.at_ : Int)) := fun w' hs => ((b1.below hs hlt).cell 3).trans rfl
  have hu := hi.room
  have hn := hi.ok.2.1
  have hus := m.used_split
  have hrow := LogAt.row b2
  have huc := hrow.2.1
  have hucb := hrow.2.2.1
  have e1 : (allF m.recs).drop m.at_ = allF (m.recs.drop m.dur) := by
    rw [allF_split m.recs m.dur]
    exact List.drop_left' rfl
  have e2 : (frames (allF (m.recs.drop m.dur))).1 = m.recs.drop m.dur := by
    have h := (frames_whole (xs := m.recs.drop m.dur) (fun x hx => hi.fit x (List.mem_of_mem_drop hx)) 0).1
    rwa [show zs 0 = [] from rfl, List.append_nil] at h
  have hfr := hrow.back (show m.at_ ≤ m.used by omega)
  rw [octs_drop, e1] at hfr
  have hs1 : ∀ W : World, (Instr.slice 32 (.slice FA m.used fc) (some (.int .i64 (m.at_ : Int))) none none).run Try.prog W = .ok (.slice (if fc = m.at_ then FA else FA.map (·.add m.at_)) (m.used - m.at_) (fc - m.at_)) W := fun W => tail_run W FA m.used fc m.at_ (by omega) huc
  have HC := hide (fun (w' : World) (hs : Since w w') => wcount_any (if fc = m.at_ then FA else FA.map (·.add m.at_)) (m.used - m.at_) (fc - m.at_) (allF (m.recs.drop m.dur)) w' ((hs.row hfr).mono fun b h => Nat.lt_of_lt_of_le h.2 (Below.size (show Below w.heap.size w w' from hs))) (allF_octs fun x hx => hi.octs x (List.mem_of_mem_drop hx)) (by omega))
  have HE := hide (show ((m.recs.length - m.dur : Nat) : Int) = (m.recs.length : Int) - (m.dur : Int) by have := hi.dur; omega)
  rw [e2, List.length_drop, HE.out] at HC
  have hb1 : m.at_ ≤ m.used := by omega
  have hr0 := (Since.refl w).drew
  obtain ⟨V, hV⟩ : ∃ V : Int, (m.recs.length : Int) - (m.dur : Int) = V := ⟨_, rfl⟩
  rw [hV] at HC ⊢
  clear hi b1 b2 hu hn hus hrow e1 e2 hfr hlt HE hV
  generalize (if fc = m.at_ then FA else FA.map (·.add m.at_)) = TA at *
  generalize fc - m.at_ = tc at *
  generalize m.used - m.at_ = tn at *
  generalize m.used = u at *
  generalize m.at_ = a at *
  go_enter Try.func23, Try.ntmps23
  go_wp2_with fail
  refine (wreal_yes w l d c0).mono ?_
  rintro e w' ⟨rfl, rfl⟩
  go_wp2_with fail
  go_region_held (fun w' => Since w w') (assumption) (first
    | (go_at_call 42; refine (HC.out _ (by assumption)).mono ?_; rintro e w5 ⟨rfl, hb5⟩; have hS5 := Since.next (by assumption) hb5))
  all_goals go_wp2
  all_goals go_ret
  all_goals exact ⟨rfl, by assumption⟩
theorem wdisk_any (w : World) (h : LogM w P l d k m) (hq : DskL w Q d k2) (hk : k2.ok (2 * m.n + 1)) : Calls Try.prog 19 #[.pointer (some ⟨l, 0, none⟩)] w fun e w' => DMade DskL k2 w w' e := by
  obtain ⟨o, ⟨FA, fc, b1, b2, -, -⟩, -⟩ := h
  have c0 : w.cell? ⟨l, 0, none⟩ = some (.pointer (some ⟨d, 0, none⟩)) := (b1.cell 0).trans rfl
  have HC := hide (dlclone_any w hq hk)
  clear b1 b2 hq hk
  go_enter Try.func19, Try.ntmps19
  go_wp2_with fail
  refine (wreal_yes w l d c0).mono ?_
  rintro e w' ⟨rfl, rfl⟩
  go_wp2_with fail
  refine HC.out.mono ?_
  rintro e w1 ⟨g, P', rfl, h1⟩
  have H := hide h1
  clear h1
  go_wp2
  go_ret
  exact ⟨g, P', rfl, H.out⟩
end

/-! ### Of none, and of one that nobody made -/
theorem wnil_append (A : Option Addr) (n c : Nat) (w : World) : Calls Try.prog 15 #[.pointer none, .slice A n c] w fun e w' => e = .returned (.int .i64 9) ∧ Below w.heap.size w w' := by
  go_enter Try.func15, Try.ntmps15
  go_wp2_with fail
  refine (wreal_nil w).mono ?_
  rintro e w' ⟨rfl, rfl⟩
  go_wp2
  go_ret
  exact ⟨rfl, Below.refl _ _⟩
theorem wnil_sync (w : World) : Calls Try.prog 16 #[.pointer none] w fun e w' => e = .returned (.int .i64 9) ∧ Below w.heap.size w w' := by
  go_enter Try.func16, Try.ntmps16
  go_wp2_with fail
  refine (wreal_nil w).mono ?_
  rintro e w' ⟨rfl, rfl⟩
  go_wp2
  go_ret
  exact ⟨rfl, Below.refl _ _⟩
theorem wnil_room (w : World) : Calls Try.prog 30 #[.pointer none] w fun e w' => e = .returned (.int .i64 0) ∧ Below w.heap.size w w' := by
  go_enter Try.func30, Try.ntmps30
  go_wp2_with fail
  refine (wreal_nil w).mono ?_
  rintro e w' ⟨rfl, rfl⟩
  go_wp2
  go_ret
  exact ⟨rfl, Below.refl _ _⟩
theorem wnil_durable (w : World) : Calls Try.prog 18 #[.pointer none] w fun e w' => e = .returned (.int .i64 0) ∧ Below w.heap.size w w' := by
  go_enter Try.func18, Try.ntmps18
  go_wp2_with fail
  refine (wreal_nil w).mono ?_
  rintro e w' ⟨rfl, rfl⟩
  go_wp2
  go_ret
  exact ⟨rfl, Below.refl _ _⟩
theorem wnil_records (w : World) : Calls Try.prog 17 #[.pointer none] w fun e w' => LRecs [] w w' e := by
  go_enter Try.func17, Try.ntmps17
  go_wp2_with fail
  refine (wreal_nil w).mono ?_
  rintro e w' ⟨rfl, rfl⟩
  go_wp2
  go_ret
  exact ⟨none, 0, rfl, Parts.nil _ _, Nat.le_refl _, by omega, Below.refl _ _⟩
theorem wnil_disk (w : World) : Calls Try.prog 19 #[.pointer none] w fun e w' => e = .returned (.pointer none) ∧ Below w.heap.size w w' := by
  go_enter Try.func19, Try.ntmps19
  go_wp2_with fail
  refine (wreal_nil w).mono ?_
  rintro e w' ⟨rfl, rfl⟩
  go_wp2
  go_ret
  exact ⟨rfl, Below.refl _ _⟩
theorem wodd_append {g : Nat} (A : Option Addr) (n c : Nat) (w : World) (h : OddL w g) : Calls Try.prog 15 #[.pointer (some ⟨g, 0, none⟩), .slice A n c] w fun e w' => e = .returned (.int .i64 9) ∧ Below w.heap.size w w' := by
  have c0 : w.cell? ⟨g, 0, none⟩ = some (.pointer none) := (Blk.cell h 0).trans rfl
  go_enter Try.func15, Try.ntmps15
  go_wp2_with fail
  refine (wreal_no w g c0).mono ?_
  rintro e w' ⟨rfl, rfl⟩
  go_wp2
  go_ret
  exact ⟨rfl, Below.refl _ _⟩
theorem wodd_swap {g : Nat} (A : Option Addr) (n c : Nat) (w : World) (h : OddL w g) : Calls Try.prog 25 #[.pointer (some ⟨g, 0, none⟩), .slice A n c] w fun e w' => e = .returned (.int .i64 9) ∧ Below w.heap.size w w' := by
  have c0 : w.cell? ⟨g, 0, none⟩ = some (.pointer none) := (Blk.cell h 0).trans rfl
  go_enter Try.func25, Try.ntmps25
  go_wp2_with fail
  refine (wreal_no w g c0).mono ?_
  rintro e w' ⟨rfl, rfl⟩
  go_wp2
  go_ret
  exact ⟨rfl, Below.refl _ _⟩
theorem wodd_pending {g : Nat} (w : World) (h : OddL w g) : Calls Try.prog 23 #[.pointer (some ⟨g, 0, none⟩)] w fun e w' => e = .returned (.int .i64 0) ∧ Below w.heap.size w w' := by
  have c0 : w.cell? ⟨g, 0, none⟩ = some (.pointer none) := (Blk.cell h 0).trans rfl
  go_enter Try.func23, Try.ntmps23
  go_wp2_with fail
  refine (wreal_no w g c0).mono ?_
  rintro e w' ⟨rfl, rfl⟩
  go_wp2
  go_ret
  exact ⟨rfl, Below.refl _ _⟩
theorem wodd_disk {g : Nat} (w : World) (h : OddL w g) : Calls Try.prog 19 #[.pointer (some ⟨g, 0, none⟩)] w fun e w' => e = .returned (.pointer none) ∧ Below w.heap.size w w' := by
  have c0 : w.cell? ⟨g, 0, none⟩ = some (.pointer none) := (Blk.cell h 0).trans rfl
  go_enter Try.func19, Try.ntmps19
  go_wp2_with fail
  refine (wreal_no w g c0).mono ?_
  rintro e w' ⟨rfl, rfl⟩
  go_wp2
  go_ret
  exact ⟨rfl, Below.refl _ _⟩
end Go.Proofs.Ythoedknnchaiaaa

/-
  The program's contract of layer 12: Append.
-/
namespace Go.Proofs.Ythoedknnchaiaaa
open Go.RowKit
set_option linter.unusedVariables false

section
variable {P Q R : Nat → Prop} {l d : Nat} {k k2 : Dk} {m : Lm}
/-- Where nothing was changed. -/
theorem LApp.still {w w' : World} (h : LogM w P l d k m) (hb : Below w.heap.size w w') (v : Value) : LApp LogM P l d k m v w w' (.returned v) :=
  ⟨rfl, P, log_keep h hb.size fun i _ hi => hb.block i hi, fun _ h => .inl h, (Touch.of_below hb).mono fun _ _ h => h.elim⟩
/-- Behind frames of the log's own that were put to, in memory w4, and told. -/
theorem LogAt.pushed {o : Bool} {w4 : World} {A A' : Option Addr} {c c' : Nat} {x : List Int} {u : Nat} (hd : m.dur ≤ m.recs.length) (hu : m.used + (x.length + 7) = u)
    (b1 : Blk w4 l 57 #[.pointer (some ⟨d, 0, none⟩), .int .i64 (hi_ o), .slice A m.used c, .int .i64 (m.at_ : Int)])
    (hown : w4.ownsRow 0 5 1 (.slice A' u c') u (octs (allF m.recs) ++ octs (frameOf x))) (hl : (Value.slice A' u c').ownBlock ≠ some l) :
    LogAt (w4.setCell ⟨l, 2, none⟩ (.slice A' u c')) (fun b => b = l ∨ (Value.slice A' u c').ownBlock = some b) l d o { m with recs := m.recs ++ [x] } := by
  subst hu
  have e1 : ({ m with recs := m.recs ++ [x] } : Lm).used = m.used + (x.length + 7) := by
    show (allF (m.recs ++ [x])).length = _
    rw [allF_append, allF_one, List.length_append, frameOf_len]
    rfl
  have e2 : ({ m with recs := m.recs ++ [x] } : Lm).at_ = m.at_ := by
    show (allF ((m.recs ++ [x]).take m.dur)).length = _
    rw [List.take_append_of_le_length hd]
    rfl
  have e3 : octs (allF ({ m with recs := m.recs ++ [x] } : Lm).recs) = octs (allF m.recs) ++ octs (frameOf x) := by
    show octs (allF (m.recs ++ [x])) = _
    rw [allF_append, allF_one, octs_append]
  refine ⟨A', c', ?_, ?_, ?_, ?_⟩
  · rw [e1, e2]
    exact b1.store 2 _
  · rw [e1, e3]
    exact own_keep hown fun b hb => Below.heap_setCell _ ⟨l, 2, none⟩ _ b fun h => hl (by rw [hb, h])
  · rw [e1]
    exact fun b => Iff.rfl
  · rw [e1]
    exact hl

set_option maxHeartbeats 1000000 in
theorem wappend_any (A : Option Addr) (n c : Nat) (x : List Int) (w : World) (h : LogM w P l d k m) (hq : DskL w Q d k2) (hk : k2.ok (2 * m.n + 1)) (hi : Inv k m) (hx : Row w R A n c (octs x)) (ho : Octs x) (hr : ∀ i, R i → i < w.heap.size → ¬ P i) (hc : n ≤ 140737488355000) :
    Calls Try.prog 15 #[.pointer (some ⟨l, 0, none⟩), .slice A n c] w fun e w' => LApp LogM P l d k (appendL m x).1 (.int .i64 (appendL m x).2) w w' e := by
  have HM := hide h
  have hlt := log_lt h
  obtain ⟨o, ⟨FA, fc, b1, b2, b3, b4⟩, hbit⟩ := h
  have c0 : w.cell? ⟨l, 0, none⟩ = some (.pointer (some ⟨d, 0, none⟩)) := (b1.cell 0).trans rfl
  have hn := hi.ok.2.1
  have hu := hi.room
  have HRM := hide (wroom_any w HM.out hq hk hi)
  have HFT := hide (fun (w' : World) (r : Int) (hs : Below w.heap.size w w') => wfit_any R A n c x r w' (hx.below hs fun _ _ h => h) ho)
  have hdur := hi.dur
  obtain ⟨N, hN⟩ : ∃ N : Int, 32 * (m.n : Int) - (m.used : Int) = N := ⟨_, rfl⟩
  rw [hN] at HRM
  by_cases g0 : x.length = 0
  · have e1 : appendL m x = (m, 4) := by unfold appendL; rw [if_pos g0]
    rw [e1]
    clear hx ho hr hi hq hk b1 b2 b3 b4 hbit hn hu hlt e1 hN hdur
    go_enter Try.func15, Try.ntmps15
    go_wp2_with fail
    refine (wreal_yes w l d c0).mono ?_
    rintro e w' ⟨rfl, rfl⟩
    go_wp2_with fail
    refine HRM.out.mono ?_
    rintro e w1 ⟨rfl, hb1⟩
    go_wp2_with fail
    refine (HFT.out w1 N hb1).mono ?_
    rintro e w2 ⟨q1, -, -, -, hb2⟩
    obtain rfl := q1 g0
    have HB := hide (hb1.trans (hb2.mono hb1.size))
    clear q1 hb1 hb2
    go_wp2
    go_ret
    exact LApp.still HM.out HB.out _
  by_cases g1 : 4096 < x.length
  · have e1 : appendL m x = (m, 5) := by unfold appendL; rw [if_neg g0, if_pos g1]
    rw [e1]
    clear hx ho hr hi hq hk b1 b2 b3 b4 hbit hn hu hlt e1 hN hdur
    go_enter Try.func15, Try.ntmps15
    go_wp2_with fail
    refine (wreal_yes w l d c0).mono ?_
    rintro e w' ⟨rfl, rfl⟩
    go_wp2_with fail
    refine HRM.out.mono ?_
    rintro e w1 ⟨rfl, hb1⟩
    go_wp2_with fail
    refine (HFT.out w1 N hb1).mono ?_
    rintro e w2 ⟨-, q1, -, -, hb2⟩
    obtain rfl := q1 g1
    have HB := hide (hb1.trans (hb2.mono hb1.size))
    clear q1 hb1 hb2
    go_wp2
    go_ret
    exact LApp.still HM.out HB.out _
  by_cases g2 : 32 * m.n < m.used + (x.length + 7)
  · have e1 : appendL m x = (m, 10) := by unfold appendL; rw [if_neg g0, if_neg g1, if_pos g2]
    have g3 : N < (x.length : Int) + 7 := by omega
    rw [e1]
    clear hx ho hr hi hq hk b1 b2 b3 b4 hbit hn hu hlt e1 hN hdur
    go_enter Try.func15, Try.ntmps15
    go_wp2_with fail
    refine (wreal_yes w l d c0).mono ?_
    rintro e w' ⟨rfl, rfl⟩
    go_wp2_with fail
    refine HRM.out.mono ?_
    rintro e w1 ⟨rfl, hb1⟩
    go_wp2_with fail
    refine (HFT.out w1 N hb1).mono ?_
    rintro e w2 ⟨-, -, q1, -, hb2⟩
    obtain rfl := q1 (by omega) (by omega) g3
    have HB := hide (hb1.trans (hb2.mono hb1.size))
    clear q1 hb1 hb2
    go_wp2
    go_ret
    exact LApp.still HM.out HB.out _
  have e1 : appendL m x = ({ m with recs := m.recs ++ [x] }, 0) := by unfold appendL; rw [if_neg g0, if_neg g1, if_neg g2]
  have g3 : (x.length : Int) + 7 ≤ N := by omega
  rw [e1]
  obtain ⟨i5, hi5, hz0, hz1, hz2⟩ := info_parts info5
  obtain ⟨u, hU⟩ : ∃ u, m.used + (x.length + 7) = u := ⟨_, rfl⟩
  have hub : u ≤ 5000 := by omega
  have HLT := hide (hlt l ((b3 l).2 (.inl rfl)))
  have HB1 := hide b1
  have HB2 := hide b2
  have HB4 := hide b4
  have HLP := hide ((b3 l).2 (.inl rfl))
  have HOP := hide (show ∀ b, (Value.slice FA m.used fc).ownBlock = some b → P b ∧ b < w.heap.size from fun b hb => ⟨(b3 b).2 (.inr hb), hlt b ((b3 b).2 (.inr hb))⟩)
  have HFIN := hide (show ∀ (w3 w4 : World) (A' : Option Addr) (c' : Nat), Below w.heap.size w w3 → w3.grownBy w4 (Value.slice FA m.used fc).ownBlock → w4.ownsRow 0 5 1 (.slice A' u c') u (octs (allF m.recs) ++ octs (frameOf x)) →
      ((Value.slice A' u c').ownBlock = (Value.slice FA m.used fc).ownBlock ∨ (Value.slice A' u c').ownBlock = some w3.heap.size) → LApp LogM P l d k { m with recs := m.recs ++ [x] } (.int .i64 0) w (w4.setCell ⟨l, 2, none⟩ (.slice A' u c')) (.returned (.int .i64 0)) from
    fun w3 w4 A' c' hb hg hown hat => by
      have hsz := hb.size
      have hl3 : l < w3.heap.size := Nat.lt_of_lt_of_le HLT.out hsz
      have hB4 : Blk w4 l 57 #[.pointer (some ⟨d, 0, none⟩), .int .i64 (hi_ o), .slice FA m.used fc, .int .i64 (m.at_ : Int)] := (hg.block l hl3 HB4.out.symm).trans ((hb.block l HLT.out).trans HB1.out)
      have hne : (Value.slice A' u c').ownBlock ≠ some l := by
        rcases hat with e | e
        · rw [e]; exact HB4.out
        · rw [e]; intro h; injection h; omega
      refine ⟨rfl, _, ⟨o, LogAt.pushed hdur hU hB4 hown hne, hbit⟩, fun b hb' => ?_, ?_⟩
      · rcases hb' with rfl | hb'
        · exact .inl HLP.out
        · rcases hat with e | e
          · rw [e] at hb'; exact .inl (HOP.out b hb').1
          · rw [e] at hb'; injection hb' with hb'; right; omega
      · refine (((Touch.of_below hb).mono (Q := P) fun _ _ h => h.elim).trans (Touch.of_grown hg) fun b _ hb' => (HOP.out b hb').1).setCell (fun _ => HLP.out) _)
  clear hr hi hq hk b1 b2 b3 b4 hbit hn hu hlt e1 hN hdur HM hx ho g2
  go_enter Try.func15, Try.ntmps15
  go_wp2_with fail
  refine (wreal_yes w l d c0).mono ?_
  rintro e w' ⟨rfl, rfl⟩
  go_wp2_with fail
  refine HRM.out.mono ?_
  rintro e w1 ⟨rfl, hb1⟩
  go_wp2_with fail
  refine (HFT.out w1 N hb1).mono ?_
  rintro e w3 ⟨-, -, -, q1, hb2⟩
  obtain ⟨A1, c1, rfl, hown⟩ := q1 (by omega) (by omega) g3
  have HB := hide (hb1.trans (hb2.mono hb1.size))
  have HR := hide (Row.of_own hown)
  have hc2 : w3.cell? ⟨l, 2, none⟩ = some (.slice FA m.used fc) := ((HB1.out.below HB.out HLT.out).cell 2).trans rfl
  have HOW := hide (own_below HB2.out HB.out)
  clear q1 hb1 hb2 hown HRM HFT
  generalize hmu : m.used = mu at *
  generalize hxn : x.length + 7 = xn at *
  have hub2 : mu + xn ≤ 5000 := by omega
  have HU := hide hU
  clear hU hmu hxn c0
  go_wp2_with (at_builtin; refine wpList_append_row _ rfl _ _ 32 rfl 0 5 i5 (.int .u8 0) 1 Try.underlying32 hi5 hz0 hz1 hz2 rfl _ mu _ rfl HOW.out _ A1 xn c1 (octs (frameOf x)) rfl HR.out (octs_one _) ?h1 ?h2 ?h3 ?_)
  case h1 => unfold maxLen; omega
  case h2 => omega
  case h3 => omega
  intro v' w4 hown hg hat
  rw [HU.out] at hown
  obtain ⟨A4, c4, rfl⟩ := own_form hown
  have hl3 : l < w3.heap.size := Nat.lt_of_lt_of_le HLT.out HB.out.size
  have hB4 := (hg.block l hl3 HB4.out.symm).trans ((HB.out.block l HLT.out).trans HB1.out)
  have f4 := Blk.frozen hB4 2
  have d4 := (Blk.cell hB4 2).trans rfl
  have HEND := hide (HFIN.out w3 w4 A4 c4 HB.out hg hown hat)
  clear hown hg hat hB4 hl3 HFIN hc2
  go_wp2
  go_ret
  exact HEND.out
end
end Go.Proofs.Ythoedknnchaiaaa
