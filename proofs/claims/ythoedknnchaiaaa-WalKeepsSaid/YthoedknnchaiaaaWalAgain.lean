/-
  A log and octets, side by side: what both tell.
-/
import Derived.Test.YthoedknnchaiaaaWalRefN
import Derived.Test.YthoedknnchaiaaaWalK
import Derived.Test.YthoedknnchaiaaaWalP
import Derived.Test.YthoedknnchaiaaaPlain
namespace Go.Proofs.Ythoedknnchaiaaa
open Go.RowKit
set_option linter.unusedVariables false

/-- The program's log at l upon the disk at d, and the reference's at lr: both are as m says; the disks are k and h. -/
structure Sit (w : World) (P Q R : Nat → Prop) (l d lr g a c : Nat) (k h : Dk) (m : Lm) : Prop where
  log : LogM w P l d k m
  dsk : DskL w Q d k
  ref : RLog R w lr g a c h m
  like : k.like h
  inv : Inv k m
  hok : h.ok (2 * m.n + 1)
  pq : ∀ b, P b → ¬ Q b
  pr : ∀ b, P b → ¬ R b
  qr : ∀ b, Q b → ¬ R b
theorem Sit.since {w w' : World} {P Q R : Nat → Prop} {l d lr g a c : Nat} {k h : Dk} {m : Lm} (s : Sit w P Q R l d lr g a c k h m) (hs : Since w w') : Sit w' P Q R l d lr g a c k h m := by
  have hb : Below w.heap.size w w' := hs
  refine ⟨log_keep s.log hb.size fun i _ hi => hb.block i hi, dskl_keep s.dsk fun i _ hi => hb.block i hi, s.ref.keep hb.size fun i hi => hb.block i ?_, s.like, s.inv, s.hok, s.pq, s.pr, s.qr⟩
  obtain ⟨_, _, _, _, _, _, _, _, h3, _⟩ := s.ref
  exact h3.2.2.2.2.2 i hi
theorem RLog.parts {R : Nat → Prop} {w : World} {l g a c : Nat} {k : Dk} {m : Lm} (h : RLog R w l g a c k m) : ∃ (RA : Option Addr) (rc : Nat), w.cell? ⟨l, 3, none⟩ = some (.slice RA m.recs.length rc) ∧ Parts w RA m.recs.length m.recs := by
  obtain ⟨cur, RA, rc, PA, pc, vs, h1, h2, h3, h4, h5, h6, h7, h8⟩ := h
  exact ⟨RA, rc, (h2.cell 3).trans rfl, Parts.of_own h5 h8⟩
theorem RLog.cells {R : Nat → Prop} {w : World} {l g a c : Nat} {k : Dk} {m : Lm} (h : RLog R w l g a c k m) : w.cell? ⟨l, 0, none⟩ = some (.pointer (some ⟨g, 0, none⟩)) ∧ w.cell? ⟨l, 4, none⟩ = some (.int .i64 (m.dur : Int)) ∧ w.cell? ⟨g, 0, none⟩ = some (.slice (some ⟨a, 0, none⟩) k.b.length c) ∧ Row w (· = a) (some ⟨a, 0, none⟩) k.b.length c (octs k.b) := by
  obtain ⟨cur, RA, rc, PA, pc, vs, h1, h2, h3, h4, h5, h6, h7, h8⟩ := h
  exact ⟨(h2.cell 0).trans rfl, (h2.cell 4).trans rfl, (h1.1.cell 0).trans rfl, h1.row⟩

set_option maxHeartbeats 4000000 in
set_option maxRecDepth 100000 in
theorem told12_any {P Q R : Nat → Prop} {l d lr g a c : Nat} {k h : Dk} {m : Lm} (w : World) (s : Sit w P Q R l d lr g a c k h m) :
    Calls Try.prog 14 #[.pointer (some ⟨l, 0, none⟩), .pointer (some ⟨lr, 0, none⟩)] w fun e w' => e = .returned (.bool true) ∧ Since w w' := by
  obtain ⟨RA, rc, z3, hparts⟩ := s.ref.parts
  obtain ⟨z0, z4, y0, hrow⟩ := s.ref.cells
  have hkb := s.like.1
  rw [← hkb] at y0 hrow
  have hn := s.inv.ok.2.1
  have hok := s.inv.ok
  have hu := s.inv.room
  have hlt := fun (p : Addr) (v : Value) (h : w.cell? p = some v) => World.block_lt_of_cell? w p h
  have Z0 : ∀ w', Since w w' → w'.cell? ⟨lr, 0, none⟩ = some (.pointer (some ⟨g, 0, none⟩)) := fun w' h => (h.cell (hlt _ _ z0)).trans z0
  have Z3 : ∀ w', Since w w' → w'.cell? ⟨lr, 3, none⟩ = some (.slice RA m.recs.length rc) := fun w' h => (h.cell (hlt _ _ z3)).trans z3
  have Z4 : ∀ w', Since w w' → w'.cell? ⟨lr, 4, none⟩ = some (.int .i64 (m.dur : Int)) := fun w' h => (h.cell (hlt _ _ z4)).trans z4
  have Y0 : ∀ w', Since w w' → w'.cell? ⟨g, 0, none⟩ = some (.slice (some ⟨a, 0, none⟩) k.b.length c) := fun w' h => (h.cell (hlt _ _ y0)).trans y0
  have YC : ∀ w', Since w w' → (convert 32 9 (.slice (some ⟨a, 0, none⟩) k.b.length c)).run Try.prog w' = .ok (.string (strOfNums k.b)) w' := fun w' h => conv_row (h.row hrow)
  have P1 := hide (fun (w' : World) (hs : Since w w') => wrecords_any w' (s.since hs).log s.inv)
  have P2 := hide (fun (w' : World) (hs : Since w w') => hparts.below (show Below w.heap.size w w' from hs))
  have P3 := hide (fun (w' : World) (hs : Since w w') => wdurable_any w' (s.since hs).log s.inv)
  have P4 := hide (fun (w' : World) (hs : Since w w') => wpending_any w' (s.since hs).log s.inv)
  have P5 := hide (fun (w' : World) (hs : Since w w') => wroom_any w' (s.since hs).log (s.since hs).dsk hok s.inv)
  have P6 := hide (fun (w' : World) (hs : Since w w') => refroom_any w' (s.since hs).ref (by omega) hu)
  have P7 := hide (fun (w' : World) (hs : Since w w') => wdisk_any w' (s.since hs).log (s.since hs).dsk hok)
  have P8 := hide (fun (w' : World) (g2 : Nat) (P2 : Nat → Prop) (hd : DskL w' P2 g2 k) => dlall_any w' hd hok)
  have hdur := s.inv.dur
  have hrl : m.recs.length ≤ 5000 := by have := allF_len7 m.recs; have e : m.used = (allF m.recs).length := rfl; omega
  have hdr : m.dur ≤ 5000 := by omega
  have hb1 : (m.dur : Int) ≤ (m.recs.length : Int) := by omega
  generalize hM : m.recs.length = M at *
  generalize hD : m.dur = D at *
  have hww : IntKind.i64.wrap ((M : Int) - (D : Int)) = (M : Int) - (D : Int) := by rw [IntKind.wrap_i64]; omega
  have hr0 := (Since.refl w).drew
  clear s hparts z0 z3 z4 y0 hrow hkb hok hlt
  go_enter Try.func14, Try.ntmps14
  go_wp2_with fail
  go_region_held (fun w' => Since w w') (assumption) (first
    | (go_at_call 17; refine (P1.out _ (by assumption)).mono ?_; rintro e w5 ⟨A5, c5, rfl, hp5, -, -, hb5⟩; have hS5 := Since.next (by assumption) hb5)
    | (go_at_call 26; refine (octets_same _ _ _ _ _ m.recs _ (hM ▸ hp5) (P2.out _ (by assumption))).mono ?_; rintro e w6 ⟨rfl, q6, rfl⟩; have hS6 := Since.next (by assumption) (below_drewN (Below.refl _ _) q6))
    | (go_at_call 18; refine (P3.out _ (by assumption)).mono ?_; rintro e w7 ⟨rfl, hb7⟩; have hS7 := Since.next (by assumption) hb7)
    | (go_at_call 23; refine (P4.out _ (by assumption)).mono ?_; rintro e w8 ⟨rfl, hb8⟩; have hS8 := Since.next (by assumption) hb8)
    | (go_at_call 30; refine (P5.out _ (by assumption)).mono ?_; rintro e w9 ⟨rfl, hb9⟩; have hS9 := Since.next (by assumption) hb9)
    | (go_at_call 36; refine (P6.out _ (by assumption)).mono ?_; rintro e w10 ⟨rfl, q10, rfl⟩; have hS10 := Since.next (by assumption) (below_drewN (Below.refl _ _) q10))
    | (go_at_call 19; refine (P7.out _ (by assumption)).mono ?_; rintro e w11 ⟨d11, P11, rfl, hd11, hp11, hb11⟩; have hS11 := Since.next (by assumption) hb11)
    | (go_at_call 27; refine (P8.out _ _ _ hd11).mono ?_; rintro e w12 ⟨A12, c12, rfl, ho12, hb12⟩; have hS12 := Since.next (by assumption) hb12; have hc12 := conv_row (Row.of_own ho12)))
  all_goals go_wp2
  all_goals go_ret
  all_goals exact ⟨by first | rfl | simp, by assumption⟩
end Go.Proofs.Ythoedknnchaiaaa

/-
  A log and octets, side by side: opened again, armed.
-/
namespace Go.Proofs.Ythoedknnchaiaaa
open Go.RowKit
set_option linter.unusedVariables false

/-- Both are alike, in new memory. -/
def Again (k : Dk) (m : Lm) (w w' : World) (e : Ending) : Prop :=
  ∃ (P' Q' R' : Nat → Prop) (l d lr g a c : Nat) (h : Dk), e = .returned (.tuple #[.pointer (some ⟨l, 0, none⟩), .pointer (some ⟨lr, 0, none⟩), .bool true]) ∧ Sit w' P' Q' R' l d lr g a c k h m ∧
    (∀ b, P' b → w.heap.size ≤ b) ∧ (∀ b, Q' b → w.heap.size ≤ b) ∧ (∀ b, R' b → w.heap.size ≤ b) ∧ Since w w'
theorem touch_since {w0 w w' : World} {P : Nat → Prop} (h : Since w0 w) (ht : Touch P w w') (hp : ∀ b, P b → w0.heap.size ≤ b) : Since w0 w' :=
  Below.trans h (ht.below (Below.size (show Below w0.heap.size w0 w from h)) fun b hb hc => by have := hp b hc; omega)

set_option maxHeartbeats 2000000 in
set_option maxRecDepth 100000 in
theorem again_any {P Q R : Nat → Prop} {l d lr g a c : Nat} {k h : Dk} {m : Lm} (arm : Int) (w : World) (s : Sit w P Q R l d lr g a c k h m) (harm : I64' arm) :
    Calls Try.prog 35 #[.pointer (some ⟨l, 0, none⟩), .pointer (some ⟨lr, 0, none⟩), .int .i64 arm] w fun e w' => Again ((openL k.revive m.n).1.arm arm) (openL k.revive m.n).2.1 w w' e := by
  have hok := s.inv.ok
  have hn1 := s.inv.n1
  have hrv := Dk.ok_revive hok
  have hlf : (openL k.revive m.n).2.2 = true := laid_free rfl (by show (-1 : Int) < 0; omega)
  have PD := hide (wdisk_any w s.log s.dsk hok)
  have S0 := hide s
  clear s
  go_enter Try.func35, Try.ntmps35
  go_wp2_with fail
  refine PD.out.mono ?_
  rintro e w1 ⟨d2, P2, rfl, hd2, hp2, hb1⟩
  have HS1 := hide (show Since w w1 from hb1)
  have HP2 := hide hp2
  have HR := hide (dlrevive_any w1 hd2 hok)
  clear hd2 hp2 hb1 PD
  go_wp2_with fail
  refine HR.out.mono ?_
  rintro e w2 ⟨rfl, P3, hd3, hp3, ht2⟩
  have HS2 := hide (touch_since HS1.out ht2 HP2.out)
  have hs12 := ht2.size
  have HP3 := hide (show ∀ b, P3 b → w.heap.size ≤ b from fun b hb => (hp3 b hb).elim (HP2.out b) fun h => Nat.le_trans (Below.size (show Below w.heap.size w w1 from HS1.out)) h)
  have HO := hide (wopen_any w2 hd3 hrv hn1 rfl (.inl (by show (-1 : Int) < 0; omega)))
  clear hd3 hp3 ht2 HR
  go_wp2_with fail
  refine HO.out.mono ?_
  rintro e w3 ⟨l3, P4, Q4, rfl, hl4, hq4, hpq4, hp4, hqq4, ht3⟩
  have hs23 := ht3.size
  have HS3 := hide (touch_since HS2.out ht3 HP3.out)
  have hw03 : w.heap.size ≤ w3.heap.size := Below.size (show Below w.heap.size w w3 from HS3.out)
  have hw02 : w.heap.size ≤ w2.heap.size := Below.size (show Below w.heap.size w w2 from HS2.out)
  have HQ4 := hide (show ∀ b, Q4 b → w.heap.size ≤ b from fun b hb => (hqq4 b hb).elim (HP3.out b) fun h => by omega)
  have HP4 := hide (show ∀ b, P4 b → w.heap.size ≤ b from fun b hb => by have := hp4 b hb; omega)
  have HL4 := hide hl4
  have HD4 := hide hq4
  have HPQ4 := hide hpq4
  have S3 := S0.out.since HS3.out
  obtain ⟨z0, z4, y0, hrow⟩ := S3.ref.cells
  have hkb := S3.like.1
  rw [← hkb] at y0 hrow
  have hg3 := World.block_lt_of_cell? w3 _ y0
  have hl3 := World.block_lt_of_cell? w3 _ z0
  have zE : (w3.alloc (.cells #[] 5)).cell? ⟨lr, 0, none⟩ = some (.pointer (some ⟨g, 0, none⟩)) := (Below.cell ((Below.refl w3.heap.size w3).alloc (Nat.le_refl _) _) hl3).trans z0
  have yE : (w3.alloc (.cells #[] 5)).cell? ⟨g, 0, none⟩ = some (.slice (some ⟨a, 0, none⟩) k.b.length c) := (Below.cell ((Below.refl w3.heap.size w3).alloc (Nat.le_refl _) _) hg3).trans y0
  have hkl : k.b.length ≤ 8192 := by have := hok.1; have := hok.2.1; omega
  have hE := World.ownsRow_lit (base := w3.heap.size) (e := 5) (size := 1) w3 #[] 0 (Nat.le_refl _) (by unfold maxLen; omega) rfl
  have hSE : Since w3 (w3.alloc (.cells #[] 5)) := (Since.refl w3).alloc _
  obtain ⟨aA, capA, curA, wA, hrunA, hA1, hA2, hA3, hA4, hA5, hA6, hgA, hoA⟩ := append_empty hE (hrow.alloc _) hkl (Below.size (show Below w3.heap.size w3 _ from hSE)) 32
  have hSA := since_grown hSE hgA (Nat.le_refl _)
  have hAl := hA2.lt
  have b4 := Blk.new wA 62 #[.slice (some ⟨aA, 0, none⟩) k.b.length capA, .int .i64 (-1), .bool false, .int .i64 0]
  have a4 := hA2.alloc (.cells #[.slice (some ⟨aA, 0, none⟩) k.b.length capA, .int .i64 (-1), .bool false, .int .i64 0] 62)
  have hS4 := hSA.alloc (.cells #[.slice (some ⟨aA, 0, none⟩) k.b.length capA, .int .i64 (-1), .bool false, .int .i64 0] 62)
  have hrk : Rk (wA.alloc (.cells #[.slice (some ⟨aA, 0, none⟩) k.b.length capA, .int .i64 (-1), .bool false, .int .i64 0] 62)) wA.heap.size aA capA curA ⟨k.b, -1, false, 0⟩ := ⟨b4, a4, by omega, hA3, hA4, hA5, hA6⟩
  have h0ok : (⟨k.b, -1, false, 0⟩ : Dk).ok (2 * m.n + 1) := ⟨hok.1, hok.2.1, hok.2.2.1, (by show -1 ≤ (-1 : Int) ∧ (-1 : Int) ≤ 9223372036854775807; omega), (by show -9223372036854775808 ≤ (0 : Int) ∧ (0 : Int) ≤ 9223372036854775807; omega)⟩
  have hlk : k.revive.like ⟨k.b, -1, false, 0⟩ := ⟨rfl, rfl, rfl⟩
  have HLK := hide (hlk.open_ m.n)
  have HOK := hide (Dk.ok_arm (open_any h0ok hn1 rfl (by rw [← HLK.out.2]; exact hlf)).1.ok harm.2)
  have PO := hide (refopen_any _ hrk h0ok rfl)
  have hgs : wA.heap.size < (wA.alloc (.cells #[.slice (some ⟨aA, 0, none⟩) k.b.length capA, .int .i64 (-1), .bool false, .int .i64 0] 62)).heap.size := by simp
  have hsA3 : w3.heap.size ≤ wA.heap.size := Below.size (show Below w3.heap.size w3 wA from hSA)
  have HS4 := hide hS4
  clear z0 z4 y0 hrow hkb hE hSE hgA hoA b4 a4 hrk h0ok hlk hl4 hq4 hpq4 hS4 hSA hA2 hA6 hp4 hqq4 ht3
  go_wp2_with (at_builtin; refine wpList_plain rfl fun K hK => ?_; refine append_op _ _ _ rfl rfl rfl rfl hrunA ?_; refine hK _ _ ?_)
  go_wp2_with fail
  refine PO.out.mono ?_
  generalize wA.alloc (.cells #[.slice (some ⟨aA, 0, none⟩) k.b.length capA, .int .i64 (-1), .bool false, .int .i64 0] 62) = w4 at *
  generalize wA.heap.size = g2 at *
  rintro e w5 ⟨l5, R5, rfl, hr5, ht5, hrr5⟩
  rw [← HLK.out.2, hlf]
  have hs34 : w3.heap.size ≤ w4.heap.size := Below.size (show Below w3.heap.size w3 w4 from HS4.out)
  have hs45 := ht5.size
  have k35 : ∀ b, b < w3.heap.size → w5.heap[b]? = w3.heap[b]? := fun b hb => (ht5.block b (by omega) (fun h => by omega)).trans (Below.block (show Below w3.heap.size w3 w4 from HS4.out) b hb)
  have hd5 := dskl_keep HD4.out (w' := w5) fun b _ hb => k35 b hb
  have hl5 := log_keep HL4.out (w' := w5) (by omega) fun b _ hb => k35 b hb
  have hg := open_any hrv hn1 rfl hlf
  have HARM := hide (dlarm_any arm w5 hd5 hg.1.ok harm)
  have HS5 := hide (touch_since (HS3.out.next HS4.out) ht5 (fun b h => by omega))
  have HL5 := hide hl5
  have hpl := log_lt HL4.out
  have hql := dskl_lt HD4.out
  have hr5lt : ∀ b, R5 b → b < w5.heap.size := by
    obtain ⟨_, _, _, _, _, _, _, _, h3, _⟩ := hr5
    exact h3.2.2.2.2.2
  have HR5 := hide hr5
  have hha : (openL (⟨k.b, -1, false, 0⟩ : Dk) m.n).1.arm arm = { (openL (⟨k.b, -1, false, 0⟩ : Dk) m.n).1 with fuel := max arm (-1) } := by
    unfold Dk.arm
    rw [if_neg (by rw [← HLK.out.1.2.2, hg.2]; decide)]
  have HHA := hide hha
  have HLK2 := hide (HLK.out.1.arm arm)
  have e2 : (openL (⟨k.b, -1, false, 0⟩ : Dk) m.n).2.1 = (openL k.revive m.n).2.1 := by rw [HLK.out.2]
  rw [e2] at HR5 HOK
  have HG := hide hg
  clear hd5 hl5 hg k35 hr5 ht5 hha e2 HLK PO
  generalize (openL (⟨k.b, -1, false, 0⟩ : Dk) m.n).1 = h1 at *
  generalize hk1 : (openL k.revive m.n).1 = k1 at *
  generalize hm1 : (openL k.revive m.n).2.1 = m1 at *
  go_wp2_with fail
  refine HARM.out.mono ?_
  rintro e w6 ⟨rfl, P6, hd6, hp6, ht6⟩
  have hs56 := ht6.size
  have hr6 := HR5.out.keep hs56 (fun b hb => ht6.block b (hr5lt b hb) (fun hq => by have := hql b hq; rcases hrr5 b hb with h | h | h <;> omega))
  have HR6 := hide hr6
  obtain ⟨cur6, RA6, rc6, PA6, pc6, vs6, q1, q2, q3, q4, q5, q6, q7, q8⟩ := hr6
  have c1 := (q1.1.cell 1).trans rfl
  have f1 := q1.1.frozen 1
  have b7 := q1.1.store 1 (.int .i64 (max arm (-1)))
  have hrk7 : Rk (w6.setCell ⟨g2, 1, none⟩ (.int .i64 (max arm (-1)))) g2 aA capA cur6 { h1 with fuel := max arm (-1) } := ⟨b7, q1.2.1.far (p := ⟨g2, 1, none⟩) q1.2.2.1 _, q1.2.2⟩
  have t7 := (Touch.refl (fun n => n = g2 ∨ n = aA) w6).setCell (p := ⟨g2, 1, none⟩) (fun _ => .inl rfl) (.int .i64 (max arm (-1)))
  have hr7 := HR6.out.disk t7 ⟨cur6, hrk7⟩
  have hq1 := q1.1.lt
  have kp7 : ∀ b, b ≠ g2 → (w6.setCell ⟨g2, 1, none⟩ (.int .i64 (max arm (-1)))).heap[b]? = w6.heap[b]? := fun b hb => Below.heap_setCell _ ⟨g2, 1, none⟩ _ b hb
  have hgr : R5 g2 := q3.2.2.2.1
  have hsz7 : (w6.setCell ⟨g2, 1, none⟩ (.int .i64 (max arm (-1)))).heap.size = w6.heap.size := by simp
  have hd7 := dskl_keep hd6 (w' := w6.setCell ⟨g2, 1, none⟩ (.int .i64 (max arm (-1)))) fun b hb _ => kp7 b (fun e => by
    subst e
    rcases hp6 b hb with h | h
    · have := hql b h; omega
    · have := hr5lt b hgr; omega)
  have hl7 := log_keep (log_keep HL5.out (w' := w6) hs56 fun b hb hlt => ht6.block b hlt (HPQ4.out b hb)) (w' := w6.setCell ⟨g2, 1, none⟩ (.int .i64 (max arm (-1)))) (by omega) fun b hb _ => kp7 b (fun e => by have := hpl b hb; omega)
  have HS7 := hide (touch_since (touch_since HS5.out ht6 HQ4.out) t7 (fun b h => by omega))
  have hw5 : w.heap.size ≤ w5.heap.size := Below.size (show Below w.heap.size w w5 from HS5.out)
  have HFIN := hide (show Again (k1.arm arm) m1 w _ (.returned (.tuple #[.pointer (some ⟨l3, 0, none⟩), .pointer (some ⟨l5, 0, none⟩), .bool true])) from
    ⟨P4, P6, R5, l3, d2, l5, g2, aA, capA, { h1 with fuel := max arm (-1) }, rfl, ⟨log_arm arm hl7, hd7, hr7, by rw [← HHA.out]; exact HLK2.out, .of_good (HG.out.1.arm harm.2), by rw [← HHA.out]; exact HOK.out,
      fun b hb hc => (hp6 b hc).elim (HPQ4.out b hb) (fun h => by have := hpl b hb; omega),
      fun b hb hc => by have := hpl b hb; rcases hrr5 b hc with h | h | h <;> omega,
      fun b hb hc => by
        have := hr5lt b hc
        rcases hp6 b hb with h | h
        · have := hql b h; rcases hrr5 b hc with h | h | h <;> omega
        · omega⟩,
      HP4.out, fun b hb => (hp6 b hb).elim (HQ4.out b) (fun h => by omega), fun b hb => by rcases hrr5 b hb with h | h | h <;> omega, HS7.out⟩)
  clear q1 q2 q4 q5 q6 q7 q8 b7 hrk7 t7 hr7 hd7 hl7 hd6 ht6 hp6 kp7
  go_wp2
  · have e : max arm (-1) = -1 := by omega
    rw [e] at HFIN
    go_ret3
    exact HFIN.out
  · have e : max arm (-1) = arm := by omega
    rw [e] at HFIN
    go_ret3
    exact HFIN.out
end Go.Proofs.Ythoedknnchaiaaa
