/-
  The sum of any list of numbers of 64 bits, as num.Sum tells it, is the one that the statement reckons one by one; where one of the sums on the way is none, both tell false and 0. No condition.
-/
import Derived.Test.YtieojdnpdeceiaaRows
import Derived.Test.YtieojdnpdeceiaaNumAlive
import Derived.WalkKit
import Derived.ProofKit
import Derived.OpenShut
import Derived.ShutString
import Derived.ChangeOld
import Derived.Below
namespace Go.Proofs.Ytieojdnpdeceiaa.numSums
open Go.ChangeShapes Go.WideShapes Go.ChangeAt Go.RowKit
open Go.ChangeMaps (open_string shut_string)
set_option linter.unusedVariables false

theorem own : ownKnob Try.prog.godebug = none := by kernel_rfl
theorem laidOut : laidOutB Try.prog = true := by kernel_rfl

/-- WHAT THE WALK IS TOLD OF A SLICE OF INTEGERS THAT CAME IN: it is nil; or it leads to a row of 'cap' cells, the numbers 'zs' (the first 'len' are its elements, the rest its spare room), each fitting its kind. -/
def IsRow (k : IntKind) (w : World) (a : Option Addr) (len cap : Nat) (zs : List Int) : Prop :=
  (a = none ∧ len = 0 ∧ cap = 0 ∧ zs = []) ∨
  ∃ x, a = some x ∧ len ≤ cap ∧ cap ≤ maxLen ∧ zs.length = cap ∧ (∀ i, i < zs.length → w.cell? (x.add i) = some (.int k (zs.getD i 0))) ∧ ∀ n ∈ zs, (Lit.int k n).wf = true

/-! ### A list that is empty; one whose sum is a number; one whose sum is none -/
theorem walk0 (a : Option Addr) (cap : Nat) (w : World) :
    Calls Try.prog 4 #[.slice a 0 cap] w fun e w' => e = .returned (.bool true) ∧ Below w.heap.size w w' := by
  go_enter Try.func4, Try.ntmps4
  go_wp2_with fail
  refine (alive_any _).mono ?_
  rintro e w1 ⟨rfl, -, hb⟩
  go_wp2_with fail
  refine (numSum_nil _ _ _).mono ?_
  rintro e w' ⟨rfl, rfl⟩
  go_wp2
  go_loop [5, 6, 7] (fun v s i => v = .int .i64 0 ∧ s = .bool true ∧ i = .int .i64 0) (fun _ _ _ => 0)
  case atStart => exact ⟨rfl, rfl, rfl⟩
  case round =>
    obtain ⟨rfl, rfl, rfl⟩ := hrel
    go_wp2
    go_ret
    exact ⟨rfl, hb⟩

theorem walk1 (b off len cap : Nat) (zs : List Int) (t : Int) (w : World) (hz : len ≤ zs.length) (hbig : len ≤ 9223372036854775807) (hr : ∀ n ∈ zs, I64 n)
    (hc : ∀ j, j < zs.length → w.cell? ⟨b, off + j, none⟩ = some (.int .i64 (zs.getD j 0))) (h : Part zs len t) :
    Calls Try.prog 4 #[.slice (some ⟨b, off, none⟩) len cap] w fun e w' => e = .returned (.bool true) ∧ Below w.heap.size w w' := by
  go_enter Try.func4, Try.ntmps4
  go_wp2_with fail
  refine (alive_any _).mono ?_
  rintro e w1 ⟨rfl, -, hb⟩
  have hc1 : ∀ j, j < zs.length → w1.cell? ⟨b, off + j, none⟩ = some (.int .i64 (zs.getD j 0)) := fun j hj => (hb.cell (World.block_lt_of_cell? w _ (hc j hj))).trans (hc j hj)
  clear hc
  have HC := Lib.hid hc1
  clear hc1
  go_wp2_with fail
  refine (numSum_some _ _ _ _ zs t _ hz hbig hr HC.out h).mono ?_
  rintro e w' ⟨rfl, rfl⟩
  go_wp2
  go_loop [5, 6, 7] (fun v s i => ∃ (k : Nat) (u : Int), k ≤ len ∧ i = .int .i64 k ∧ v = .int .i64 u ∧ s = .bool true ∧ Part zs k u) (fun _ _ i => len - (intOf i).toNat)
  case atStart => exact ⟨0, 0, Nat.zero_le _, rfl, rfl, rfl, rfl⟩
  case round =>
    obtain ⟨k, v, hk, rfl, rfl, rfl, hv⟩ := hrel
    by_cases hlt : k < len
    · have hcell := HC.out k (by omega)
      generalize hn : zs.getD k 0 = n at hcell
      have hn' : zs[k]? = some n := by
        rw [List.getD_eq_getElem?_getD] at hn
        rw [List.getElem?_eq_getElem (by omega)] at hn ⊢
        simpa using hn
      have hvi : I64 v := sumFrom_i64 (by unfold I64; omega) hv
      have hni : I64 n := hr n (List.mem_of_getElem? hn')
      by_cases hs : I64 (v + n)
      · have hp : Part zs (k + 1) (v + n) := sum_yes hn' hv hs
        clear hn hn' hr
        go_wp2_with fail
        refine (lawAdd_yes _ _ _ hvi hni hs).mono ?_
        rintro e w' ⟨rfl, rfl⟩
        go_wp2
        go_round
        case rel => exact ⟨k + 1, v + n, by omega, by go_num, rfl, rfl, hp⟩
        case measure => simp [intOf]; omega
      · exfalso
        have := sum_no hn' hv hs hlt
        unfold Part at h
        rw [h] at this
        cases this
    · have e : k = len := by omega
      subst e
      have e : v = t := by unfold Part at h hv; rw [h] at hv; exact (Option.some.inj hv).symm
      subst e
      clear hr
      go_wp2
      go_ret
      exact ⟨rfl, hb⟩

theorem walk2 (b off len cap : Nat) (zs : List Int) (w : World) (hz : len ≤ zs.length) (hbig : len ≤ 9223372036854775807) (hr : ∀ n ∈ zs, I64 n)
    (hc : ∀ j, j < zs.length → w.cell? ⟨b, off + j, none⟩ = some (.int .i64 (zs.getD j 0))) (h : ∀ t, ¬ Part zs len t) :
    Calls Try.prog 4 #[.slice (some ⟨b, off, none⟩) len cap] w fun e w' => e = .returned (.bool true) ∧ Below w.heap.size w w' := by
  go_enter Try.func4, Try.ntmps4
  go_wp2_with fail
  refine (alive_any _).mono ?_
  rintro e w1 ⟨rfl, -, hb⟩
  have hc1 : ∀ j, j < zs.length → w1.cell? ⟨b, off + j, none⟩ = some (.int .i64 (zs.getD j 0)) := fun j hj => (hb.cell (World.block_lt_of_cell? w _ (hc j hj))).trans (hc j hj)
  clear hc
  have HC := Lib.hid hc1
  clear hc1
  have HN := Lib.hid h
  clear h
  go_wp2_with fail
  refine (numSum_none _ _ _ _ zs _ hz hbig hr HC.out HN.out).mono ?_
  rintro e w' ⟨rfl, rfl⟩
  go_wp2
  go_loop [5, 6, 7] (fun v s i => ∃ (k : Nat) (u : Int) (y : Bool), k ≤ len ∧ i = .int .i64 k ∧ v = .int .i64 u ∧ s = .bool y ∧ Hid ((y = true ∧ Part zs k u) ∨ (y = false ∧ u = 0))) (fun _ _ i => len - (intOf i).toNat)
  case atStart => exact ⟨0, 0, true, Nat.zero_le _, rfl, rfl, rfl, .inl ⟨rfl, rfl⟩⟩
  case round =>
    obtain ⟨k, v, y, hk, rfl, rfl, rfl, hv⟩ := hrel
    rcases hv.out with ⟨rfl, hp⟩ | ⟨rfl, rfl⟩
    · clear hv
      by_cases hlt : k < len
      · have hcell := HC.out k (by omega)
        generalize hn : zs.getD k 0 = n at hcell
        have hn' : zs[k]? = some n := by
          rw [List.getD_eq_getElem?_getD] at hn
          rw [List.getElem?_eq_getElem (by omega)] at hn ⊢
          simpa using hn
        have hvi : I64 v := sumFrom_i64 (by unfold I64; omega) hp
        have hni : I64 n := hr n (List.mem_of_getElem? hn')
        by_cases hs : I64 (v + n)
        · have hq : Part zs (k + 1) (v + n) := sum_yes hn' hp hs
          clear hn hn' hr
          go_wp2_with fail
          refine (lawAdd_yes _ _ _ hvi hni hs).mono ?_
          rintro e w' ⟨rfl, rfl⟩
          go_wp2
          go_round
          case rel => exact ⟨k + 1, v + n, true, by omega, by go_num, rfl, rfl, .inl ⟨rfl, hq⟩⟩
          case measure => simp [intOf]; omega
        · clear hn hn' hr
          go_wp2_with fail
          refine (lawAdd_no _ _ _ hvi hni hs).mono ?_
          rintro e w' ⟨rfl, rfl⟩
          go_wp2
          go_round
          case rel => exact ⟨k + 1, 0, false, by omega, by go_num, rfl, rfl, .inr ⟨rfl, rfl⟩⟩
          case measure => simp [intOf]; omega
      · have e : k = len := by omega
        subst e
        exact absurd hp (HN.out v)
    · clear hv hr
      by_cases hlt : k < len
      · go_wp2
        go_ret
        exact ⟨rfl, hb⟩
      · go_wp2
        go_ret
        exact ⟨rfl, hb⟩

/-! ### STEP 1: THE WALK: the Go text returns true, AND WRITES NOTHING THAT WAS THERE: 'Below w.heap.size w w'' (Derived/Below.lean: '.refl', '.alloc', '.drew', '.setCell' at a new block, '.trans'). Open each 'IsRow' by 'rcases' AHEAD of 'go_enter'; part every test ahead of the walk. -/
theorem walk (a0 : Option Addr) (len0 cap0 : Nat) (z0 : List Int) (w : World) (w0 : IsRow .i64 w a0 len0 cap0 z0) :
    Calls Try.prog 4 #[.slice a0 len0 cap0] w fun e w' => e = .returned (.bool true) ∧ Below w.heap.size w w' := by
  rcases w0 with ⟨rfl, rfl, rfl, rfl⟩ | ⟨x, rfl, hl, hm, hz, hc, hr⟩
  · exact walk0 none 0 w
  · unfold maxLen at hm
    by_cases h0 : len0 = 0
    · subst h0; exact walk0 _ _ w
    · obtain ⟨b, off, rfl, hc'⟩ := ints_at hc (by omega)
      have hr' : ∀ n ∈ z0, I64 n := fun n hn => bounds_i64 (hr n hn)
      by_cases h : ∃ t, Part z0 len0 t
      · obtain ⟨t, h⟩ := h
        exact walk1 b off len0 cap0 z0 t w (by omega) (by omega) hr' hc' h
      · exact walk2 b off len0 cap0 z0 w (by omega) (by omega) hr' hc' (fun t ht => h ⟨t, ht⟩)

/-! ### THE ROW's STEP: WRITTEN OUT: LEAVE IT -/
set_option maxRecDepth 100000 in
theorem lifted (os : Os) (started : os.Started) (H : Type) (enc : TypeId × Value → H) :
    ReturnsInHanded {} Try.checked os 4 .any (Rows.numSumsSpec.pre6 enc Try.prog Try.f4 Rows.numSumsRow.domain false) (Rows.numSumsSpec.post enc Try.prog Try.f4 false true false false) := by
  refine returnsInHanded_of_change (C := Try.checked) own started (by kernel_rfl) Try.func4
    (ChangeSpec.witness6 (enc := enc) (C := Try.checked) false ⟨#[], #[.slice none 0 0], []⟩ 8 (by kernel_rfl) (by kernel_rfl) (by kernel_rfl) (by kernel_rfl)) ?_
  intro W base args ds gs before hval0 hW hcnd _
  have hval : ∀ (j : Nat) t v, Try.f4.params[j]? = some t → args[j]? = some v → Value.okWide Try.prog W .any base t v := hval0
  have hW' := hW
  obtain ⟨p, q, hA0, hV, rfl, hfz, hnd⟩ := hW
  have hA : DataW.TrodAll enc Try.prog W 0 (fun _ => true) true Try.f4.params.toList args.toList ds p := hA0
  rw [Try.params4] at hA hval
  obtain ⟨v0, vs0, d0, ds0, p0, q0, hargs, rfl, rfl, h0, r0⟩ := trodAll_cons hA
  obtain ⟨rfl, rfl, rfl⟩ := trodAll_nil r0
  obtain rfl : args = #[v0] := by cases args; simp_all
  obtain ⟨rfl, rfl⟩ := trodVars_none hV
  obtain ⟨a0, len0, cap0, rfl⟩ := okWide_slice Try.underlying26 (hval 0 26 v0 rfl rfl)
  have k0 := h0
  have lt0 : ∀ x ∈ p0, x.block < W.heap.size := by obtain ⟨m, hm⟩ := k0; exact DataW.trod_lt m _ _ _ hm
  obtain ⟨z0, w0⟩ : ∃ zs, IsRow .i64 W a0 len0 cap0 zs := by
    obtain ⟨fuel, hf⟩ := h0
    rcases open_ints Try.underlying26 Try.underlying2 (by kernel_rfl) hf with ⟨hcs, _⟩ | ⟨x, l, c, zs, hcs, _, hl, hm, hz, _, hcell, hwz⟩
    · simp [Value.cells] at hcs
      obtain ⟨rfl, rfl, rfl⟩ := hcs
      exact ⟨[], .inl ⟨rfl, rfl, rfl, rfl⟩⟩
    · simp [Value.cells] at hcs
      obtain ⟨rfl, rfl, rfl⟩ := hcs
      exact ⟨zs, .inr ⟨_, rfl, hl, hm, by simpa using hz, hcell, hwz⟩⟩
  clear hA0 hval0
  refine (walk a0 len0 cap0 z0 W w0).mono fun e W' ⟨he, bel⟩ => ?_
  subst he
  exact ⟨_, rfl, _, _, _, [], _, [], hW', trodAll_mk1 (shut_bool Try.underlying4 _), (trodAll_cons_mk (Below.trod laidOut (by kernel_rfl) (of_decide_eq_true (by kernel_rfl)) k0 bel lt0) trodAll_mk0), rfl, bel.frame _, fun h => by cases h⟩

theorem over : Rows.numSumsRow.holds Try.pinned (OpenSpec.ofChange Rows.numSumsSpec) :=
  OpenClaim.holds_of_wide 4 Try.f4 rfl rfl rfl rfl rfl rfl rfl ⟨rfl, rfl, rfl, rfl, rfl⟩ rfl rfl rfl rfl rfl (by kernel_rfl) Try.func4 (by kernel_rfl)
    (of_decide_eq_true (by kernel_rfl)) (by unfold Func.isWrapper; first | (rw [if_pos (by decide +kernel)]; kernel_rfl) | (rw [if_neg (by decide +kernel)]; exact ⟨rfl, rfl⟩))
    (fun os started H enc _ => lifted os started H enc)

/-- ████ THE STATEMENT ████ -/
theorem proved : Rows.NumSumsSaid := over
#print axioms proved
end Go.Proofs.Ytieojdnpdeceiaa.numSums
