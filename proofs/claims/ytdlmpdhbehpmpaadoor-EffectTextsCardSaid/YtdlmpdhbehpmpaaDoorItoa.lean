/-
  strconv.Itoa: the decimal numeral (the library's contract, laid at this seat: the text Shelf).
-/
import Derived.Test.YtdlmpdhbehpmpaaDoorGood
import Derived.Test.YtdlmpdhbehpmpaaDoorShelf
import Derived.Test.YtdlmpdhbehpmpaaDoorDecimal
namespace Go.Proofs.YtdlmpdhbehpmpaaDoor
open Go.RowKit
set_option linter.unusedVariables false

theorem below_laid (w : World) (k : Nat) (os : Array Obj) : Below w.heap.size w (Sort.grow (w.drewN k) os) :=
  ⟨rfl, rfl, rfl, by simp [Sort.grow], fun i hi => by
    show ((w.drewN k).heap ++ os)[i]? = _
    rw [Array.getElem?_append_left (by show i < w.heap.size; omega)]
    rfl⟩
theorem itoa_any (n : Int) (w : World) (hg : Good w) (h0 : -9223372036854775808 ≤ n) (h1 : n ≤ 9223372036854775807) :
    Calls Tryd.prog 31 #[.int .i64 n] w fun e w' => e = .returned (.string (txt (Lib.itoa n))) ∧ Below w.heap.size w w' :=
  (Tryd.strconv_Itoa n h0 h1 w (good_tab hg)).mono fun e w' ⟨he, k, os, hw⟩ => ⟨he, by rw [hw]; exact below_laid w k os⟩
end Go.Proofs.YtdlmpdhbehpmpaaDoor
