/- Whether a list of strings has a string; whether two lists of strings are the same. -/
import Derived.Test.YtfnkafnjpldaoaaDoorLxRd
import Derived.Outline
namespace Go.Proofs.YtfnkafnjpldaoaaDoor
open Go.RowKit
set_option linter.unusedVariables false
theorem takeS_eq_succ {xs ys : List LX.Bs} {k : Nat} (hx : k < xs.length) (hy : k < ys.length) (h : xs.take k = ys.take k) (he : xs.getD k [] = ys.getD k []) : xs.take (k + 1) = ys.take (k + 1) := by
  rw [List.take_succ_eq_append_getElem hx, List.take_succ_eq_append_getElem hy, h]
  simp only [List.getD_eq_getElem?_getD, List.getElem?_eq_getElem hx, List.getElem?_eq_getElem hy, Option.getD_some] at he
  rw [he]
end Go.Proofs.YtfnkafnjpldaoaaDoor
