
/-
  One out of the middle of a slice: the program's without, at days and at messages.
-/
import Derived.Test.YtcfpfbemmklbaaaYB
namespace Go.Proofs.Ytcfpfbemmklbaaa
open Go.ChangeShapes Go.WideShapes Go.ChangeAt Go.Shelf Go.RowKit Go.Lib Go.Sort Go.Deep
set_option linter.unusedVariables false

section
variable {α : Type}
theorem splice_out1 (l : List α) (p : Nat) (hp : p + 1 < l.length) : (splice l 1 (l.take p)).drop 1 = l.eraseIdx p := by
  have h1 : 1 + (l.take p).length ≤ l.length := by rw [List.length_take]; omega
  apply List.ext_getElem?
  intro j
  rw [List.getElem?_drop, splice_get _ _ _ h1, if_neg (by omega), List.getElem?_eraseIdx, List.length_take]
  by_cases a : j < p
  · rw [if_pos (by omega), if_pos a, show 1 + j - 1 = j by omega, List.getElem?_take_of_lt a]
  · rw [if_neg (by omega), if_neg a, Nat.add_comm]
theorem splice_out2 (l : List α) (p : Nat) (hp : p < l.length) : (splice l p (l.drop (p + 1))).take (l.length - 1) = l.eraseIdx p := by
  have h1 : p + (l.drop (p + 1)).length ≤ l.length := by rw [List.length_drop]; omega
  apply List.ext_getElem?
  intro j
  by_cases b : j < l.length - 1
  · rw [List.getElem?_take_of_lt b, splice_get _ _ _ h1, List.getElem?_eraseIdx, List.length_drop]
    by_cases a : j < p
    · rw [if_pos a, if_pos a]
    · rw [if_neg a, if_neg a, if_pos (by omega), List.getElem?_drop]
      congr 1
      omega
  · rw [List.getElem?_take_eq_none (by omega), List.getElem?_eq_none (by rw [List.length_eraseIdx_of_lt hp]; omega)]
end

end Go.Proofs.Ytcfpfbemmklbaaa
