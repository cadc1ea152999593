/-
  The contracts of the program's Place and of the document's own answer for it: over every slice of messages that can be read both count the messages that are ahead.
-/
import Derived.Test.YtjlbkdghlijoeaaGreatOpen
import Derived.LoopTactic
namespace Go.Proofs.YtjlbkdghlijoeaaGreat
open Go.ChangeShapes Go.WideShapes Go.ChangeAt Go.RowKit Go.Sort

theorem ret_int {k : IntKind} {a b : Int} (h : a = b) : Ending.returned (.int k a) = .returned (.int k b) := by rw [h]
/-- How many are ahead of m. -/
def placeM (ms : List M) (m : M) : Nat := ms.countP fun x => ltM x m
theorem placeM_take (ms : List M) (m : M) (k : Nat) (h : k < ms.length) : placeM (ms.take (k + 1)) m = placeM (ms.take k) m + (if ltM (ms.getD k default) m then 1 else 0) := by
  unfold placeM
  rw [List.take_succ_eq_append_getElem h, List.countP_append]
  simp [List.getD_eq_getElem?_getD, h, List.countP_cons]
theorem placeM_le (ms : List M) (m : M) : placeM ms m ≤ ms.length := List.countP_le_length

end Go.Proofs.YtjlbkdghlijoeaaGreat
