/-
  The contract of the document's own 'may', at every instruction.
-/
import Derived.Test.YtminfmjgmmkaoaaGreatDoorCode4
namespace Go.Proofs.YtminfmjgmmkaoaaGreatDoor
open Go.ChangeShapes Go.WideShapes Go.ChangeAt Go.RowKit Go.Sort
theorem restI_0 (a b c : Int) : restI ⟨0, a, b, c⟩ = (!(a != 0) && (!(b != 0) && !(c != 0))) := rfl


end Go.Proofs.YtminfmjgmmkaoaaGreatDoor
