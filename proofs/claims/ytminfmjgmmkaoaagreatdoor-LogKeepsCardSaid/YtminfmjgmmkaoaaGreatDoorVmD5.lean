/-
  The contract of the document's own step, a theorem for each kind of instruction.
-/
import Derived.Test.YtminfmjgmmkaoaaGreatDoorVmD3
import Derived.StillTailTactics
import Derived.BigRegion
namespace Go.Proofs.YtminfmjgmmkaoaaGreatDoor
open Go.ChangeShapes Go.WideShapes Go.ChangeAt Go.RowKit Go.Sort
set_option linter.unusedVariables false
set_option maxRecDepth 4000

section
variable {b0 b1 : Nat} {w : World} {x rb : Nat} {v : Wv} {W : Wd} {ev : M} {ov : Value} {m : Mc}
end
end Go.Proofs.YtminfmjgmmkaoaaGreatDoor
