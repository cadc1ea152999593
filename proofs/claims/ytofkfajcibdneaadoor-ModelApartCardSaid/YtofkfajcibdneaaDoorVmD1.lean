
/-
  The document's small functions of package vm: what an instruction makes of two numbers, and which states may be.
-/
import Derived.Test.YtofkfajcibdneaaDoorVmP
import Derived.Test.YtofkfajcibdneaaDoorDraw3
namespace Go.Proofs.YtofkfajcibdneaaDoor
open Go.ChangeShapes Go.WideShapes Go.ChangeAt Go.RowKit Go.Sort
set_option linter.unusedVariables false
set_option maxRecDepth 4000

/-- The instructions that make a number of two. -/
def twoB (op : Int) : Bool := decide (op = 3 ∨ op = 4 ∨ op = 5 ∨ op = 6 ∨ op = 7 ∨ op = 8 ∨ op = 9)
end Go.Proofs.YtofkfajcibdneaaDoor
