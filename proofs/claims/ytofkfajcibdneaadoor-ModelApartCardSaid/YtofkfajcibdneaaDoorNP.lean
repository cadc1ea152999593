/-
  What the laws want of package model: its calls, and how a model comes in.
-/
import Derived.Test.YtofkfajcibdneaaDoorNI
import Derived.Test.YtofkfajcibdneaaDoorNO
import Derived.Test.YtofkfajcibdneaaDoorOH
import Derived.Test.YtofkfajcibdneaaDoorOL
namespace Go.Proofs.YtofkfajcibdneaaDoor
end Go.Proofs.YtofkfajcibdneaaDoor
