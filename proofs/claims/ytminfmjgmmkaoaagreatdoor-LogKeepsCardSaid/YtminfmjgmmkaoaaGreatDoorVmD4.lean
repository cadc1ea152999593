/-
  The contract of the document's own send.
-/
import Derived.Test.YtminfmjgmmkaoaaGreatDoorVmD3
import Derived.Deep.AppendLies
import Derived.Deep.RegionLaw
import Derived.Deep.RegionHeld3
namespace Go.Proofs.YtminfmjgmmkaoaaGreatDoor
open Go.ChangeShapes Go.WideShapes Go.ChangeAt Go.RowKit Go.Sort
set_option linter.unusedVariables false
set_option maxRecDepth 4000

theorem own_slice {w : World} {base : Nat} {e : TypeId} {size : Nat} {v : Value} {n : Nat} {xs : List Value} (h : w.ownsRow base e size v n xs) : ∃ a cap, v = .slice a n cap := by
  rcases h.2 with ⟨rfl, rfl⟩ | ⟨g, cap, cur, rfl, _⟩
  · exact ⟨none, 0, rfl⟩
  · exact ⟨_, cap, rfl⟩
section
variable {b1 : Nat} {w : World} {x rb : Nat} {v : Wv} {W : Wd} {ev : M} {ov : Value} {m : Mc}
/-! The ways of send. -/
end
end Go.Proofs.YtminfmjgmmkaoaaGreatDoor
