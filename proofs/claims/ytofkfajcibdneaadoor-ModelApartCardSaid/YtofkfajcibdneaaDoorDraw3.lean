
/-
  At and Below, the program's and the document's own, and the law's test that the program computes.
-/
import Derived.Test.YtofkfajcibdneaaDoorDraw2
namespace Go.Proofs.YtofkfajcibdneaaDoor
open Go.ChangeShapes Go.WideShapes Go.ChangeAt Go.RowKit
set_option maxRecDepth 4000

theorem wrapU_uns (n : Int) : IntKind.u64.wrap n = ((unsN n : Nat) : Int) := by
  rw [IntKind.wrap_u64]; unfold unsN; omega
theorem wrapU_plus (a : Nat) (n : Int) : IntKind.u64.wrap ((a : Int) + IntKind.u64.wrap n) = (((a + unsN n) % two64 : Nat) : Int) := by
  rw [wrapU_uns n]; exact wrapU_add _ _
theorem wrap64_rest (a k : Nat) (h1 : 1 ≤ k) (h2 : k ≤ 9223372036854775807) : wrap64 ((a : Int) % (k : Int)) = ((a % k : Nat) : Int) := by
  have h := Nat.mod_lt a (show 0 < k by omega)
  rw [← Int.natCast_emod]
  generalize a % k = r at *
  unfold wrap64
  omega
theorem ret_i64 {a b : Int} (h : a = b) : Ending.returned (.int .i64 a) = .returned (.int .i64 b) := by rw [h]
end Go.Proofs.YtofkfajcibdneaaDoor
