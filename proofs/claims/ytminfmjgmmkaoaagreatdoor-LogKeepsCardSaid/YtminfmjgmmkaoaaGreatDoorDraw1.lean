/-
  The document's own Mix, and the three steps of the program's, each for every number of 64 bits.
-/
import Derived.Test.YtminfmjgmmkaoaaGreatDoorRows
import Derived.Test.YtminfmjgmmkaoaaGreatDoorMix
import Derived.WalkKit
import Derived.ProofKit
import Derived.OpenShut
import Derived.WalkLawsBesides
import Derived.Outline
import Derived.Laws.Bits64
import Derived.Laws.ShiftsVar
namespace Go.Proofs.YtminfmjgmmkaoaaGreatDoor
open Go.ChangeShapes Go.WideShapes Go.ChangeAt Go.RowKit
set_option maxRecDepth 4000

theorem ret_u64 {a b : Int} (h : a = b) : Ending.returned (.int .u64 a) = .returned (.int .u64 b) := by rw [h]
theorem wrapU_nat (a : Nat) : IntKind.u64.wrap (a : Int) = ((a % two64 : Nat) : Int) := by
  rw [IntKind.wrap_u64]; unfold two64; omega
theorem wrapU_add (a b : Nat) : IntKind.u64.wrap ((a : Int) + (b : Int)) = (((a + b) % two64 : Nat) : Int) := by
  rw [← Int.natCast_add]; exact wrapU_nat _
theorem wrapU_mul (a b : Nat) : IntKind.u64.wrap ((a : Int) * (b : Int)) = ((a * b % two64 : Nat) : Int) := by
  rw [← Int.natCast_mul]; exact wrapU_nat _
theorem bits_shx (k a : Nat) (ha : a < 18446744073709551616) : bits .xor .u64 (a : Int) ((a : Int) / 2 ^ k) = ((shx k a : Nat) : Int) := by
  have h := xorShift_u64 a (2 ^ k) ha
  rw [Int.natCast_pow] at h
  exact h
theorem plus_any (a b : Nat) (w : World) :
    Calls Tryz.prog 121 #[.int .u64 a, .int .u64 b] w fun e w' => e = .returned (.int .u64 ((a + b) % two64 : Nat)) ∧ w = w' := by
  go_enter Tryz.func121, Tryz.ntmps121
  go_wp2
  go_ret
  exact ⟨ret_u64 (wrapU_add a b), rfl⟩
theorem times_any (a b : Nat) (w : World) :
    Calls Tryz.prog 123 #[.int .u64 a, .int .u64 b] w fun e w' => e = .returned (.int .u64 (a * b % two64 : Nat)) ∧ w = w' := by
  go_enter Tryz.func123, Tryz.ntmps123
  go_wp2
  go_ret
  exact ⟨ret_u64 (wrapU_mul a b), rfl⟩
theorem folded_any (a k : Nat) (ha : a < 18446744073709551616) (hk : k < 64) (w : World) :
    Calls Tryz.prog 122 #[.int .u64 a, .int .u64 k] w fun e w' => e = .returned (.int .u64 (shx k a : Nat)) ∧ w = w' := by
  go_enter Tryz.func122, Tryz.ntmps122
  go_wp2
  go_ret
  exact ⟨ret_u64 (bits_shx k a ha), rfl⟩
end Go.Proofs.YtminfmjgmmkaoaaGreatDoor
