
/-
  The document's own Mix, and the three steps of the program's, each for every number of 64 bits.
-/
import Derived.Test.YtofkfajcibdneaaDoorRows
import Derived.Test.YtofkfajcibdneaaDoorMix
import Derived.WalkKit
import Derived.ProofKit
import Derived.OpenShut
import Derived.WalkLawsBesides
import Derived.Outline
import Derived.Laws.Bits64
import Derived.Laws.ShiftsVar
namespace Go.Proofs.YtofkfajcibdneaaDoor
open Go.ChangeShapes Go.WideShapes Go.ChangeAt Go.RowKit
set_option maxRecDepth 4000

theorem ret_u64 {a b : Int} (h : a = b) : Ending.returned (.int .u64 a) = .returned (.int .u64 b) := by rw [h]
theorem wrapU_nat (a : Nat) : IntKind.u64.wrap (a : Int) = ((a % two64 : Nat) : Int) := by
  rw [IntKind.wrap_u64]; unfold two64; omega
theorem wrapU_add (a b : Nat) : IntKind.u64.wrap ((a : Int) + (b : Int)) = (((a + b) % two64 : Nat) : Int) := by
  rw [← Int.natCast_add]; exact wrapU_nat _
theorem wrapU_mul (a b : Nat) : IntKind.u64.wrap ((a : Int) * (b : Int)) = ((a * b % two64 : Nat) : Int) := by
  rw [← Int.natCast_mul]; exact wrapU_nat _
theorem bits_shx (k a : Nat) (ha : a < 18446744073709551616) : bits .xor .u64 (a : Int) ((a : Int) / 2 ^ k) = ((shx k a : Nat) : Int) := by
  have h := xorShift_u64 a (2 ^ k) ha
  rw [Int.natCast_pow] at h
  exact h
theorem step30 (X : Nat) (hX : X < 18446744073709551616) : IntKind.u64.wrap (bits .xor .u64 (X : Int) ((X : Int) / 1073741824) * 13787848793156543929) = ((shx 30 X * mixA % two64 : Nat) : Int) :=
  mixStep_u64 X 1073741824 13787848793156543929 hX
theorem step27 (X : Nat) (hX : X < 18446744073709551616) : IntKind.u64.wrap (bits .xor .u64 (X : Int) ((X : Int) / 134217728) * 10723151780598845931) = ((shx 27 X * mixB % two64 : Nat) : Int) :=
  mixStep_u64 X 134217728 10723151780598845931 hX
theorem step31 (X : Nat) (hX : X < 18446744073709551616) : bits .xor .u64 (X : Int) ((X : Int) / 2147483648) = ((shx 31 X : Nat) : Int) :=
  xorShift_u64 X 2147483648 hX
theorem mixZ (x : Nat) : bits .xor .u64
    (IntKind.u64.wrap (bits .xor .u64 (IntKind.u64.wrap (bits .xor .u64 (IntKind.u64.wrap ((x : Int) + 11400714819323198485)) (IntKind.u64.wrap ((x : Int) + 11400714819323198485) / 1073741824) * 13787848793156543929))
      (IntKind.u64.wrap (bits .xor .u64 (IntKind.u64.wrap ((x : Int) + 11400714819323198485)) (IntKind.u64.wrap ((x : Int) + 11400714819323198485) / 1073741824) * 13787848793156543929) / 134217728) * 10723151780598845931))
    (IntKind.u64.wrap (bits .xor .u64 (IntKind.u64.wrap (bits .xor .u64 (IntKind.u64.wrap ((x : Int) + 11400714819323198485)) (IntKind.u64.wrap ((x : Int) + 11400714819323198485) / 1073741824) * 13787848793156543929))
      (IntKind.u64.wrap (bits .xor .u64 (IntKind.u64.wrap ((x : Int) + 11400714819323198485)) (IntKind.u64.wrap ((x : Int) + 11400714819323198485) / 1073741824) * 13787848793156543929) / 134217728) * 10723151780598845931) / 2147483648) = ((mixN x : Nat) : Int) := by
  have e1 : IntKind.u64.wrap ((x : Int) + 11400714819323198485) = (((x + mixC) % two64 : Nat) : Int) := wrapU_add x mixC
  have l1 := Nat.mod_lt (x + mixC) two64_pos
  rw [e1, step30 _ l1]
  have l2 := Nat.mod_lt (shx 30 ((x + mixC) % two64) * mixA) two64_pos
  rw [step27 _ l2]
  exact step31 _ (Nat.mod_lt _ two64_pos)
end Go.Proofs.YtofkfajcibdneaaDoor
