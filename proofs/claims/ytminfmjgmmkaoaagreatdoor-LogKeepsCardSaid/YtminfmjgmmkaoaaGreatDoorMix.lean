/-
  Mixing in plain numbers: its steps are one to one, and so is it. No model in this text.
-/
import Derived.Laws.Bits64
namespace Go.Proofs.YtminfmjgmmkaoaaGreatDoor

def two64 : Nat := 18446744073709551616
/-- One step: a number, and it divided by 2^k, bit by bit apart. -/
def shx (k x : Nat) : Nat := x ^^^ x / 2 ^ k
theorem shx_lt {k x : Nat} (h : x < two64) : shx k x < two64 := by
  have h2 : x / 2 ^ k < 2 ^ 64 := Nat.lt_of_le_of_lt (Nat.div_le_self _ _) h
  exact Nat.xor_lt_two_pow (n := 64) h h2
def mixC : Nat := 0x9E3779B97F4A7C15
def mixA : Nat := 0xBF58476D1CE4E5B9
def mixB : Nat := 0x94D049BB133111EB
/-- P4.1's Mix, in plain numbers. -/
def mixN (x : Nat) : Nat := shx 31 (shx 27 (shx 30 ((x + mixC) % two64) * mixA % two64) * mixB % two64)
theorem two64_pos : 0 < two64 := by decide
theorem mixN_lt (x : Nat) : mixN x < two64 := shx_lt (Nat.mod_lt _ two64_pos)
/-- A number of int, without sign. -/
def unsN (n : Int) : Nat := (n % 18446744073709551616).toNat
/-- P4.1's At. -/
def atN (seed : Nat) (self n : Int) : Nat := mixN ((mixN ((mixN seed + unsN self) % two64) + unsN n) % two64)
end Go.Proofs.YtminfmjgmmkaoaaGreatDoor
