
/-
  Mixing in plain numbers: its steps are one to one, and so is it. No model in this text.
-/
import Derived.Laws.Bits64
namespace Go.Proofs.YtofkfajcibdneaaDoor

def two64 : Nat := 18446744073709551616
/-- One step: a number, and it divided by 2^k, bit by bit apart. -/
def shx (k x : Nat) : Nat := x ^^^ x / 2 ^ k
theorem shx_lt {k x : Nat} (h : x < two64) : shx k x < two64 := by
  have h2 : x / 2 ^ k < 2 ^ 64 := Nat.lt_of_le_of_lt (Nat.div_le_self _ _) h
  exact Nat.xor_lt_two_pow (n := 64) h h2
theorem shx_bit (k x i : Nat) : (shx k x).testBit i = (x.testBit i ^^ x.testBit (k + i)) := by
  unfold shx
  rw [Nat.testBit_xor, Nat.testBit_div_two_pow, Nat.add_comm]
theorem two64_le {i : Nat} (h : 64 ≤ i) : two64 ≤ 2 ^ i := by
  have : (2 : Nat) ^ 64 ≤ 2 ^ i := Nat.pow_le_pow_right (by decide) h
  exact this
theorem shx_inj {k x y : Nat} (hk : 0 < k) (hx : x < two64) (hy : y < two64) (h : shx k x = shx k y) : x = y := by
  have key : ∀ n i, i + n = 64 + k → x.testBit i = y.testBit i := by
    intro n
    induction n using Nat.strongRecOn with
    | _ n ih =>
      intro i hi
      by_cases h64 : 64 ≤ i
      · rw [Nat.testBit_lt_two_pow (Nat.lt_of_lt_of_le hx (two64_le h64)), Nat.testBit_lt_two_pow (Nat.lt_of_lt_of_le hy (two64_le h64))]
      · have h1 := ih (n - k) (by omega) (k + i) (by omega)
        have h2 := congrArg (fun z => z.testBit i) h
        simp only [shx_bit, h1] at h2
        generalize y.testBit (k + i) = c at h2
        revert h2
        cases x.testBit i <;> cases y.testBit i <;> cases c <;> simp
  apply Nat.eq_of_testBit_eq
  intro i
  by_cases h64 : i < 64 + k
  · exact key (64 + k - i) i (by omega)
  · rw [Nat.testBit_lt_two_pow (Nat.lt_of_lt_of_le hx (two64_le (show 64 ≤ i by omega))), Nat.testBit_lt_two_pow (Nat.lt_of_lt_of_le hy (two64_le (show 64 ≤ i by omega)))]
/-- A product with an odd number, undone by the number's own. -/
theorem mul_inj {c d x y : Nat} (hcd : c * d % two64 = 1) (hx : x < two64) (hy : y < two64) (h : x * c % two64 = y * c % two64) : x = y := by
  have key : ∀ z, z < two64 → z * c % two64 * d % two64 = z := by
    intro z hz
    rw [Nat.mod_mul_mod, Nat.mul_assoc, Nat.mul_mod, hcd, Nat.mul_one, Nat.mod_mod]
    exact Nat.mod_eq_of_lt hz
  rw [← key x hx, ← key y hy, h]
def mixC : Nat := 0x9E3779B97F4A7C15
def mixA : Nat := 0xBF58476D1CE4E5B9
def mixB : Nat := 0x94D049BB133111EB
/-- P4.1's Mix, in plain numbers. -/
def mixN (x : Nat) : Nat := shx 31 (shx 27 (shx 30 ((x + mixC) % two64) * mixA % two64) * mixB % two64)
theorem two64_pos : 0 < two64 := by decide
theorem mixN_lt (x : Nat) : mixN x < two64 := shx_lt (Nat.mod_lt _ two64_pos)
theorem invA : mixA * 0x96DE1B173F119089 % two64 = 1 := by decide
theorem invB : mixB * 0x319642B2D24D8EC3 % two64 = 1 := by decide
theorem mixN_inj {x y : Nat} (hx : x < two64) (hy : y < two64) (h : mixN x = mixN y) : x = y := by
  unfold mixN at h
  have h1 := shx_inj (by omega) (Nat.mod_lt _ two64_pos) (Nat.mod_lt _ two64_pos) h
  have h2 := mul_inj invB (shx_lt (Nat.mod_lt _ two64_pos)) (shx_lt (Nat.mod_lt _ two64_pos)) h1
  have h3 := shx_inj (by omega) (Nat.mod_lt _ two64_pos) (Nat.mod_lt _ two64_pos) h2
  have h4 := mul_inj invA (shx_lt (Nat.mod_lt _ two64_pos)) (shx_lt (Nat.mod_lt _ two64_pos)) h3
  have h5 := shx_inj (by omega) (Nat.mod_lt _ two64_pos) (Nat.mod_lt _ two64_pos) h4
  unfold two64 mixC at *
  omega
/-- A number of int, without sign. -/
def unsN (n : Int) : Nat := (n % 18446744073709551616).toNat
theorem unsN_lt (n : Int) : unsN n < two64 := by unfold unsN two64; omega
theorem unsN_inj {n m : Int} (hn : -9223372036854775808 ≤ n ∧ n ≤ 9223372036854775807) (hm : -9223372036854775808 ≤ m ∧ m ≤ 9223372036854775807) (h : unsN n = unsN m) : n = m := by unfold unsN at h; omega
/-- P4.1's At. -/
def atN (seed : Nat) (self n : Int) : Nat := mixN ((mixN ((mixN seed + unsN self) % two64) + unsN n) % two64)
theorem add_inj {a x y : Nat} (hx : x < two64) (hy : y < two64) (h : (a + x) % two64 = (a + y) % two64) : x = y := by unfold two64 at *; omega
theorem atN_n {seed : Nat} {self n m : Int} (hn : -9223372036854775808 ≤ n ∧ n ≤ 9223372036854775807) (hm : -9223372036854775808 ≤ m ∧ m ≤ 9223372036854775807) : atN seed self n = atN seed self m ↔ n = m := by
  constructor
  · intro h
    exact unsN_inj hn hm (add_inj (unsN_lt _) (unsN_lt _) (mixN_inj (Nat.mod_lt _ two64_pos) (Nat.mod_lt _ two64_pos) h))
  · rintro rfl; rfl
theorem atN_self {seed : Nat} {a b n : Int} (ha : -9223372036854775808 ≤ a ∧ a ≤ 9223372036854775807) (hb : -9223372036854775808 ≤ b ∧ b ≤ 9223372036854775807) : atN seed a n = atN seed b n ↔ a = b := by
  constructor
  · intro h
    have h1 := mixN_inj (Nat.mod_lt _ two64_pos) (Nat.mod_lt _ two64_pos) h
    have h2 : mixN ((mixN seed + unsN a) % two64) = mixN ((mixN seed + unsN b) % two64) := by
      have l1 := mixN_lt ((mixN seed + unsN a) % two64)
      have l2 := mixN_lt ((mixN seed + unsN b) % two64)
      rw [Nat.add_comm _ (unsN n), Nat.add_comm _ (unsN n)] at h1
      exact add_inj l1 l2 h1
    exact unsN_inj ha hb (add_inj (unsN_lt _) (unsN_lt _) (mixN_inj (Nat.mod_lt _ two64_pos) (Nat.mod_lt _ two64_pos) h2))
  · rintro rfl; rfl
/-- The document's example. -/
theorem mixN_zero : mixN 0 = 0xE220A8397B1DCDAF := by decide

end Go.Proofs.YtofkfajcibdneaaDoor
