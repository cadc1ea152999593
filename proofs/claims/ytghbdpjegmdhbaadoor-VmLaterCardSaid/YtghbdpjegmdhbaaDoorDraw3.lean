/-
  At and Below, the program's and the document's own, and the law's test that the program computes.
-/
import Derived.Test.YtghbdpjegmdhbaaDoorDraw2
namespace Go.Proofs.YtghbdpjegmdhbaaDoor
open Go.ChangeShapes Go.WideShapes Go.ChangeAt Go.RowKit
set_option maxRecDepth 4000

theorem mix_at (x : Nat) (v : Int) (h : v = (x : Nat)) (hx : x < 18446744073709551616) (w : World) :
    Calls Tryd.prog 88 #[.int .u64 v] w fun e w' => e = .returned (.int .u64 (mixN x : Nat)) ∧ Below w.heap.size w w' := by
  rw [h]; exact mix_any x hx w
theorem rMix_at (x : Nat) (v : Int) (h : v = (x : Nat)) (w : World) :
    Calls Tryd.prog 82 #[.int .u64 v] w fun e w' => e = .returned (.int .u64 (mixN x : Nat)) ∧ w = w' := by
  rw [h]; exact rMix_any x w
theorem wrapU_uns (n : Int) : IntKind.u64.wrap n = ((unsN n : Nat) : Int) := by
  rw [IntKind.wrap_u64]; unfold unsN; omega
theorem wrapU_plus (a : Nat) (n : Int) : IntKind.u64.wrap ((a : Int) + IntKind.u64.wrap n) = (((a + unsN n) % two64 : Nat) : Int) := by
  rw [wrapU_uns n]; exact wrapU_add _ _
theorem at_any (seed : Nat) (hs : seed < 18446744073709551616) (self n : Int) (w : World) :
    Calls Tryd.prog 87 #[.int .u64 seed, .int .i64 self, .int .i64 n] w fun e w' => e = .returned (.int .u64 (atN seed self n : Nat)) ∧ Below w.heap.size w w' := by
  go_enter Tryd.func87, Tryd.ntmps87
  go_wp2_with fail
  refine (mix_any seed hs _).mono ?_
  rintro e w1 ⟨rfl, hb1⟩
  go_wp2_with fail
  refine (mix_at _ _ (wrapU_plus _ _) (Nat.mod_lt _ two64_pos) _).mono ?_
  rintro e w2 ⟨rfl, hb2⟩
  go_wp2_with fail
  refine (mix_at _ _ (wrapU_plus _ _) (Nat.mod_lt _ two64_pos) _).mono ?_
  rintro e w3 ⟨rfl, hb3⟩
  go_wp2_with fail
  go_ret
  exact ⟨rfl, (hb1.trans (hb2.mono hb1.size)).trans (hb3.mono (Nat.le_trans hb1.size hb2.size))⟩
theorem rAt_any (seed : Nat) (self n : Int) (w : World) :
    Calls Tryd.prog 65 #[.int .u64 seed, .int .i64 self, .int .i64 n] w fun e w' => e = .returned (.int .u64 (atN seed self n : Nat)) ∧ w = w' := by
  go_enter Tryd.func65, Tryd.ntmps65
  go_wp2_with fail
  refine (rMix_any seed _).mono ?_
  rintro e w1 ⟨rfl, rfl⟩
  go_wp2_with fail
  refine (rMix_at _ _ (wrapU_plus _ _) _).mono ?_
  rintro e w2 ⟨rfl, rfl⟩
  go_wp2_with fail
  refine (rMix_at _ _ (wrapU_plus _ _) _).mono ?_
  rintro e w3 ⟨rfl, rfl⟩
  go_wp2_with fail
  go_ret
  exact ⟨rfl, rfl⟩
theorem below_low (seed : Nat) (self n k : Int) (hk : k < 1) (w : World) :
    Calls Tryd.prog 81 #[.int .u64 seed, .int .i64 self, .int .i64 n, .int .i64 k] w fun e w' => e = .returned (.int .i64 0) ∧ w = w' := by
  go_enter Tryd.func81, Tryd.ntmps81
  go_wp2_with fail
  go_ret
  exact ⟨rfl, rfl⟩
theorem rBelow_low (seed : Nat) (self n k : Int) (hk : k < 1) (w : World) :
    Calls Tryd.prog 39 #[.int .u64 seed, .int .i64 self, .int .i64 n, .int .i64 k] w fun e w' => e = .returned (.int .i64 0) ∧ w = w' := by
  go_enter Tryd.func39, Tryd.ntmps39
  go_wp2_with fail
  go_ret
  exact ⟨rfl, rfl⟩
theorem wrap64_rest (a k : Nat) (h1 : 1 ≤ k) (h2 : k ≤ 9223372036854775807) : wrap64 ((a : Int) % (k : Int)) = ((a % k : Nat) : Int) := by
  have h := Nat.mod_lt a (show 0 < k by omega)
  rw [← Int.natCast_emod]
  generalize a % k = r at *
  unfold wrap64
  omega
theorem ret_i64 {a b : Int} (h : a = b) : Ending.returned (.int .i64 a) = .returned (.int .i64 b) := by rw [h]
theorem below_any (seed : Nat) (hs : seed < 18446744073709551616) (self n : Int) (k : Nat) (h1 : 1 ≤ k) (h2 : k ≤ 9223372036854775807) (w : World) :
    Calls Tryd.prog 81 #[.int .u64 seed, .int .i64 self, .int .i64 n, .int .i64 k] w fun e w' => e = .returned (.int .i64 (atN seed self n % k : Nat)) ∧ Below w.heap.size w w' := by
  have hk : ¬ (k : Int) < 1 := by omega
  have hk0 : ¬ (k : Int) = 0 := by omega
  go_enter Tryd.func81, Tryd.ntmps81
  go_wp2_with fail
  refine (at_any seed hs _ _ _).mono ?_
  rintro e w1 ⟨rfl, hb1⟩
  go_wp2_with fail
  go_ret
  exact ⟨ret_i64 (wrap64_rest _ _ h1 h2), hb1⟩
theorem rBelow_any (seed : Nat) (self n : Int) (k : Nat) (h1 : 1 ≤ k) (h2 : k ≤ 9223372036854775807) (w : World) :
    Calls Tryd.prog 39 #[.int .u64 seed, .int .i64 self, .int .i64 n, .int .i64 k] w fun e w' => e = .returned (.int .i64 (atN seed self n % k : Nat)) ∧ w = w' := by
  have hk : ¬ (k : Int) < 1 := by omega
  have hk0 : ¬ (k : Int) = 0 := by omega
  go_enter Tryd.func39, Tryd.ntmps39
  go_wp2_with fail
  refine (rAt_any seed _ _ _).mono ?_
  rintro e w1 ⟨rfl, rfl⟩
  go_wp2_with fail
  go_ret
  exact ⟨ret_i64 (wrap64_rest _ _ h1 h2), rfl⟩
end Go.Proofs.YtghbdpjegmdhbaaDoor
