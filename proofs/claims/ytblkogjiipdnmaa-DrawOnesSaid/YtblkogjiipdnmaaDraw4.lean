/-
  The laws of draw, walked.
-/
import Derived.Test.YtblkogjiipdnmaaDraw3
namespace Go.Proofs.Ytblkogjiipdnmaa
open Go.ChangeShapes Go.WideShapes Go.ChangeAt Go.RowKit
set_option maxRecDepth 4000
set_option linter.unusedVariables false

theorem wf_u64 {a : Int} (h : (Lit.int .u64 a).wf = true) : ∃ n : Nat, a = n ∧ n < 18446744073709551616 := by
  simp [Lit.wf, IntKind.min, IntKind.max, IntKind.signed, IntKind.bits] at h
  exact ⟨a.toNat, by omega, by omega⟩
theorem wf_u16 {a : Int} (h : (Lit.int .u16 a).wf = true) : ∃ n : Nat, a = n ∧ n < 65536 := by
  simp [Lit.wf, IntKind.min, IntKind.max, IntKind.signed, IntKind.bits] at h
  exact ⟨a.toNat, by omega, by omega⟩
theorem wf_i64 {a : Int} (h : (Lit.int .i64 a).wf = true) : -9223372036854775808 ≤ a ∧ a ≤ 9223372036854775807 := by
  simp [Lit.wf, IntKind.min, IntKind.max, IntKind.signed, IntKind.bits] at h
  omega
/-- Below, whatever the bound: 0, or a number below it. -/
theorem below_all (seed : Nat) (hs : seed < 18446744073709551616) (self n k : Int) (hk : k ≤ 9223372036854775807) (w : World) :
    Calls Try.prog 15 #[.int .u64 seed, .int .i64 self, .int .i64 n, .int .i64 k] w fun e w' => e = .returned (.int .i64 (if k < 1 then 0 else atN seed self n % k.toNat : Nat)) ∧ Below w.heap.size w w' := by
  by_cases h : k < 1
  · rw [if_pos h]
    exact (below_low seed self n k h w).mono fun e w' ⟨he, hw⟩ => ⟨he, hw ▸ Below.refl _ _⟩
  · rw [if_neg h]
    obtain ⟨j, rfl⟩ := Int.eq_ofNat_of_zero_le (show 0 ≤ k by omega)
    exact below_any seed hs self n j (by omega) (by omega) w
theorem rBelow_all (seed : Nat) (self n k : Int) (hk : k ≤ 9223372036854775807) (w : World) :
    Calls Try.prog 16 #[.int .u64 seed, .int .i64 self, .int .i64 n, .int .i64 k] w fun e w' => e = .returned (.int .i64 (if k < 1 then 0 else atN seed self n % k.toNat : Nat)) ∧ w = w' := by
  by_cases h : k < 1
  · rw [if_pos h]
    exact rBelow_low seed self n k h w
  · rw [if_neg h]
    obtain ⟨j, rfl⟩ := Int.eq_ofNat_of_zero_le (show 0 ≤ k by omega)
    exact rBelow_any seed self n j (by omega) (by omega) w
theorem lawDrawMixes (a0 : Int) (w0 : (Lit.int .u64 a0).wf = true) (w : World) :
    Calls Try.prog 3 #[.int .u64 a0] w fun e w' => e = .returned (.bool true) ∧ Below w.heap.size w w' := by
  obtain ⟨x, rfl, hx⟩ := wf_u64 w0
  go_enter Try.func3, Try.ntmps3
  go_wp2_with fail
  refine (mix_any x hx _).mono ?_
  rintro e w1 ⟨rfl, hb1⟩
  go_wp2_with fail
  refine (rMix_any x _).mono ?_
  rintro e w2 ⟨rfl, rfl⟩
  go_wp2_with fail
  refine (awake_any _).mono ?_
  rintro e w3 ⟨rfl, hb3⟩
  go_wp2_with fail
  go_ret
  exact ⟨rfl, hb1.trans (hb3.mono hb1.size)⟩
theorem lawDrawAt (a0 : Int) (w0 : (Lit.int .u64 a0).wf = true) (a1 : Int) (w1 : (Lit.int .i64 a1).wf = true) (a2 : Int) (w2 : (Lit.int .i64 a2).wf = true) (w : World) :
    Calls Try.prog 4 #[.int .u64 a0, .int .i64 a1, .int .i64 a2] w fun e w' => e = .returned (.bool true) ∧ Below w.heap.size w w' := by
  obtain ⟨x, rfl, hx⟩ := wf_u64 w0
  go_enter Try.func4, Try.ntmps4
  go_wp2_with fail
  refine (at_any x hx _ _ _).mono ?_
  rintro e w1 ⟨rfl, hb1⟩
  go_wp2_with fail
  refine (rAt_any x _ _ _).mono ?_
  rintro e w2 ⟨rfl, rfl⟩
  go_wp2_with fail
  refine (awake_any _).mono ?_
  rintro e w3 ⟨rfl, hb3⟩
  go_wp2_with fail
  go_ret
  exact ⟨rfl, hb1.trans (hb3.mono hb1.size)⟩
theorem lawDrawBelow (a0 : Int) (w0 : (Lit.int .u64 a0).wf = true) (a1 : Int) (w1 : (Lit.int .i64 a1).wf = true) (a2 : Int) (w2 : (Lit.int .i64 a2).wf = true) (a3 : Int) (w3 : (Lit.int .i64 a3).wf = true) (w : World) :
    Calls Try.prog 5 #[.int .u64 a0, .int .i64 a1, .int .i64 a2, .int .i64 a3] w fun e w' => e = .returned (.bool true) ∧ Below w.heap.size w w' := by
  obtain ⟨x, rfl, hx⟩ := wf_u64 w0
  have hk := (wf_i64 w3).2
  clear w0 w1 w2 w3
  go_enter Try.func5, Try.ntmps5
  go_wp2_with fail
  refine (below_all x hx _ _ _ hk _).mono ?_
  rintro e w1 ⟨rfl, hb1⟩
  generalize hr : (if a3 < 1 then 0 else atN x a1 a2 % a3.toNat) = r
  have hr' := Lib.hid hr
  clear hr
  go_wp2_with fail
  refine (rBelow_all x _ _ _ hk _).mono ?_
  rintro e w2 ⟨rfl, rfl⟩
  rw [hr'.out]
  go_wp2_with fail
  refine (awake_any _).mono ?_
  rintro e w3 ⟨rfl, hb3⟩
  go_wp2_with fail
  go_ret
  exact ⟨rfl, hb1.trans (hb3.mono hb1.size)⟩
theorem rest_bound (k : Int) (A : Nat) : ∃ r : Nat, (if k < 1 then 0 else A % k.toNat) = r ∧ (k < 1 ∧ r = 0 ∨ 1 ≤ k ∧ (r : Int) < k) := by
  refine ⟨_, rfl, ?_⟩
  by_cases h : k < 1
  · rw [if_pos h]; exact .inl ⟨h, rfl⟩
  · rw [if_neg h]
    have := Nat.mod_lt A (show 0 < k.toNat by omega)
    exact .inr ⟨by omega, by omega⟩
theorem lawDrawBound (a0 : Int) (w0 : (Lit.int .u64 a0).wf = true) (a1 : Int) (w1 : (Lit.int .i64 a1).wf = true) (a2 : Int) (w2 : (Lit.int .i64 a2).wf = true) (a3 : Int) (w3 : (Lit.int .i64 a3).wf = true) (w : World) :
    Calls Try.prog 6 #[.int .u64 a0, .int .i64 a1, .int .i64 a2, .int .i64 a3] w fun e w' => e = .returned (.bool true) ∧ Below w.heap.size w w' := by
  obtain ⟨x, rfl, hx⟩ := wf_u64 w0
  have hk := (wf_i64 w3).2
  clear w0 w1 w2 w3
  have hbe := below_all x hx a1 a2 a3 hk
  obtain ⟨r, hr, h⟩ := rest_bound a3 (atN x a1 a2)
  rw [hr] at hbe
  clear hr
  rcases h with ⟨h1, rfl⟩ | ⟨h1, h2⟩
  · have h1' : ¬ 1 ≤ a3 := by omega
    go_enter Try.func6, Try.ntmps6
    go_wp2_with fail
    refine (hbe _).mono ?_
    rintro e w1 ⟨rfl, hb1⟩
    clear hbe
    go_wp2_with fail
    refine (awake_any _).mono ?_
    rintro e w3 ⟨rfl, hb3⟩
    go_wp2_with fail
    go_ret
    exact ⟨rfl, hb1.trans (hb3.mono hb1.size)⟩
  · have h1' : ¬ a3 < 1 := by omega
    have h0 : (0 : Int) ≤ (r : Int) := by omega
    go_enter Try.func6, Try.ntmps6
    go_wp2_with fail
    refine (hbe _).mono ?_
    rintro e w1 ⟨rfl, hb1⟩
    clear hbe
    go_wp2_with fail
    refine (awake_any _).mono ?_
    rintro e w3 ⟨rfl, hb3⟩
    go_wp2_with fail
    go_ret
    exact ⟨rfl, hb1.trans (hb3.mono hb1.size)⟩
theorem eq_cast {p q : Nat} (h : p ≠ q) : (((p : Int) == (q : Int)) = false) ∧ decide ((p : Int) = (q : Int)) = false ∧ decide (p = q) = false ∧ (p == q) = false := by
  refine ⟨?_, ?_, ?_, ?_⟩ <;> simp <;> omega
theorem lawDrawApart (a0 : Int) (w0 : (Lit.int .u64 a0).wf = true) (a1 : Int) (w1 : (Lit.int .u64 a1).wf = true) (w : World) :
    Calls Try.prog 7 #[.int .u64 a0, .int .u64 a1] w fun e w' => e = .returned (.bool true) ∧ Below w.heap.size w w' := by
  obtain ⟨x, rfl, hx⟩ := wf_u64 w0
  obtain ⟨y, rfl, hy⟩ := wf_u64 w1
  clear w0 w1
  have mx := mix_any x hx
  have my := mix_any y hy
  by_cases hxy : x = y
  · subst hxy
    clear my
    generalize mixN x = p at mx
    go_enter Try.func7, Try.ntmps7
    go_wp2_with fail
    refine (mx _).mono ?_
    rintro e w1 ⟨rfl, hb1⟩
    go_wp2_with fail
    refine (mx _).mono ?_
    rintro e w2 ⟨rfl, hb2⟩
    clear mx
    go_wp2_with fail
    refine (awake_any _).mono ?_
    rintro e w3 ⟨rfl, hb3⟩
    go_wp2_with fail
    go_ret
    exact ⟨rfl, (hb1.trans (hb2.mono hb1.size)).trans (hb3.mono (Nat.le_trans hb1.size hb2.size))⟩
  · have hm : mixN x ≠ mixN y := fun h => hxy (mixN_inj hx hy h)
    generalize mixN x = p at mx hm
    generalize mixN y = q at my hm
    have e1 := (eq_cast hxy).1
    have e2 := (eq_cast hm).1
    clear hxy hm
    go_enter Try.func7, Try.ntmps7
    go_wp2_with fail
    refine (mx _).mono ?_
    rintro e w1 ⟨rfl, hb1⟩
    go_wp2_with fail
    refine (my _).mono ?_
    rintro e w2 ⟨rfl, hb2⟩
    clear mx my
    go_wp2_with fail
    refine (awake_any _).mono ?_
    rintro e w3 ⟨rfl, hb3⟩
    go_wp2_with fail
    go_ret
    exact ⟨rfl, (hb1.trans (hb2.mono hb1.size)).trans (hb3.mono (Nat.le_trans hb1.size hb2.size))⟩
theorem eq_ints {a b : Int} (h : ¬ a = b) : (a == b) = false := by simpa using h
/-- The law of counting, where two draws are the same just where the numbers are. -/
theorem counts (A B C : Nat) (x : Nat) (a b n m : Int) (ha : ∀ w, Calls Try.prog 13 #[.int .u64 x, .int .i64 a, .int .i64 n] w fun e w' => e = .returned (.int .u64 (A : Nat)) ∧ Below w.heap.size w w')
    (hbm : ∀ w, Calls Try.prog 13 #[.int .u64 x, .int .i64 a, .int .i64 m] w fun e w' => e = .returned (.int .u64 (B : Nat)) ∧ Below w.heap.size w w')
    (hc : ∀ w, Calls Try.prog 13 #[.int .u64 x, .int .i64 b, .int .i64 n] w fun e w' => e = .returned (.int .u64 (C : Nat)) ∧ Below w.heap.size w w')
    (h1 : (((A : Int) == (B : Int)) == (n == m)) = true) (h2 : (((A : Int) == (C : Int)) == (a == b)) = true) (w : World) :
    Calls Try.prog 8 #[.int .u64 x, .int .i64 a, .int .i64 b, .int .i64 n, .int .i64 m] w fun e w' => e = .returned (.bool true) ∧ Below w.heap.size w w' := by
  go_enter Try.func8, Try.ntmps8
  go_wp2_with fail
  refine (ha _).mono ?_
  rintro e w1 ⟨rfl, hb1⟩
  go_wp2_with fail
  refine (hbm _).mono ?_
  rintro e w2 ⟨rfl, hb2⟩
  go_wp2_with fail
  refine (ha _).mono ?_
  rintro e w3 ⟨rfl, hb3⟩
  go_wp2_with fail
  refine (hc _).mono ?_
  rintro e w4 ⟨rfl, hb4⟩
  clear ha hbm hc
  go_wp2_with fail
  refine (awake_any _).mono ?_
  rintro e w5 ⟨rfl, hb5⟩
  go_wp2_with fail
  go_ret
  have s2 := Nat.le_trans hb1.size hb2.size
  have s3 := Nat.le_trans s2 hb3.size
  have s4 := Nat.le_trans s3 hb4.size
  exact ⟨rfl, (((hb1.trans (hb2.mono hb1.size)).trans (hb3.mono s2)).trans (hb4.mono s3)).trans (hb5.mono s4)⟩
theorem same_iff {p q : Nat} {a b : Int} (h : p = q ↔ a = b) : (((p : Int) == (q : Int)) == (a == b)) = true := by
  by_cases e : a = b
  · have := h.2 e
    subst e; subst this; simp
  · have h1 : ¬ p = q := fun x => e (h.1 x)
    rw [(eq_cast h1).1, eq_ints e]
    rfl
theorem lawDrawCounts (a0 : Int) (w0 : (Lit.int .u64 a0).wf = true) (a1 : Int) (w1 : (Lit.int .i64 a1).wf = true) (a2 : Int) (w2 : (Lit.int .i64 a2).wf = true) (a3 : Int) (w3 : (Lit.int .i64 a3).wf = true) (a4 : Int) (w4 : (Lit.int .i64 a4).wf = true) (w : World) :
    Calls Try.prog 8 #[.int .u64 a0, .int .i64 a1, .int .i64 a2, .int .i64 a3, .int .i64 a4] w fun e w' => e = .returned (.bool true) ∧ Below w.heap.size w w' := by
  obtain ⟨x, rfl, hx⟩ := wf_u64 w0
  exact counts _ _ _ x a1 a2 a3 a4 (at_any x hx a1 a3) (at_any x hx a1 a4) (at_any x hx a2 a3) (same_iff (atN_n (wf_i64 w3) (wf_i64 w4))) (same_iff (atN_self (wf_i64 w1) (wf_i64 w2))) w
theorem lawDrawOnes (a0 : Int) (w0 : (Lit.int .u64 a0).wf = true) (a1 : Int) (w1 : (Lit.int .i64 a1).wf = true) (a2 : Int) (w2 : (Lit.int .i64 a2).wf = true) (a3 : Int) (w3 : (Lit.int .u16 a3).wf = true) (w : World) :
    Calls Try.prog 9 #[.int .u64 a0, .int .i64 a1, .int .i64 a2, .int .u16 a3] w fun e w' => e = .returned (.bool true) ∧ Below w.heap.size w w' := by
  obtain ⟨x, rfl, hx⟩ := wf_u64 w0
  obtain ⟨k, rfl, hk⟩ := wf_u16 w3
  clear w0 w1 w2 w3
  have b1 := below_any x hx a1 a2 1 (by decide) (by decide)
  rw [Nat.mod_one] at b1
  have b2 : ∀ w, Calls Try.prog 15 #[.int .u64 x, .int .i64 a1, .int .i64 a2, .int .i64 ((k : Int) + 1)] w fun e w' => e = .returned (.int .i64 (atN x a1 a2 % (k + 1) : Nat)) ∧ Below w.heap.size w w' := below_any x hx a1 a2 (k + 1) (by omega) (by omega)
  have ha := at_any x hx a1 a2
  have hr := Nat.mod_lt (atN x a1 a2) (show 0 < k + 1 by omega)
  have he : (((atN x a1 a2 % (k + 1) : Nat) : Int) == (atN x a1 a2 : Int) % ((k : Int) + 1)) = true := by simp
  generalize atN x a1 a2 = A at *
  generalize A % (k + 1) = r at *
  go_enter Try.func9, Try.ntmps9
  go_wp2_with fail
  refine (b1 _).mono ?_
  rintro e w1 ⟨rfl, hb1⟩
  clear b1
  go_wp2_with fail
  refine (b2 _).mono ?_
  rintro e w2 ⟨rfl, hb2⟩
  clear b2
  go_wp2_with fail
  refine (ha _).mono ?_
  rintro e w3 ⟨rfl, hb3⟩
  clear ha
  go_wp2_with fail
  refine (awake_any _).mono ?_
  rintro e w4 ⟨rfl, hb4⟩
  go_wp2_with fail
  go_ret
  have s2 := Nat.le_trans hb1.size hb2.size
  have s3 := Nat.le_trans s2 hb3.size
  exact ⟨rfl, ((hb1.trans (hb2.mono hb1.size)).trans (hb3.mono s2)).trans (hb4.mono s3)⟩
end Go.Proofs.Ytblkogjiipdnmaa
