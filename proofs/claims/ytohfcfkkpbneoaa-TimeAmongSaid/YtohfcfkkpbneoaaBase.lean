/-
  The contracts of the functions of package vtime, of the document's own answers for it, and of the law's own test that the program computes, each for every integer that fits an int64.
-/
import Derived.Test.YtohfcfkkpbneoaaRows
import Derived.WalkKit
import Derived.ProofKit
import Derived.OpenShut
import Derived.WalkLawsBesides
import Derived.Outline
namespace Go.Proofs.Ytohfcfkkpbneoaa
open Go.ChangeShapes Go.WideShapes Go.ChangeAt Go.RowKit

theorem ret_int {k : IntKind} {a b : Int} (h : a = b) : Ending.returned (.int k a) = .returned (.int k b) := by rw [h]
theorem valid_yes (t : Int) (w : World) (h0 : 0 ≤ t) (h1 : t ≤ 4611686018427387903) :
    Calls Try.prog 14 #[.int .i64 t] w fun e w' => e = .returned (.bool true) ∧ w = w' := by
  go_enter Try.func14, Try.ntmps14
  go_wp2
  go_ret
  exact ⟨rfl, rfl⟩
theorem valid_no (t : Int) (w : World) (h : t < 0 ∨ 4611686018427387903 < t) :
    Calls Try.prog 14 #[.int .i64 t] w fun e w' => e = .returned (.bool false) ∧ w = w' := by
  rcases h with h | h
  · have h1 : ¬ 0 ≤ t := by omega
    go_enter Try.func14, Try.ntmps14
    go_wp2
    go_ret
    exact ⟨rfl, rfl⟩
  · have h0 : 0 ≤ t := by omega
    have h1 : ¬ t ≤ 4611686018427387903 := by omega
    go_enter Try.func14, Try.ntmps14
    go_wp2
    go_ret
    exact ⟨rfl, rfl⟩

theorem add_arg (t d : Int) (w : World) (h : (t < 0 ∨ 4611686018427387903 < t) ∨ d < 0) :
    Calls Try.prog 12 #[.int .i64 t, .int .i64 d] w fun e w' => e = .returned (.tuple #[.int .i64 0, .int .i64 1]) ∧ w = w' := by
  by_cases hv : t < 0 ∨ 4611686018427387903 < t
  · go_enter Try.func12, Try.ntmps12
    go_wp2_with (go_at_call 14; refine (valid_no _ _ hv).mono ?_; rintro e w' ⟨rfl, rfl⟩)
    go_ret2
    exact ⟨rfl, rfl⟩
  · have hd : d < 0 := by omega
    have h0 : 0 ≤ t := by omega
    have h1 : t ≤ 4611686018427387903 := by omega
    clear hv h
    go_enter Try.func12, Try.ntmps12
    go_wp2_with (go_at_call 14; refine (valid_yes _ _ h0 h1).mono ?_; rintro e w' ⟨rfl, rfl⟩)
    go_ret2
    exact ⟨rfl, rfl⟩

theorem add_time (t d : Int) (w : World) (h0 : 0 ≤ t) (h1 : t ≤ 4611686018427387903) (hd : 4611686018427387903 < t + d) :
    Calls Try.prog 12 #[.int .i64 t, .int .i64 d] w fun e w' => e = .returned (.tuple #[.int .i64 0, .int .i64 10]) ∧ w = w' := by
  have hd0 : ¬ d < 0 := by omega
  have hd1 : 4611686018427387903 - t < d := by omega
  go_enter Try.func12, Try.ntmps12
  go_wp2_with (go_at_call 14; refine (valid_yes _ _ h0 h1).mono ?_; rintro e w' ⟨rfl, rfl⟩)
  go_ret2
  exact ⟨rfl, rfl⟩
theorem add_ok (t d : Int) (w : World) (h0 : 0 ≤ t) (h1 : t ≤ 4611686018427387903) (hd0 : 0 ≤ d) (hd : t + d ≤ 4611686018427387903) :
    Calls Try.prog 12 #[.int .i64 t, .int .i64 d] w fun e w' => e = .returned (.tuple #[.int .i64 (t + d), .int .i64 0]) ∧ w = w' := by
  have hd2 : ¬ d < 0 := by omega
  have hd1 : ¬ 4611686018427387903 - t < d := by omega
  go_enter Try.func12, Try.ntmps12
  go_wp2_with (go_at_call 14; refine (valid_yes _ _ h0 h1).mono ?_; rintro e w' ⟨rfl, rfl⟩)
  go_ret2
  exact ⟨rfl, rfl⟩
theorem awake_any (w : World) : Calls Try.prog 16 #[] w fun e w' => e = .returned (.bool true) ∧ w = w' := by
  go_enter Try.func16, Try.ntmps16
  go_wp2_with (go_at_call 12; refine (add_ok 5 3 _ (by omega) (by omega) (by omega) (by omega)).mono ?_; rintro e w' ⟨rfl, rfl⟩)
  go_ret
  exact ⟨rfl, rfl⟩

/-- The sum that is held between 0 and Never. -/
def reachV (t d : Int) : Int := if 4611686018427387904 < (if t < 0 then 0 else t) + (if d < 0 then 0 else d) then 4611686018427387904 else (if t < 0 then 0 else t) + (if d < 0 then 0 else d)
theorem reach_any (t d : Int) (w : World) (ht : (Lit.int .i64 t).wf = true) (hd : (Lit.int .i64 d).wf = true) :
    Calls Try.prog 17 #[.int .i64 t, .int .i64 d] w fun e w' => e = .returned (.int .i64 (reachV t d)) ∧ w = w' := by
  have bt := bounds_i64 ht
  have bd := bounds_i64 hd
  clear ht hd
  obtain ⟨bt1, bt2⟩ := bt
  obtain ⟨bd1, bd2⟩ := bd
  go_enter Try.func17, Try.ntmps17
  go_wp2
  all_goals
    go_ret
    refine ⟨ret_int ?_, rfl⟩
    unfold reachV
    omega
theorem refvalid_yes (t : Int) (w : World) (h0 : 0 ≤ t) (h1 : t ≤ 4611686018427387903) :
    Calls Try.prog 15 #[.int .i64 t] w fun e w' => e = .returned (.bool true) ∧ w = w' := by
  go_enter Try.func15, Try.ntmps15
  go_wp2
  go_ret
  exact ⟨rfl, rfl⟩
theorem refvalid_no (t : Int) (w : World) (h : t < 0 ∨ 4611686018427387903 < t) :
    Calls Try.prog 15 #[.int .i64 t] w fun e w' => e = .returned (.bool false) ∧ w = w' := by
  rcases h with h | h
  · have h1 : ¬ 0 ≤ t := by omega
    go_enter Try.func15, Try.ntmps15
    go_wp2
    go_ret
    exact ⟨rfl, rfl⟩
  · have h0 : 0 ≤ t := by omega
    have h1 : ¬ t ≤ 4611686018427387903 := by omega
    go_enter Try.func15, Try.ntmps15
    go_wp2
    go_ret
    exact ⟨rfl, rfl⟩
theorem refadd_arg (t d : Int) (w : World) (h : (t < 0 ∨ 4611686018427387903 < t) ∨ d < 0) :
    Calls Try.prog 13 #[.int .i64 t, .int .i64 d] w fun e w' => e = .returned (.tuple #[.int .i64 0, .int .i64 1]) ∧ w = w' := by
  by_cases hv : t < 0 ∨ 4611686018427387903 < t
  · go_enter Try.func13, Try.ntmps13
    go_wp2_with (go_at_call 15; refine (refvalid_no _ _ hv).mono ?_; rintro e w' ⟨rfl, rfl⟩)
    go_ret2
    exact ⟨rfl, rfl⟩
  · have hd : d < 0 := by omega
    have h0 : 0 ≤ t := by omega
    have h1 : t ≤ 4611686018427387903 := by omega
    clear hv h
    go_enter Try.func13, Try.ntmps13
    go_wp2_with (go_at_call 15; refine (refvalid_yes _ _ h0 h1).mono ?_; rintro e w' ⟨rfl, rfl⟩)
    go_ret2
    exact ⟨rfl, rfl⟩
theorem refadd_time (t d : Int) (w : World) (h0 : 0 ≤ t) (h1 : t ≤ 4611686018427387903) (hd : 4611686018427387903 < t + d) :
    Calls Try.prog 13 #[.int .i64 t, .int .i64 d] w fun e w' => e = .returned (.tuple #[.int .i64 0, .int .i64 10]) ∧ w = w' := by
  have hd0 : ¬ d < 0 := by omega
  have hd1 : 4611686018427387903 - t < d := by omega
  go_enter Try.func13, Try.ntmps13
  go_wp2_with (go_at_call 15; refine (refvalid_yes _ _ h0 h1).mono ?_; rintro e w' ⟨rfl, rfl⟩)
  go_ret2
  exact ⟨rfl, rfl⟩
theorem refadd_ok (t d : Int) (w : World) (h0 : 0 ≤ t) (h1 : t ≤ 4611686018427387903) (hd0 : 0 ≤ d) (hd : t + d ≤ 4611686018427387903) :
    Calls Try.prog 13 #[.int .i64 t, .int .i64 d] w fun e w' => e = .returned (.tuple #[.int .i64 (t + d), .int .i64 0]) ∧ w = w' := by
  have hd2 : ¬ d < 0 := by omega
  have hd1 : ¬ 4611686018427387903 - t < d := by omega
  go_enter Try.func13, Try.ntmps13
  go_wp2_with (go_at_call 15; refine (refvalid_yes _ _ h0 h1).mono ?_; rintro e w' ⟨rfl, rfl⟩)
  go_ret2
  exact ⟨rfl, rfl⟩
theorem refreach_any (t d : Int) (w : World) (ht : (Lit.int .i64 t).wf = true) (hd : (Lit.int .i64 d).wf = true) :
    Calls Try.prog 18 #[.int .i64 t, .int .i64 d] w fun e w' => e = .returned (.int .i64 (reachV t d)) ∧ w = w' := by
  obtain ⟨bt1, bt2⟩ := bounds_i64 ht
  obtain ⟨bd1, bd2⟩ := bounds_i64 hd
  clear ht hd
  go_enter Try.func18, Try.ntmps18
  go_wp2
  all_goals
    go_ret
    refine ⟨ret_int ?_, rfl⟩
    unfold reachV
    omega
theorem steps_arg (a b c : Int) (w : World) (h : c < 1 ∨ (a < 0 ∨ 4611686018427387903 < a) ∨ (b < 0 ∨ 4611686018427387903 < b) ∨ b < a) :
    Calls Try.prog 21 #[.int .i64 a, .int .i64 b, .int .i64 c] w fun e w' => e = .returned (.tuple #[.int .i64 0, .int .i64 1]) ∧ w = w' := by
  by_cases hc : c < 1
  · go_enter Try.func21, Try.ntmps21
    go_wp2_with fail
    go_ret2
    exact ⟨rfl, rfl⟩
  · by_cases ha : a < 0 ∨ 4611686018427387903 < a
    · go_enter Try.func21, Try.ntmps21
      go_wp2_with (go_at_call 14; refine (valid_no _ _ ha).mono ?_; rintro e w' ⟨rfl, rfl⟩)
      go_ret2
      exact ⟨rfl, rfl⟩
    · have a0 : 0 ≤ a := by omega
      have a1 : a ≤ 4611686018427387903 := by omega
      by_cases hb : b < 0 ∨ 4611686018427387903 < b
      · clear ha h
        go_enter Try.func21, Try.ntmps21
        go_wp2_with fail
        refine (valid_yes _ _ a0 a1).mono ?_
        rintro e w' ⟨rfl, rfl⟩
        go_wp2_with fail
        refine (valid_no _ _ hb).mono ?_
        rintro e w' ⟨rfl, rfl⟩
        go_wp2_with fail
        go_ret2
        exact ⟨rfl, rfl⟩
      · have b0 : 0 ≤ b := by omega
        have b1 : b ≤ 4611686018427387903 := by omega
        have hba : b < a := by omega
        clear ha hb h
        go_enter Try.func21, Try.ntmps21
        go_wp2_with fail
        refine (valid_yes _ _ a0 a1).mono ?_
        rintro e w' ⟨rfl, rfl⟩
        go_wp2_with fail
        refine (valid_yes _ _ b0 b1).mono ?_
        rintro e w' ⟨rfl, rfl⟩
        go_wp2_with fail
        go_ret2
        exact ⟨rfl, rfl⟩
theorem steps_ok (a b c : Int) (w : World) (hc : 1 ≤ c) (a0 : 0 ≤ a) (b1 : b ≤ 4611686018427387903) (hab : a ≤ b) :
    Calls Try.prog 21 #[.int .i64 a, .int .i64 b, .int .i64 c] w fun e w' => e = .returned (.tuple #[.int .i64 ((b - a) / c), .int .i64 0]) ∧ w = w' := by
  have a1 : a ≤ 4611686018427387903 := by omega
  have b0 : 0 ≤ b := by omega
  have hc' : ¬ c < 1 := by omega
  have hab' : ¬ b < a := by omega
  have c0 : (c == 0) = false := by simp; omega
  go_enter Try.func21, Try.ntmps21
  go_wp2_with fail
  refine (valid_yes _ _ a0 a1).mono ?_
  rintro e w' ⟨rfl, rfl⟩
  go_wp2_with fail
  refine (valid_yes _ _ b0 b1).mono ?_
  rintro e w' ⟨rfl, rfl⟩
  go_wp2_with fail
  go_ret2
  exact ⟨rfl, rfl⟩
theorem refsteps_arg (a b c : Int) (w : World) (h : c < 1 ∨ (a < 0 ∨ 4611686018427387903 < a) ∨ (b < 0 ∨ 4611686018427387903 < b) ∨ b < a) :
    Calls Try.prog 22 #[.int .i64 a, .int .i64 b, .int .i64 c] w fun e w' => e = .returned (.tuple #[.int .i64 0, .int .i64 1]) ∧ w = w' := by
  by_cases hc : c < 1
  · go_enter Try.func22, Try.ntmps22
    go_wp2_with fail
    go_ret2
    exact ⟨rfl, rfl⟩
  · by_cases ha : a < 0 ∨ 4611686018427387903 < a
    · go_enter Try.func22, Try.ntmps22
      go_wp2_with (go_at_call 15; refine (refvalid_no _ _ ha).mono ?_; rintro e w' ⟨rfl, rfl⟩)
      go_ret2
      exact ⟨rfl, rfl⟩
    · have a0 : 0 ≤ a := by omega
      have a1 : a ≤ 4611686018427387903 := by omega
      by_cases hb : b < 0 ∨ 4611686018427387903 < b
      · clear ha h
        go_enter Try.func22, Try.ntmps22
        go_wp2_with fail
        refine (refvalid_yes _ _ a0 a1).mono ?_
        rintro e w' ⟨rfl, rfl⟩
        go_wp2_with fail
        refine (refvalid_no _ _ hb).mono ?_
        rintro e w' ⟨rfl, rfl⟩
        go_wp2_with fail
        go_ret2
        exact ⟨rfl, rfl⟩
      · have b0 : 0 ≤ b := by omega
        have b1 : b ≤ 4611686018427387903 := by omega
        have hba : b < a := by omega
        clear ha hb h
        go_enter Try.func22, Try.ntmps22
        go_wp2_with fail
        refine (refvalid_yes _ _ a0 a1).mono ?_
        rintro e w' ⟨rfl, rfl⟩
        go_wp2_with fail
        refine (refvalid_yes _ _ b0 b1).mono ?_
        rintro e w' ⟨rfl, rfl⟩
        go_wp2_with fail
        go_ret2
        exact ⟨rfl, rfl⟩
theorem refsteps_ok (a b c : Int) (w : World) (hc : 1 ≤ c) (a0 : 0 ≤ a) (b1 : b ≤ 4611686018427387903) (hab : a ≤ b) :
    Calls Try.prog 22 #[.int .i64 a, .int .i64 b, .int .i64 c] w fun e w' => e = .returned (.tuple #[.int .i64 ((b - a) / c), .int .i64 0]) ∧ w = w' := by
  have a1 : a ≤ 4611686018427387903 := by omega
  have b0 : 0 ≤ b := by omega
  have hc' : ¬ c < 1 := by omega
  have hab' : ¬ b < a := by omega
  have c0 : (c == 0) = false := by simp; omega
  go_enter Try.func22, Try.ntmps22
  go_wp2_with fail
  refine (refvalid_yes _ _ a0 a1).mono ?_
  rintro e w' ⟨rfl, rfl⟩
  go_wp2_with fail
  refine (refvalid_yes _ _ b0 b1).mono ?_
  rintro e w' ⟨rfl, rfl⟩
  go_wp2_with fail
  go_ret2
  exact ⟨rfl, rfl⟩
end Go.Proofs.Ytohfcfkkpbneoaa
