
/-
  The contract of the document's own 'may', at every instruction.
-/
import Derived.Test.YtofkfajcibdneaaDoorCode4
namespace Go.Proofs.YtofkfajcibdneaaDoor
open Go.ChangeShapes Go.WideShapes Go.ChangeAt Go.RowKit Go.Sort
theorem restI_0 (a b c : Int) : restI ⟨0, a, b, c⟩ = (!(a != 0) && (!(b != 0) && !(c != 0))) := rfl


theorem may_0 (a b c n : Int) (w : World) : Calls Tryd.prog 39 #[.agg #[.int .i64 0, .int .i64 a, .int .i64 b, .int .i64 c], .int .i64 n] w fun e w' => e = .returned (.bool (mayB ⟨0, a, b, c⟩ n)) ∧ Read w w' := by
  have hm : mayB ⟨0, a, b, c⟩ n = (restI ⟨0, a, b, c⟩ && fieldsB ⟨0, a, b, c⟩ n) := rfl
  simp [restI, usedOf, restB, fieldsB] at hm
  by_cases h0 : a = 0
  rotate_left
  · have g0 : (a == 0) = false := by simpa using h0
    have hm : mayB ⟨0, a, b, c⟩ n = false := by rw [hm]; simp [*]
    rw [hm]
    clear hm
    go_enter Tryd.func39, Tryd.ntmps39
    go_wp2_with (go_at_call 53; refine (reg_any _ _).mono ?_; rintro e w' ⟨rfl, rfl⟩)
    go_ret
    exact ⟨rfl, Read.mk _ _⟩
  · subst h0
    have gg0 : True := trivial
    by_cases h1 : b = 0
    rotate_left
    · have g1 : (b == 0) = false := by simpa using h1
      have hm : mayB ⟨0, 0, b, c⟩ n = false := by rw [hm]; simp [*]
      rw [hm]
      clear hm
      go_enter Tryd.func39, Tryd.ntmps39
      go_wp2_with (go_at_call 53; refine (reg_any _ _).mono ?_; rintro e w' ⟨rfl, rfl⟩)
      go_ret
      exact ⟨rfl, Read.mk _ _⟩
    · subst h1
      have gg1 : True := trivial
      by_cases h2 : c = 0
      rotate_left
      · have g2 : (c == 0) = false := by simpa using h2
        have hm : mayB ⟨0, 0, 0, c⟩ n = false := by rw [hm]; simp [*]
        rw [hm]
        clear hm
        go_enter Tryd.func39, Tryd.ntmps39
        go_wp2_with (go_at_call 53; refine (reg_any _ _).mono ?_; rintro e w' ⟨rfl, rfl⟩)
        go_ret
        exact ⟨rfl, Read.mk _ _⟩
      · subst h2
        have gg2 : True := trivial
        have hm : mayB ⟨0, 0, 0, 0⟩ n = true := by rw [hm]; simp [*]
        rw [hm]
        clear hm
        go_enter Tryd.func39, Tryd.ntmps39
        go_wp2_with (go_at_call 53; refine (reg_any _ _).mono ?_; rintro e w' ⟨rfl, rfl⟩)
        go_ret
        exact ⟨rfl, Read.mk _ _⟩


theorem may_1 (a b c n : Int) (w : World) : Calls Tryd.prog 39 #[.agg #[.int .i64 1, .int .i64 a, .int .i64 b, .int .i64 c], .int .i64 n] w fun e w' => e = .returned (.bool (mayB ⟨1, a, b, c⟩ n)) ∧ Read w w' := by
  have hm : mayB ⟨1, a, b, c⟩ n = (restI ⟨1, a, b, c⟩ && fieldsB ⟨1, a, b, c⟩ n) := rfl
  simp [restI, usedOf, restB, fieldsB] at hm
  unfold wordB at hm
  cases h0 : regB a with
  | false =>
    have hm : mayB ⟨1, a, b, c⟩ n = false := by rw [hm]; simp [*]; try omega
    rw [hm]
    clear hm
    go_enter Tryd.func39, Tryd.ntmps39
    go_wp2_with (go_at_call 53; refine (reg_any _ _).mono ?_; rintro e w' ⟨rfl, rfl⟩)
    go_ret
    exact ⟨rfl, Read.mk _ _⟩
  | true =>
    by_cases h1 : -2147483648 ≤ b
    rotate_left
    · have hm : mayB ⟨1, a, b, c⟩ n = false := by rw [hm]; simp [*]; try omega
      rw [hm]
      clear hm
      go_enter Tryd.func39, Tryd.ntmps39
      go_wp2_with (go_at_call 53; refine (reg_any _ _).mono ?_; rintro e w' ⟨rfl, rfl⟩)
      go_ret
      exact ⟨rfl, Read.mk _ _⟩
    · have gg1 : True := trivial
      by_cases h2 : b ≤ 2147483647
      rotate_left
      · have hm : mayB ⟨1, a, b, c⟩ n = false := by rw [hm]; simp [*]; try omega
        rw [hm]
        clear hm
        go_enter Tryd.func39, Tryd.ntmps39
        go_wp2_with (go_at_call 53; refine (reg_any _ _).mono ?_; rintro e w' ⟨rfl, rfl⟩)
        go_ret
        exact ⟨rfl, Read.mk _ _⟩
      · have gg2 : True := trivial
        by_cases h3 : c = 0
        rotate_left
        · have g3 : (c == 0) = false := by simpa using h3
          have hm : mayB ⟨1, a, b, c⟩ n = false := by rw [hm]; simp [*]; try omega
          rw [hm]
          clear hm
          go_enter Tryd.func39, Tryd.ntmps39
          go_wp2_with (go_at_call 53; refine (reg_any _ _).mono ?_; rintro e w' ⟨rfl, rfl⟩)
          go_ret
          exact ⟨rfl, Read.mk _ _⟩
        · subst h3
          have gg3 : True := trivial
          have hm : mayB ⟨1, a, b, 0⟩ n = true := by rw [hm]; simp [*]; try omega
          rw [hm]
          clear hm
          go_enter Tryd.func39, Tryd.ntmps39
          go_wp2_with (go_at_call 53; refine (reg_any _ _).mono ?_; rintro e w' ⟨rfl, rfl⟩)
          go_ret
          exact ⟨rfl, Read.mk _ _⟩


theorem may_2 (a b c n : Int) (w : World) : Calls Tryd.prog 39 #[.agg #[.int .i64 2, .int .i64 a, .int .i64 b, .int .i64 c], .int .i64 n] w fun e w' => e = .returned (.bool (mayB ⟨2, a, b, c⟩ n)) ∧ Read w w' := by
  have hm : mayB ⟨2, a, b, c⟩ n = (restI ⟨2, a, b, c⟩ && fieldsB ⟨2, a, b, c⟩ n) := rfl
  simp [restI, usedOf, restB, fieldsB] at hm
  cases h0 : regB a with
  | false =>
    have hm : mayB ⟨2, a, b, c⟩ n = false := by rw [hm]; simp [*]
    rw [hm]
    clear hm
    go_enter Tryd.func39, Tryd.ntmps39
    go_wp2_with (go_at_call 53; refine (reg_any _ _).mono ?_; rintro e w' ⟨rfl, rfl⟩)
    go_ret
    exact ⟨rfl, Read.mk _ _⟩
  | true =>
    cases h1 : regB b with
    | false =>
      have hm : mayB ⟨2, a, b, c⟩ n = false := by rw [hm]; simp [*]
      rw [hm]
      clear hm
      go_enter Tryd.func39, Tryd.ntmps39
      go_wp2_with (go_at_call 53; refine (reg_any _ _).mono ?_; rintro e w' ⟨rfl, rfl⟩)
      go_ret
      exact ⟨rfl, Read.mk _ _⟩
    | true =>
      by_cases h2 : c = 0
      rotate_left
      · have g2 : (c == 0) = false := by simpa using h2
        have hm : mayB ⟨2, a, b, c⟩ n = false := by rw [hm]; simp [*]
        rw [hm]
        clear hm
        go_enter Tryd.func39, Tryd.ntmps39
        go_wp2_with (go_at_call 53; refine (reg_any _ _).mono ?_; rintro e w' ⟨rfl, rfl⟩)
        go_ret
        exact ⟨rfl, Read.mk _ _⟩
      · subst h2
        have gg2 : True := trivial
        have hm : mayB ⟨2, a, b, 0⟩ n = true := by rw [hm]; simp [*]
        rw [hm]
        clear hm
        go_enter Tryd.func39, Tryd.ntmps39
        go_wp2_with (go_at_call 53; refine (reg_any _ _).mono ?_; rintro e w' ⟨rfl, rfl⟩)
        go_ret
        exact ⟨rfl, Read.mk _ _⟩


theorem may_13 (a b c n : Int) (w : World) : Calls Tryd.prog 39 #[.agg #[.int .i64 13, .int .i64 a, .int .i64 b, .int .i64 c], .int .i64 n] w fun e w' => e = .returned (.bool (mayB ⟨13, a, b, c⟩ n)) ∧ Read w w' := by
  have hm : mayB ⟨13, a, b, c⟩ n = (restI ⟨13, a, b, c⟩ && fieldsB ⟨13, a, b, c⟩ n) := rfl
  simp [restI, usedOf, restB, fieldsB] at hm
  cases h0 : regB a with
  | false =>
    have hm : mayB ⟨13, a, b, c⟩ n = false := by rw [hm]; simp [*]
    rw [hm]
    clear hm
    go_enter Tryd.func39, Tryd.ntmps39
    go_wp2_with (go_at_call 53; refine (reg_any _ _).mono ?_; rintro e w' ⟨rfl, rfl⟩)
    go_ret
    exact ⟨rfl, Read.mk _ _⟩
  | true =>
    cases h1 : regB b with
    | false =>
      have hm : mayB ⟨13, a, b, c⟩ n = false := by rw [hm]; simp [*]
      rw [hm]
      clear hm
      go_enter Tryd.func39, Tryd.ntmps39
      go_wp2_with (go_at_call 53; refine (reg_any _ _).mono ?_; rintro e w' ⟨rfl, rfl⟩)
      go_ret
      exact ⟨rfl, Read.mk _ _⟩
    | true =>
      by_cases h2 : c = 0
      rotate_left
      · have g2 : (c == 0) = false := by simpa using h2
        have hm : mayB ⟨13, a, b, c⟩ n = false := by rw [hm]; simp [*]
        rw [hm]
        clear hm
        go_enter Tryd.func39, Tryd.ntmps39
        go_wp2_with (go_at_call 53; refine (reg_any _ _).mono ?_; rintro e w' ⟨rfl, rfl⟩)
        go_ret
        exact ⟨rfl, Read.mk _ _⟩
      · subst h2
        have gg2 : True := trivial
        have hm : mayB ⟨13, a, b, 0⟩ n = true := by rw [hm]; simp [*]
        rw [hm]
        clear hm
        go_enter Tryd.func39, Tryd.ntmps39
        go_wp2_with (go_at_call 53; refine (reg_any _ _).mono ?_; rintro e w' ⟨rfl, rfl⟩)
        go_ret
        exact ⟨rfl, Read.mk _ _⟩


theorem may_3 (a b c n : Int) (w : World) : Calls Tryd.prog 39 #[.agg #[.int .i64 3, .int .i64 a, .int .i64 b, .int .i64 c], .int .i64 n] w fun e w' => e = .returned (.bool (mayB ⟨3, a, b, c⟩ n)) ∧ Read w w' := by
  have hm : mayB ⟨3, a, b, c⟩ n = (restI ⟨3, a, b, c⟩ && fieldsB ⟨3, a, b, c⟩ n) := rfl
  simp [restI, usedOf, restB, fieldsB] at hm
  cases h0 : regB a with
  | false =>
    have hm : mayB ⟨3, a, b, c⟩ n = false := by rw [hm]; simp [*]
    rw [hm]
    clear hm
    go_enter Tryd.func39, Tryd.ntmps39
    go_wp2_with (go_at_call 53; refine (reg_any _ _).mono ?_; rintro e w' ⟨rfl, rfl⟩)
    go_ret
    exact ⟨rfl, Read.mk _ _⟩
  | true =>
    cases h1 : regB b with
    | false =>
      have hm : mayB ⟨3, a, b, c⟩ n = false := by rw [hm]; simp [*]
      rw [hm]
      clear hm
      go_enter Tryd.func39, Tryd.ntmps39
      go_wp2_with (go_at_call 53; refine (reg_any _ _).mono ?_; rintro e w' ⟨rfl, rfl⟩)
      go_ret
      exact ⟨rfl, Read.mk _ _⟩
    | true =>
      cases h2 : regB c with
      | false =>
        have hm : mayB ⟨3, a, b, c⟩ n = false := by rw [hm]; simp [*]
        rw [hm]
        clear hm
        go_enter Tryd.func39, Tryd.ntmps39
        go_wp2_with (go_at_call 53; refine (reg_any _ _).mono ?_; rintro e w' ⟨rfl, rfl⟩)
        go_ret
        exact ⟨rfl, Read.mk _ _⟩
      | true =>
        have hm : mayB ⟨3, a, b, c⟩ n = true := by rw [hm]; simp [*]
        rw [hm]
        clear hm
        go_enter Tryd.func39, Tryd.ntmps39
        go_wp2_with (go_at_call 53; refine (reg_any _ _).mono ?_; rintro e w' ⟨rfl, rfl⟩)
        go_ret
        exact ⟨rfl, Read.mk _ _⟩


theorem may_4 (a b c n : Int) (w : World) : Calls Tryd.prog 39 #[.agg #[.int .i64 4, .int .i64 a, .int .i64 b, .int .i64 c], .int .i64 n] w fun e w' => e = .returned (.bool (mayB ⟨4, a, b, c⟩ n)) ∧ Read w w' := by
  have hm : mayB ⟨4, a, b, c⟩ n = (restI ⟨4, a, b, c⟩ && fieldsB ⟨4, a, b, c⟩ n) := rfl
  simp [restI, usedOf, restB, fieldsB] at hm
  cases h0 : regB a with
  | false =>
    have hm : mayB ⟨4, a, b, c⟩ n = false := by rw [hm]; simp [*]
    rw [hm]
    clear hm
    go_enter Tryd.func39, Tryd.ntmps39
    go_wp2_with (go_at_call 53; refine (reg_any _ _).mono ?_; rintro e w' ⟨rfl, rfl⟩)
    go_ret
    exact ⟨rfl, Read.mk _ _⟩
  | true =>
    cases h1 : regB b with
    | false =>
      have hm : mayB ⟨4, a, b, c⟩ n = false := by rw [hm]; simp [*]
      rw [hm]
      clear hm
      go_enter Tryd.func39, Tryd.ntmps39
      go_wp2_with (go_at_call 53; refine (reg_any _ _).mono ?_; rintro e w' ⟨rfl, rfl⟩)
      go_ret
      exact ⟨rfl, Read.mk _ _⟩
    | true =>
      cases h2 : regB c with
      | false =>
        have hm : mayB ⟨4, a, b, c⟩ n = false := by rw [hm]; simp [*]
        rw [hm]
        clear hm
        go_enter Tryd.func39, Tryd.ntmps39
        go_wp2_with (go_at_call 53; refine (reg_any _ _).mono ?_; rintro e w' ⟨rfl, rfl⟩)
        go_ret
        exact ⟨rfl, Read.mk _ _⟩
      | true =>
        have hm : mayB ⟨4, a, b, c⟩ n = true := by rw [hm]; simp [*]
        rw [hm]
        clear hm
        go_enter Tryd.func39, Tryd.ntmps39
        go_wp2_with (go_at_call 53; refine (reg_any _ _).mono ?_; rintro e w' ⟨rfl, rfl⟩)
        go_ret
        exact ⟨rfl, Read.mk _ _⟩


theorem may_5 (a b c n : Int) (w : World) : Calls Tryd.prog 39 #[.agg #[.int .i64 5, .int .i64 a, .int .i64 b, .int .i64 c], .int .i64 n] w fun e w' => e = .returned (.bool (mayB ⟨5, a, b, c⟩ n)) ∧ Read w w' := by
  have hm : mayB ⟨5, a, b, c⟩ n = (restI ⟨5, a, b, c⟩ && fieldsB ⟨5, a, b, c⟩ n) := rfl
  simp [restI, usedOf, restB, fieldsB] at hm
  cases h0 : regB a with
  | false =>
    have hm : mayB ⟨5, a, b, c⟩ n = false := by rw [hm]; simp [*]
    rw [hm]
    clear hm
    go_enter Tryd.func39, Tryd.ntmps39
    go_wp2_with (go_at_call 53; refine (reg_any _ _).mono ?_; rintro e w' ⟨rfl, rfl⟩)
    go_ret
    exact ⟨rfl, Read.mk _ _⟩
  | true =>
    cases h1 : regB b with
    | false =>
      have hm : mayB ⟨5, a, b, c⟩ n = false := by rw [hm]; simp [*]
      rw [hm]
      clear hm
      go_enter Tryd.func39, Tryd.ntmps39
      go_wp2_with (go_at_call 53; refine (reg_any _ _).mono ?_; rintro e w' ⟨rfl, rfl⟩)
      go_ret
      exact ⟨rfl, Read.mk _ _⟩
    | true =>
      cases h2 : regB c with
      | false =>
        have hm : mayB ⟨5, a, b, c⟩ n = false := by rw [hm]; simp [*]
        rw [hm]
        clear hm
        go_enter Tryd.func39, Tryd.ntmps39
        go_wp2_with (go_at_call 53; refine (reg_any _ _).mono ?_; rintro e w' ⟨rfl, rfl⟩)
        go_ret
        exact ⟨rfl, Read.mk _ _⟩
      | true =>
        have hm : mayB ⟨5, a, b, c⟩ n = true := by rw [hm]; simp [*]
        rw [hm]
        clear hm
        go_enter Tryd.func39, Tryd.ntmps39
        go_wp2_with (go_at_call 53; refine (reg_any _ _).mono ?_; rintro e w' ⟨rfl, rfl⟩)
        go_ret
        exact ⟨rfl, Read.mk _ _⟩


theorem may_6 (a b c n : Int) (w : World) : Calls Tryd.prog 39 #[.agg #[.int .i64 6, .int .i64 a, .int .i64 b, .int .i64 c], .int .i64 n] w fun e w' => e = .returned (.bool (mayB ⟨6, a, b, c⟩ n)) ∧ Read w w' := by
  have hm : mayB ⟨6, a, b, c⟩ n = (restI ⟨6, a, b, c⟩ && fieldsB ⟨6, a, b, c⟩ n) := rfl
  simp [restI, usedOf, restB, fieldsB] at hm
  cases h0 : regB a with
  | false =>
    have hm : mayB ⟨6, a, b, c⟩ n = false := by rw [hm]; simp [*]
    rw [hm]
    clear hm
    go_enter Tryd.func39, Tryd.ntmps39
    go_wp2_with (go_at_call 53; refine (reg_any _ _).mono ?_; rintro e w' ⟨rfl, rfl⟩)
    go_ret
    exact ⟨rfl, Read.mk _ _⟩
  | true =>
    cases h1 : regB b with
    | false =>
      have hm : mayB ⟨6, a, b, c⟩ n = false := by rw [hm]; simp [*]
      rw [hm]
      clear hm
      go_enter Tryd.func39, Tryd.ntmps39
      go_wp2_with (go_at_call 53; refine (reg_any _ _).mono ?_; rintro e w' ⟨rfl, rfl⟩)
      go_ret
      exact ⟨rfl, Read.mk _ _⟩
    | true =>
      cases h2 : regB c with
      | false =>
        have hm : mayB ⟨6, a, b, c⟩ n = false := by rw [hm]; simp [*]
        rw [hm]
        clear hm
        go_enter Tryd.func39, Tryd.ntmps39
        go_wp2_with (go_at_call 53; refine (reg_any _ _).mono ?_; rintro e w' ⟨rfl, rfl⟩)
        go_ret
        exact ⟨rfl, Read.mk _ _⟩
      | true =>
        have hm : mayB ⟨6, a, b, c⟩ n = true := by rw [hm]; simp [*]
        rw [hm]
        clear hm
        go_enter Tryd.func39, Tryd.ntmps39
        go_wp2_with (go_at_call 53; refine (reg_any _ _).mono ?_; rintro e w' ⟨rfl, rfl⟩)
        go_ret
        exact ⟨rfl, Read.mk _ _⟩


theorem may_7 (a b c n : Int) (w : World) : Calls Tryd.prog 39 #[.agg #[.int .i64 7, .int .i64 a, .int .i64 b, .int .i64 c], .int .i64 n] w fun e w' => e = .returned (.bool (mayB ⟨7, a, b, c⟩ n)) ∧ Read w w' := by
  have hm : mayB ⟨7, a, b, c⟩ n = (restI ⟨7, a, b, c⟩ && fieldsB ⟨7, a, b, c⟩ n) := rfl
  simp [restI, usedOf, restB, fieldsB] at hm
  cases h0 : regB a with
  | false =>
    have hm : mayB ⟨7, a, b, c⟩ n = false := by rw [hm]; simp [*]
    rw [hm]
    clear hm
    go_enter Tryd.func39, Tryd.ntmps39
    go_wp2_with (go_at_call 53; refine (reg_any _ _).mono ?_; rintro e w' ⟨rfl, rfl⟩)
    go_ret
    exact ⟨rfl, Read.mk _ _⟩
  | true =>
    cases h1 : regB b with
    | false =>
      have hm : mayB ⟨7, a, b, c⟩ n = false := by rw [hm]; simp [*]
      rw [hm]
      clear hm
      go_enter Tryd.func39, Tryd.ntmps39
      go_wp2_with (go_at_call 53; refine (reg_any _ _).mono ?_; rintro e w' ⟨rfl, rfl⟩)
      go_ret
      exact ⟨rfl, Read.mk _ _⟩
    | true =>
      cases h2 : regB c with
      | false =>
        have hm : mayB ⟨7, a, b, c⟩ n = false := by rw [hm]; simp [*]
        rw [hm]
        clear hm
        go_enter Tryd.func39, Tryd.ntmps39
        go_wp2_with (go_at_call 53; refine (reg_any _ _).mono ?_; rintro e w' ⟨rfl, rfl⟩)
        go_ret
        exact ⟨rfl, Read.mk _ _⟩
      | true =>
        have hm : mayB ⟨7, a, b, c⟩ n = true := by rw [hm]; simp [*]
        rw [hm]
        clear hm
        go_enter Tryd.func39, Tryd.ntmps39
        go_wp2_with (go_at_call 53; refine (reg_any _ _).mono ?_; rintro e w' ⟨rfl, rfl⟩)
        go_ret
        exact ⟨rfl, Read.mk _ _⟩


theorem may_8 (a b c n : Int) (w : World) : Calls Tryd.prog 39 #[.agg #[.int .i64 8, .int .i64 a, .int .i64 b, .int .i64 c], .int .i64 n] w fun e w' => e = .returned (.bool (mayB ⟨8, a, b, c⟩ n)) ∧ Read w w' := by
  have hm : mayB ⟨8, a, b, c⟩ n = (restI ⟨8, a, b, c⟩ && fieldsB ⟨8, a, b, c⟩ n) := rfl
  simp [restI, usedOf, restB, fieldsB] at hm
  cases h0 : regB a with
  | false =>
    have hm : mayB ⟨8, a, b, c⟩ n = false := by rw [hm]; simp [*]
    rw [hm]
    clear hm
    go_enter Tryd.func39, Tryd.ntmps39
    go_wp2_with (go_at_call 53; refine (reg_any _ _).mono ?_; rintro e w' ⟨rfl, rfl⟩)
    go_ret
    exact ⟨rfl, Read.mk _ _⟩
  | true =>
    cases h1 : regB b with
    | false =>
      have hm : mayB ⟨8, a, b, c⟩ n = false := by rw [hm]; simp [*]
      rw [hm]
      clear hm
      go_enter Tryd.func39, Tryd.ntmps39
      go_wp2_with (go_at_call 53; refine (reg_any _ _).mono ?_; rintro e w' ⟨rfl, rfl⟩)
      go_ret
      exact ⟨rfl, Read.mk _ _⟩
    | true =>
      cases h2 : regB c with
      | false =>
        have hm : mayB ⟨8, a, b, c⟩ n = false := by rw [hm]; simp [*]
        rw [hm]
        clear hm
        go_enter Tryd.func39, Tryd.ntmps39
        go_wp2_with (go_at_call 53; refine (reg_any _ _).mono ?_; rintro e w' ⟨rfl, rfl⟩)
        go_ret
        exact ⟨rfl, Read.mk _ _⟩
      | true =>
        have hm : mayB ⟨8, a, b, c⟩ n = true := by rw [hm]; simp [*]
        rw [hm]
        clear hm
        go_enter Tryd.func39, Tryd.ntmps39
        go_wp2_with (go_at_call 53; refine (reg_any _ _).mono ?_; rintro e w' ⟨rfl, rfl⟩)
        go_ret
        exact ⟨rfl, Read.mk _ _⟩


theorem may_9 (a b c n : Int) (w : World) : Calls Tryd.prog 39 #[.agg #[.int .i64 9, .int .i64 a, .int .i64 b, .int .i64 c], .int .i64 n] w fun e w' => e = .returned (.bool (mayB ⟨9, a, b, c⟩ n)) ∧ Read w w' := by
  have hm : mayB ⟨9, a, b, c⟩ n = (restI ⟨9, a, b, c⟩ && fieldsB ⟨9, a, b, c⟩ n) := rfl
  simp [restI, usedOf, restB, fieldsB] at hm
  cases h0 : regB a with
  | false =>
    have hm : mayB ⟨9, a, b, c⟩ n = false := by rw [hm]; simp [*]
    rw [hm]
    clear hm
    go_enter Tryd.func39, Tryd.ntmps39
    go_wp2_with (go_at_call 53; refine (reg_any _ _).mono ?_; rintro e w' ⟨rfl, rfl⟩)
    go_ret
    exact ⟨rfl, Read.mk _ _⟩
  | true =>
    cases h1 : regB b with
    | false =>
      have hm : mayB ⟨9, a, b, c⟩ n = false := by rw [hm]; simp [*]
      rw [hm]
      clear hm
      go_enter Tryd.func39, Tryd.ntmps39
      go_wp2_with (go_at_call 53; refine (reg_any _ _).mono ?_; rintro e w' ⟨rfl, rfl⟩)
      go_ret
      exact ⟨rfl, Read.mk _ _⟩
    | true =>
      cases h2 : regB c with
      | false =>
        have hm : mayB ⟨9, a, b, c⟩ n = false := by rw [hm]; simp [*]
        rw [hm]
        clear hm
        go_enter Tryd.func39, Tryd.ntmps39
        go_wp2_with (go_at_call 53; refine (reg_any _ _).mono ?_; rintro e w' ⟨rfl, rfl⟩)
        go_ret
        exact ⟨rfl, Read.mk _ _⟩
      | true =>
        have hm : mayB ⟨9, a, b, c⟩ n = true := by rw [hm]; simp [*]
        rw [hm]
        clear hm
        go_enter Tryd.func39, Tryd.ntmps39
        go_wp2_with (go_at_call 53; refine (reg_any _ _).mono ?_; rintro e w' ⟨rfl, rfl⟩)
        go_ret
        exact ⟨rfl, Read.mk _ _⟩


theorem may_12 (a b c n : Int) (w : World) : Calls Tryd.prog 39 #[.agg #[.int .i64 12, .int .i64 a, .int .i64 b, .int .i64 c], .int .i64 n] w fun e w' => e = .returned (.bool (mayB ⟨12, a, b, c⟩ n)) ∧ Read w w' := by
  have hm : mayB ⟨12, a, b, c⟩ n = (restI ⟨12, a, b, c⟩ && fieldsB ⟨12, a, b, c⟩ n) := rfl
  simp [restI, usedOf, restB, fieldsB] at hm
  cases h0 : regB a with
  | false =>
    have hm : mayB ⟨12, a, b, c⟩ n = false := by rw [hm]; simp [*]
    rw [hm]
    clear hm
    go_enter Tryd.func39, Tryd.ntmps39
    go_wp2_with (go_at_call 53; refine (reg_any _ _).mono ?_; rintro e w' ⟨rfl, rfl⟩)
    go_ret
    exact ⟨rfl, Read.mk _ _⟩
  | true =>
    cases h1 : regB b with
    | false =>
      have hm : mayB ⟨12, a, b, c⟩ n = false := by rw [hm]; simp [*]
      rw [hm]
      clear hm
      go_enter Tryd.func39, Tryd.ntmps39
      go_wp2_with (go_at_call 53; refine (reg_any _ _).mono ?_; rintro e w' ⟨rfl, rfl⟩)
      go_ret
      exact ⟨rfl, Read.mk _ _⟩
    | true =>
      cases h2 : regB c with
      | false =>
        have hm : mayB ⟨12, a, b, c⟩ n = false := by rw [hm]; simp [*]
        rw [hm]
        clear hm
        go_enter Tryd.func39, Tryd.ntmps39
        go_wp2_with (go_at_call 53; refine (reg_any _ _).mono ?_; rintro e w' ⟨rfl, rfl⟩)
        go_ret
        exact ⟨rfl, Read.mk _ _⟩
      | true =>
        have hm : mayB ⟨12, a, b, c⟩ n = true := by rw [hm]; simp [*]
        rw [hm]
        clear hm
        go_enter Tryd.func39, Tryd.ntmps39
        go_wp2_with (go_at_call 53; refine (reg_any _ _).mono ?_; rintro e w' ⟨rfl, rfl⟩)
        go_ret
        exact ⟨rfl, Read.mk _ _⟩


theorem may_10 (a b c n : Int) (w : World) : Calls Tryd.prog 39 #[.agg #[.int .i64 10, .int .i64 a, .int .i64 b, .int .i64 c], .int .i64 n] w fun e w' => e = .returned (.bool (mayB ⟨10, a, b, c⟩ n)) ∧ Read w w' := by
  have hm : mayB ⟨10, a, b, c⟩ n = (restI ⟨10, a, b, c⟩ && fieldsB ⟨10, a, b, c⟩ n) := rfl
  simp [restI, usedOf, restB, fieldsB] at hm
  unfold placeB at hm
  by_cases h0 : 0 ≤ a
  rotate_left
  · have hm : mayB ⟨10, a, b, c⟩ n = false := by rw [hm]; simp [*]; try omega
    rw [hm]
    clear hm
    go_enter Tryd.func39, Tryd.ntmps39
    go_wp2_with (go_at_call 53; refine (reg_any _ _).mono ?_; rintro e w' ⟨rfl, rfl⟩)
    go_ret
    exact ⟨rfl, Read.mk _ _⟩
  · have gg0 : True := trivial
    by_cases h1 : a ≤ n
    rotate_left
    · have hm : mayB ⟨10, a, b, c⟩ n = false := by rw [hm]; simp [*]; try omega
      rw [hm]
      clear hm
      go_enter Tryd.func39, Tryd.ntmps39
      go_wp2_with (go_at_call 53; refine (reg_any _ _).mono ?_; rintro e w' ⟨rfl, rfl⟩)
      go_ret
      exact ⟨rfl, Read.mk _ _⟩
    · have gg1 : True := trivial
      by_cases h2 : b = 0
      rotate_left
      · have g2 : (b == 0) = false := by simpa using h2
        have hm : mayB ⟨10, a, b, c⟩ n = false := by rw [hm]; simp [*]; try omega
        rw [hm]
        clear hm
        go_enter Tryd.func39, Tryd.ntmps39
        go_wp2_with (go_at_call 53; refine (reg_any _ _).mono ?_; rintro e w' ⟨rfl, rfl⟩)
        go_ret
        exact ⟨rfl, Read.mk _ _⟩
      · subst h2
        have gg2 : True := trivial
        by_cases h3 : c = 0
        rotate_left
        · have g3 : (c == 0) = false := by simpa using h3
          have hm : mayB ⟨10, a, 0, c⟩ n = false := by rw [hm]; simp [*]; try omega
          rw [hm]
          clear hm
          go_enter Tryd.func39, Tryd.ntmps39
          go_wp2_with (go_at_call 53; refine (reg_any _ _).mono ?_; rintro e w' ⟨rfl, rfl⟩)
          go_ret
          exact ⟨rfl, Read.mk _ _⟩
        · subst h3
          have gg3 : True := trivial
          have hm : mayB ⟨10, a, 0, 0⟩ n = true := by rw [hm]; simp [*]; try omega
          rw [hm]
          clear hm
          go_enter Tryd.func39, Tryd.ntmps39
          go_wp2_with (go_at_call 53; refine (reg_any _ _).mono ?_; rintro e w' ⟨rfl, rfl⟩)
          go_ret
          exact ⟨rfl, Read.mk _ _⟩


theorem may_11 (a b c n : Int) (w : World) : Calls Tryd.prog 39 #[.agg #[.int .i64 11, .int .i64 a, .int .i64 b, .int .i64 c], .int .i64 n] w fun e w' => e = .returned (.bool (mayB ⟨11, a, b, c⟩ n)) ∧ Read w w' := by
  have hm : mayB ⟨11, a, b, c⟩ n = (restI ⟨11, a, b, c⟩ && fieldsB ⟨11, a, b, c⟩ n) := rfl
  simp [restI, usedOf, restB, fieldsB] at hm
  unfold placeB at hm
  cases h0 : regB a with
  | false =>
    have hm : mayB ⟨11, a, b, c⟩ n = false := by rw [hm]; simp [*]; try omega
    rw [hm]
    clear hm
    go_enter Tryd.func39, Tryd.ntmps39
    go_wp2_with (go_at_call 53; refine (reg_any _ _).mono ?_; rintro e w' ⟨rfl, rfl⟩)
    go_ret
    exact ⟨rfl, Read.mk _ _⟩
  | true =>
    by_cases h1 : 0 ≤ b
    rotate_left
    · have hm : mayB ⟨11, a, b, c⟩ n = false := by rw [hm]; simp [*]; try omega
      rw [hm]
      clear hm
      go_enter Tryd.func39, Tryd.ntmps39
      go_wp2_with (go_at_call 53; refine (reg_any _ _).mono ?_; rintro e w' ⟨rfl, rfl⟩)
      go_ret
      exact ⟨rfl, Read.mk _ _⟩
    · have gg1 : True := trivial
      by_cases h2 : b ≤ n
      rotate_left
      · have hm : mayB ⟨11, a, b, c⟩ n = false := by rw [hm]; simp [*]; try omega
        rw [hm]
        clear hm
        go_enter Tryd.func39, Tryd.ntmps39
        go_wp2_with (go_at_call 53; refine (reg_any _ _).mono ?_; rintro e w' ⟨rfl, rfl⟩)
        go_ret
        exact ⟨rfl, Read.mk _ _⟩
      · have gg2 : True := trivial
        by_cases h3 : c = 0
        rotate_left
        · have g3 : (c == 0) = false := by simpa using h3
          have hm : mayB ⟨11, a, b, c⟩ n = false := by rw [hm]; simp [*]; try omega
          rw [hm]
          clear hm
          go_enter Tryd.func39, Tryd.ntmps39
          go_wp2_with (go_at_call 53; refine (reg_any _ _).mono ?_; rintro e w' ⟨rfl, rfl⟩)
          go_ret
          exact ⟨rfl, Read.mk _ _⟩
        · subst h3
          have gg3 : True := trivial
          have hm : mayB ⟨11, a, b, 0⟩ n = true := by rw [hm]; simp [*]; try omega
          rw [hm]
          clear hm
          go_enter Tryd.func39, Tryd.ntmps39
          go_wp2_with (go_at_call 53; refine (reg_any _ _).mono ?_; rintro e w' ⟨rfl, rfl⟩)
          go_ret
          exact ⟨rfl, Read.mk _ _⟩


theorem may_14 (a b c n : Int) (w : World) : Calls Tryd.prog 39 #[.agg #[.int .i64 14, .int .i64 a, .int .i64 b, .int .i64 c], .int .i64 n] w fun e w' => e = .returned (.bool (mayB ⟨14, a, b, c⟩ n)) ∧ Read w w' := by
  have hm : mayB ⟨14, a, b, c⟩ n = (restI ⟨14, a, b, c⟩ && fieldsB ⟨14, a, b, c⟩ n) := rfl
  simp [restI, usedOf, restB, fieldsB] at hm
  cases h0 : regB a with
  | false =>
    have hm : mayB ⟨14, a, b, c⟩ n = false := by rw [hm]; simp [*]
    rw [hm]
    clear hm
    go_enter Tryd.func39, Tryd.ntmps39
    go_wp2_with (go_at_call 53; refine (reg_any _ _).mono ?_; rintro e w' ⟨rfl, rfl⟩)
    go_ret
    exact ⟨rfl, Read.mk _ _⟩
  | true =>
    by_cases h1 : b = 0
    rotate_left
    · have g1 : (b == 0) = false := by simpa using h1
      have hm : mayB ⟨14, a, b, c⟩ n = false := by rw [hm]; simp [*]
      rw [hm]
      clear hm
      go_enter Tryd.func39, Tryd.ntmps39
      go_wp2_with (go_at_call 53; refine (reg_any _ _).mono ?_; rintro e w' ⟨rfl, rfl⟩)
      go_ret
      exact ⟨rfl, Read.mk _ _⟩
    · subst h1
      have gg1 : True := trivial
      by_cases h2 : c = 0
      rotate_left
      · have g2 : (c == 0) = false := by simpa using h2
        have hm : mayB ⟨14, a, 0, c⟩ n = false := by rw [hm]; simp [*]
        rw [hm]
        clear hm
        go_enter Tryd.func39, Tryd.ntmps39
        go_wp2_with (go_at_call 53; refine (reg_any _ _).mono ?_; rintro e w' ⟨rfl, rfl⟩)
        go_ret
        exact ⟨rfl, Read.mk _ _⟩
      · subst h2
        have gg2 : True := trivial
        have hm : mayB ⟨14, a, 0, 0⟩ n = true := by rw [hm]; simp [*]
        rw [hm]
        clear hm
        go_enter Tryd.func39, Tryd.ntmps39
        go_wp2_with (go_at_call 53; refine (reg_any _ _).mono ?_; rintro e w' ⟨rfl, rfl⟩)
        go_ret
        exact ⟨rfl, Read.mk _ _⟩


theorem may_15 (a b c n : Int) (w : World) : Calls Tryd.prog 39 #[.agg #[.int .i64 15, .int .i64 a, .int .i64 b, .int .i64 c], .int .i64 n] w fun e w' => e = .returned (.bool (mayB ⟨15, a, b, c⟩ n)) ∧ Read w w' := by
  have hm : mayB ⟨15, a, b, c⟩ n = (restI ⟨15, a, b, c⟩ && fieldsB ⟨15, a, b, c⟩ n) := rfl
  simp [restI, usedOf, restB, fieldsB] at hm
  cases h0 : regB a with
  | false =>
    have hm : mayB ⟨15, a, b, c⟩ n = false := by rw [hm]; simp [*]
    rw [hm]
    clear hm
    go_enter Tryd.func39, Tryd.ntmps39
    go_wp2_with (go_at_call 53; refine (reg_any _ _).mono ?_; rintro e w' ⟨rfl, rfl⟩)
    go_ret
    exact ⟨rfl, Read.mk _ _⟩
  | true =>
    by_cases h1 : b = 0
    rotate_left
    · have g1 : (b == 0) = false := by simpa using h1
      have hm : mayB ⟨15, a, b, c⟩ n = false := by rw [hm]; simp [*]
      rw [hm]
      clear hm
      go_enter Tryd.func39, Tryd.ntmps39
      go_wp2_with (go_at_call 53; refine (reg_any _ _).mono ?_; rintro e w' ⟨rfl, rfl⟩)
      go_ret
      exact ⟨rfl, Read.mk _ _⟩
    · subst h1
      have gg1 : True := trivial
      by_cases h2 : c = 0
      rotate_left
      · have g2 : (c == 0) = false := by simpa using h2
        have hm : mayB ⟨15, a, 0, c⟩ n = false := by rw [hm]; simp [*]
        rw [hm]
        clear hm
        go_enter Tryd.func39, Tryd.ntmps39
        go_wp2_with (go_at_call 53; refine (reg_any _ _).mono ?_; rintro e w' ⟨rfl, rfl⟩)
        go_ret
        exact ⟨rfl, Read.mk _ _⟩
      · subst h2
        have gg2 : True := trivial
        have hm : mayB ⟨15, a, 0, 0⟩ n = true := by rw [hm]; simp [*]
        rw [hm]
        clear hm
        go_enter Tryd.func39, Tryd.ntmps39
        go_wp2_with (go_at_call 53; refine (reg_any _ _).mono ?_; rintro e w' ⟨rfl, rfl⟩)
        go_ret
        exact ⟨rfl, Read.mk _ _⟩


theorem may_16 (a b c n : Int) (w : World) : Calls Tryd.prog 39 #[.agg #[.int .i64 16, .int .i64 a, .int .i64 b, .int .i64 c], .int .i64 n] w fun e w' => e = .returned (.bool (mayB ⟨16, a, b, c⟩ n)) ∧ Read w w' := by
  have hm : mayB ⟨16, a, b, c⟩ n = (restI ⟨16, a, b, c⟩ && fieldsB ⟨16, a, b, c⟩ n) := rfl
  simp [restI, usedOf, restB, fieldsB] at hm
  cases h0 : regB a with
  | false =>
    have hm : mayB ⟨16, a, b, c⟩ n = false := by rw [hm]; simp [*]
    rw [hm]
    clear hm
    go_enter Tryd.func39, Tryd.ntmps39
    go_wp2_with (go_at_call 53; refine (reg_any _ _).mono ?_; rintro e w' ⟨rfl, rfl⟩)
    go_ret
    exact ⟨rfl, Read.mk _ _⟩
  | true =>
    by_cases h1 : b = 0
    rotate_left
    · have g1 : (b == 0) = false := by simpa using h1
      have hm : mayB ⟨16, a, b, c⟩ n = false := by rw [hm]; simp [*]
      rw [hm]
      clear hm
      go_enter Tryd.func39, Tryd.ntmps39
      go_wp2_with (go_at_call 53; refine (reg_any _ _).mono ?_; rintro e w' ⟨rfl, rfl⟩)
      go_ret
      exact ⟨rfl, Read.mk _ _⟩
    · subst h1
      have gg1 : True := trivial
      by_cases h2 : c = 0
      rotate_left
      · have g2 : (c == 0) = false := by simpa using h2
        have hm : mayB ⟨16, a, 0, c⟩ n = false := by rw [hm]; simp [*]
        rw [hm]
        clear hm
        go_enter Tryd.func39, Tryd.ntmps39
        go_wp2_with (go_at_call 53; refine (reg_any _ _).mono ?_; rintro e w' ⟨rfl, rfl⟩)
        go_ret
        exact ⟨rfl, Read.mk _ _⟩
      · subst h2
        have gg2 : True := trivial
        have hm : mayB ⟨16, a, 0, 0⟩ n = true := by rw [hm]; simp [*]
        rw [hm]
        clear hm
        go_enter Tryd.func39, Tryd.ntmps39
        go_wp2_with (go_at_call 53; refine (reg_any _ _).mono ?_; rintro e w' ⟨rfl, rfl⟩)
        go_ret
        exact ⟨rfl, Read.mk _ _⟩


theorem may_none (op a b c n : Int) (h : op < 0 ∨ 17 ≤ op) (w : World) : Calls Tryd.prog 39 #[.agg #[.int .i64 op, .int .i64 a, .int .i64 b, .int .i64 c], .int .i64 n] w fun e w' => e = .returned (.bool (mayB ⟨op, a, b, c⟩ n)) ∧ Read w w' := by
  have hf : fieldsB ⟨op, a, b, c⟩ n = false := by
    unfold fieldsB
    simp only
    repeat (rw [if_neg (by omega)])
    simp
    omega
  rw [mayB, hf]
  simp only [Bool.and_false]
  clear hf
  have e0 : (op == 0) = false := by simp; omega
  have e1 : (op == 1) = false := by simp; omega
  have e2 : (op == 2) = false := by simp; omega
  have e3 : (op == 3) = false := by simp; omega
  have e4 : (op == 4) = false := by simp; omega
  have e5 : (op == 5) = false := by simp; omega
  have e6 : (op == 6) = false := by simp; omega
  have e7 : (op == 7) = false := by simp; omega
  have e8 : (op == 8) = false := by simp; omega
  have e9 : (op == 9) = false := by simp; omega
  have e10 : (op == 10) = false := by simp; omega
  have e11 : (op == 11) = false := by simp; omega
  have e12 : (op == 12) = false := by simp; omega
  have e13 : (op == 13) = false := by simp; omega
  have e14 : (op == 14) = false := by simp; omega
  have e15 : (op == 15) = false := by simp; omega
  have e16 : (op == 16) = false := by simp; omega
  clear h
  go_enter Tryd.func39, Tryd.ntmps39
  go_wp2_with (go_at_call 53; refine (reg_any _ _).mono ?_; rintro e w' ⟨rfl, rfl⟩)
  go_ret
  exact ⟨rfl, Read.mk _ _⟩
theorem may_any (i : I) (n : Int) (w : World) : Calls Tryd.prog 39 #[i.val, .int .i64 n] w fun e w' => e = .returned (.bool (mayB i n)) ∧ Read w w' := by
  obtain ⟨op, a, b, c⟩ := i
  by_cases h : op < 0 ∨ 17 ≤ op
  · exact may_none op a b c n h w
  · rcases op_cases (op := op) (by omega) (by omega) with rfl | rfl | rfl | rfl | rfl | rfl | rfl | rfl | rfl | rfl | rfl | rfl | rfl | rfl | rfl | rfl | rfl
    · exact may_0 a b c n w
    · exact may_1 a b c n w
    · exact may_2 a b c n w
    · exact may_3 a b c n w
    · exact may_4 a b c n w
    · exact may_5 a b c n w
    · exact may_6 a b c n w
    · exact may_7 a b c n w
    · exact may_8 a b c n w
    · exact may_9 a b c n w
    · exact may_10 a b c n w
    · exact may_11 a b c n w
    · exact may_12 a b c n w
    · exact may_13 a b c n w
    · exact may_14 a b c n w
    · exact may_15 a b c n w
    · exact may_16 a b c n w

end Go.Proofs.YtofkfajcibdneaaDoor
