
/-
  The contracts of the functions of package event over messages, and of the document's own answers for them, each at every message.
-/
import Derived.Test.YtjbammgnkegecaaEvent3
namespace Go.Proofs.Ytjbammgnkegecaa
open Go.ChangeShapes Go.WideShapes Go.ChangeAt Go.RowKit Go.Sort

theorem vValid_any (t : Int) (w : World) : Calls Try.prog 36 #[.int .i64 t] w fun e w' => e = .returned (.bool (decide (0 ≤ t ∧ t ≤ 4611686018427387903))) ∧ w = w' := by
  by_cases h0 : 0 ≤ t
  · by_cases h1 : t ≤ 4611686018427387903
    · have hd : decide (0 ≤ t ∧ t ≤ 4611686018427387903) = true := by simp [h0, h1]
      rw [hd]
      go_enter Try.func36, Try.ntmps36
      go_wp2
      go_ret
      exact ⟨rfl, rfl⟩
    · have hd : decide (0 ≤ t ∧ t ≤ 4611686018427387903) = false := by simp [h1]
      rw [hd]
      go_enter Try.func36, Try.ntmps36
      go_wp2
      go_ret
      exact ⟨rfl, rfl⟩
  · have hd : decide (0 ≤ t ∧ t ≤ 4611686018427387903) = false := by simp [h0]
    rw [hd]
    go_enter Try.func36, Try.ntmps36
    go_wp2
    go_ret
    exact ⟨rfl, rfl⟩

theorem rValid_any (t : Int) (w : World) : Calls Try.prog 38 #[.int .i64 t] w fun e w' => e = .returned (.bool (decide (0 ≤ t ∧ t ≤ 4611686018427387903))) ∧ w = w' := by
  by_cases h0 : 0 ≤ t
  · by_cases h1 : t ≤ 4611686018427387903
    · have hd : decide (0 ≤ t ∧ t ≤ 4611686018427387903) = true := by simp [h0, h1]
      rw [hd]
      go_enter Try.func38, Try.ntmps38
      go_wp2
      go_ret
      exact ⟨rfl, rfl⟩
    · have hd : decide (0 ≤ t ∧ t ≤ 4611686018427387903) = false := by simp [h1]
      rw [hd]
      go_enter Try.func38, Try.ntmps38
      go_wp2
      go_ret
      exact ⟨rfl, rfl⟩
  · have hd : decide (0 ≤ t ∧ t ≤ 4611686018427387903) = false := by simp [h0]
    rw [hd]
    go_enter Try.func38, Try.ntmps38
    go_wp2
    go_ret
    exact ⟨rfl, rfl⟩

/-- A message that may be. -/
def chkM (m : M) : Int := if (0 ≤ m.k.t ∧ m.k.t ≤ 4611686018427387903) ∧ ¬ m.k.f < -1 ∧ ¬ 16 ≤ m.k.f ∧ ¬ m.k.s < 0 ∧ ¬ m.u < 0 ∧ ¬ m.to < 0 ∧ ¬ 16 ≤ m.to then 0 else 1

set_option maxHeartbeats 2000000 in
theorem eCheck_any (a : M) (w : World) : Calls Try.prog 25 #[a.val] w fun e w' => e = .returned (.int .i64 (chkM a)) ∧ Read w w' := by
  have hcon := fun w => vValid_any a.k.t w
  have hb := MsgAt.mk w a
  have hz : Hid (chkM a = if (0 ≤ a.k.t ∧ a.k.t ≤ 4611686018427387903) ∧ ¬ a.k.f < -1 ∧ ¬ 16 ≤ a.k.f ∧ ¬ a.k.s < 0 ∧ ¬ a.u < 0 ∧ ¬ a.to < 0 ∧ ¬ 16 ≤ a.to then 0 else 1) := rfl
  generalize chkM a = z at hz ⊢
  obtain ⟨⟨t, f, s⟩, to, v, u, an⟩ := a
  simp only at hz hb
  simp only [M.val] at hcon ⊢
  by_cases h0 : 0 ≤ t ∧ t ≤ 4611686018427387903
  · have hd : decide (0 ≤ t ∧ t ≤ 4611686018427387903) = true := by simp [h0]
    rw [hd] at hcon
    clear hd
    by_cases h1 : f < -1
    · obtain rfl : z = 1 := by rw [hz.out]; simp [h1]
      clear hz h0
      go_enter Try.func25, Try.ntmps25
      go_wp2_with (go_at_call 36; refine (hcon _).mono ?_; rintro e w' ⟨rfl, rfl⟩)
      go_ret
      exact ⟨rfl, Read.mk _ _⟩
    ·
      by_cases h2 : 16 ≤ f
      · obtain rfl : z = 1 := by rw [hz.out]; simp [h2]
        clear hz h0
        go_enter Try.func25, Try.ntmps25
        go_wp2_with (go_at_call 36; refine (hcon _).mono ?_; rintro e w' ⟨rfl, rfl⟩)
        go_ret
        exact ⟨rfl, Read.mk _ _⟩
      ·
        by_cases h3 : s < 0
        · obtain rfl : z = 1 := by rw [hz.out]; simp [h3]
          clear hz h0
          go_enter Try.func25, Try.ntmps25
          go_wp2_with (go_at_call 36; refine (hcon _).mono ?_; rintro e w' ⟨rfl, rfl⟩)
          go_ret
          exact ⟨rfl, Read.mk _ _⟩
        ·
          by_cases h4 : u < 0
          · obtain rfl : z = 1 := by rw [hz.out]; simp [h4]
            clear hz h0
            go_enter Try.func25, Try.ntmps25
            go_wp2_with (go_at_call 36; refine (hcon _).mono ?_; rintro e w' ⟨rfl, rfl⟩)
            go_ret
            exact ⟨rfl, Read.mk _ _⟩
          ·
            by_cases h5 : to < 0
            · obtain rfl : z = 1 := by rw [hz.out]; simp [h5]
              clear hz h0
              go_enter Try.func25, Try.ntmps25
              go_wp2_with (go_at_call 36; refine (hcon _).mono ?_; rintro e w' ⟨rfl, rfl⟩)
              go_ret
              exact ⟨rfl, Read.mk _ _⟩
            ·
              by_cases h6 : 16 ≤ to
              · obtain rfl : z = 1 := by rw [hz.out]; simp [h6]
                clear hz h0
                go_enter Try.func25, Try.ntmps25
                go_wp2_with (go_at_call 36; refine (hcon _).mono ?_; rintro e w' ⟨rfl, rfl⟩)
                go_ret
                exact ⟨rfl, Read.mk _ _⟩
              ·
                obtain rfl : z = 0 := by rw [hz.out]; simp [h0, h1, h2, h3, h4, h5, h6]
                clear hz h0
                go_enter Try.func25, Try.ntmps25
                go_wp2_with (go_at_call 36; refine (hcon _).mono ?_; rintro e w' ⟨rfl, rfl⟩)
                go_ret
                exact ⟨rfl, Read.mk _ _⟩
  · have hd : decide (0 ≤ t ∧ t ≤ 4611686018427387903) = false := by simpa using h0
    rw [hd] at hcon
    clear hd
    obtain rfl : z = 1 := by rw [hz.out, if_neg (fun h => h0 h.1)]
    clear hz h0
    go_enter Try.func25, Try.ntmps25
    go_wp2_with (go_at_call 36; refine (hcon _).mono ?_; rintro e w' ⟨rfl, rfl⟩)
    go_ret
    exact ⟨rfl, Read.mk _ _⟩

set_option maxHeartbeats 2000000 in
theorem rCheck_any (a : M) (w : World) : Calls Try.prog 29 #[a.val] w fun e w' => e = .returned (.int .i64 (chkM a)) ∧ Read w w' := by
  have hcon := fun w => rValid_any a.k.t w
  have hb := MsgAt.mk w a
  have hz : Hid (chkM a = if (0 ≤ a.k.t ∧ a.k.t ≤ 4611686018427387903) ∧ ¬ a.k.f < -1 ∧ ¬ 16 ≤ a.k.f ∧ ¬ a.k.s < 0 ∧ ¬ a.u < 0 ∧ ¬ a.to < 0 ∧ ¬ 16 ≤ a.to then 0 else 1) := rfl
  generalize chkM a = z at hz ⊢
  obtain ⟨⟨t, f, s⟩, to, v, u, an⟩ := a
  simp only at hz hb
  simp only [M.val] at hcon ⊢
  by_cases h0 : 0 ≤ t ∧ t ≤ 4611686018427387903
  · have hd : decide (0 ≤ t ∧ t ≤ 4611686018427387903) = true := by simp [h0]
    rw [hd] at hcon
    clear hd
    by_cases h1 : f < -1
    · obtain rfl : z = 1 := by rw [hz.out]; simp [h1]
      clear hz h0
      go_enter Try.func29, Try.ntmps29
      go_wp2_with (go_at_call 38; refine (hcon _).mono ?_; rintro e w' ⟨rfl, rfl⟩)
      go_ret
      exact ⟨rfl, Read.mk _ _⟩
    ·
      by_cases h2 : 16 ≤ f
      · obtain rfl : z = 1 := by rw [hz.out]; simp [h2]
        clear hz h0
        go_enter Try.func29, Try.ntmps29
        go_wp2_with (go_at_call 38; refine (hcon _).mono ?_; rintro e w' ⟨rfl, rfl⟩)
        go_ret
        exact ⟨rfl, Read.mk _ _⟩
      ·
        by_cases h3 : s < 0
        · obtain rfl : z = 1 := by rw [hz.out]; simp [h3]
          clear hz h0
          go_enter Try.func29, Try.ntmps29
          go_wp2_with (go_at_call 38; refine (hcon _).mono ?_; rintro e w' ⟨rfl, rfl⟩)
          go_ret
          exact ⟨rfl, Read.mk _ _⟩
        ·
          by_cases h4 : u < 0
          · obtain rfl : z = 1 := by rw [hz.out]; simp [h4]
            clear hz h0
            go_enter Try.func29, Try.ntmps29
            go_wp2_with (go_at_call 38; refine (hcon _).mono ?_; rintro e w' ⟨rfl, rfl⟩)
            go_ret
            exact ⟨rfl, Read.mk _ _⟩
          ·
            by_cases h5 : to < 0
            · obtain rfl : z = 1 := by rw [hz.out]; simp [h5]
              clear hz h0
              go_enter Try.func29, Try.ntmps29
              go_wp2_with (go_at_call 38; refine (hcon _).mono ?_; rintro e w' ⟨rfl, rfl⟩)
              go_ret
              exact ⟨rfl, Read.mk _ _⟩
            ·
              by_cases h6 : 16 ≤ to
              · obtain rfl : z = 1 := by rw [hz.out]; simp [h6]
                clear hz h0
                go_enter Try.func29, Try.ntmps29
                go_wp2_with (go_at_call 38; refine (hcon _).mono ?_; rintro e w' ⟨rfl, rfl⟩)
                go_ret
                exact ⟨rfl, Read.mk _ _⟩
              ·
                obtain rfl : z = 0 := by rw [hz.out]; simp [h0, h1, h2, h3, h4, h5, h6]
                clear hz h0
                go_enter Try.func29, Try.ntmps29
                go_wp2_with (go_at_call 38; refine (hcon _).mono ?_; rintro e w' ⟨rfl, rfl⟩)
                go_ret
                exact ⟨rfl, Read.mk _ _⟩
  · have hd : decide (0 ≤ t ∧ t ≤ 4611686018427387903) = false := by simpa using h0
    rw [hd] at hcon
    clear hd
    obtain rfl : z = 1 := by rw [hz.out, if_neg (fun h => h0 h.1)]
    clear hz h0
    go_enter Try.func29, Try.ntmps29
    go_wp2_with (go_at_call 38; refine (hcon _).mono ?_; rintro e w' ⟨rfl, rfl⟩)
    go_ret
    exact ⟨rfl, Read.mk _ _⟩

end Go.Proofs.Ytjbammgnkegecaa
