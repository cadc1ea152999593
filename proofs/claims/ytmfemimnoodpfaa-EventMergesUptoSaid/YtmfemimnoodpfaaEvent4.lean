/-
  The contracts of the functions of package event over messages, and of the document's own answers for them, each at every message.
-/
import Derived.Test.YtmfemimnoodpfaaEvent3
namespace Go.Proofs.Ytmfemimnoodpfaa
open Go.ChangeShapes Go.WideShapes Go.ChangeAt Go.RowKit Go.Sort

theorem rOne_any (a b : M) (w : World) : Calls Try.prog 19 #[a.val, b.val] w fun e w' => e = .returned (.bool (oneM a b)) ∧ Read w w' := by
  have hz : Hid (oneM a b = (decide (a.k.f = b.k.f) && decide (a.u = b.u))) := rfl
  generalize oneM a b = z at hz ⊢
  by_cases h : a.k.f = b.k.f
  · obtain rfl : z = (a.u == b.u) := by rw [hz.out]; simp [h]; rfl
    clear hz
    obtain ⟨⟨t, f, s⟩, to, v, u, an⟩ := a
    obtain ⟨⟨t', f', s'⟩, to', v', u', an'⟩ := b
    simp only at h
    subst h
    simp only [M.val]
    go_enter Try.func19, Try.ntmps19
    go_wp2
    go_ret
    exact ⟨rfl, Read.two _ _ _⟩
  · obtain rfl : z = false := by rw [hz.out]; simp [h]
    clear hz
    obtain ⟨⟨t, f, s⟩, to, v, u, an⟩ := a
    obtain ⟨⟨t', f', s'⟩, to', v', u', an'⟩ := b
    simp only at h
    have h' : (f == f') = false := by simpa using h
    simp only [M.val]
    go_enter Try.func19, Try.ntmps19
    go_wp2
    go_ret
    exact ⟨rfl, Read.two _ _ _⟩

theorem eTwins_any (a b : M) (w : World) : Calls Try.prog 20 #[a.val, b.val] w fun e w' => e = .returned (.bool (twinsM a b)) ∧ Read w w' := by
  have hcon := fun w => eOne_any a b w
  have hz : Hid (twinsM a b = (oneM a b && (a.anti != b.anti))) := rfl
  obtain ⟨hl, hr⟩ := MsgAt.two w a b
  generalize twinsM a b = z at hz ⊢
  generalize oneM a b = o at hcon hz
  cases o
  · obtain rfl : z = false := by rw [hz.out]; rfl
    clear hz
    obtain ⟨⟨t, f, s⟩, to, v, u, an⟩ := a
    obtain ⟨⟨t', f', s'⟩, to', v', u', an'⟩ := b
    simp only [M.val] at hcon ⊢
    go_enter Try.func20, Try.ntmps20
    go_wp2_with (go_at_call 18; refine (hcon _).mono ?_; rintro e w' ⟨rfl, hrd⟩)
    go_ret
    exact ⟨rfl, (Read.two _ _ _).trans hrd⟩
  · obtain rfl : z = (a.anti != b.anti) := by rw [hz.out]; rfl
    clear hz
    obtain ⟨⟨t, f, s⟩, to, v, u, an⟩ := a
    obtain ⟨⟨t', f', s'⟩, to', v', u', an'⟩ := b
    simp only [M.val] at hcon ⊢
    go_enter Try.func20, Try.ntmps20
    go_wp2_with (go_at_call 18; refine (hcon _).mono ?_; rintro e w' ⟨rfl, hrd⟩; obtain ⟨_, _, _, _, _, _, _, x6⟩ := hl.read hrd; obtain ⟨_, _, _, _, _, _, _, y6⟩ := hr.read hrd)
    go_ret
    exact ⟨rfl, (Read.two _ _ _).trans hrd⟩
theorem eTwin_any (a : M) (w : World) : Calls Try.prog 22 #[a.val] w fun e w' => e = .returned (twinM a).val ∧ Read w w' := by
  obtain ⟨⟨t, f, s⟩, to, v, u, an⟩ := a
  simp only [M.val, twinM]
  go_enter Try.func22, Try.ntmps22
  go_wp2
  refine bodyPost_ret (v := .agg #[.int .i64 t, .int .i64 f, .int .i64 s, .int .i64 to, .int .i64 v, .int .i64 u, .bool !an]) (by simp [results, Try.results22, go_sem]) rfl ⟨rfl, ?_⟩
  exact Read.two _ _ _

theorem rTwins_any (a b : M) (w : World) : Calls Try.prog 21 #[a.val, b.val] w fun e w' => e = .returned (.bool (twinsM a b)) ∧ Read w w' := by
  have hcon := fun w => rOne_any a b w
  have hz : Hid (twinsM a b = (oneM a b && (a.anti != b.anti))) := rfl
  obtain ⟨hl, hr⟩ := MsgAt.two w a b
  generalize twinsM a b = z at hz ⊢
  generalize oneM a b = o at hcon hz
  cases o
  · obtain rfl : z = false := by rw [hz.out]; rfl
    clear hz
    obtain ⟨⟨t, f, s⟩, to, v, u, an⟩ := a
    obtain ⟨⟨t', f', s'⟩, to', v', u', an'⟩ := b
    simp only [M.val] at hcon ⊢
    go_enter Try.func21, Try.ntmps21
    go_wp2_with (go_at_call 19; refine (hcon _).mono ?_; rintro e w' ⟨rfl, hrd⟩)
    go_ret
    exact ⟨rfl, (Read.two _ _ _).trans hrd⟩
  · obtain rfl : z = (a.anti != b.anti) := by rw [hz.out]; rfl
    clear hz
    obtain ⟨⟨t, f, s⟩, to, v, u, an⟩ := a
    obtain ⟨⟨t', f', s'⟩, to', v', u', an'⟩ := b
    simp only [M.val] at hcon ⊢
    go_enter Try.func21, Try.ntmps21
    go_wp2_with (go_at_call 19; refine (hcon _).mono ?_; rintro e w' ⟨rfl, hrd⟩; obtain ⟨_, _, _, _, _, _, _, x6⟩ := hl.read hrd; obtain ⟨_, _, _, _, _, _, _, y6⟩ := hr.read hrd)
    go_ret
    exact ⟨rfl, (Read.two _ _ _).trans hrd⟩
theorem rTwin_any (a : M) (w : World) : Calls Try.prog 23 #[a.val] w fun e w' => e = .returned (twinM a).val ∧ Read w w' := by
  obtain ⟨⟨t, f, s⟩, to, v, u, an⟩ := a
  simp only [M.val, twinM]
  go_enter Try.func23, Try.ntmps23
  go_wp2
  refine bodyPost_ret (v := .agg #[.int .i64 t, .int .i64 f, .int .i64 s, .int .i64 to, .int .i64 v, .int .i64 u, .bool !an]) (by simp [results, Try.results23, go_sem]) rfl ⟨rfl, ?_⟩
  exact Read.two _ _ _

theorem vValid_any (t : Int) (w : World) : Calls Try.prog 35 #[.int .i64 t] w fun e w' => e = .returned (.bool (decide (0 ≤ t ∧ t ≤ 4611686018427387903))) ∧ w = w' := by
  by_cases h0 : 0 ≤ t
  · by_cases h1 : t ≤ 4611686018427387903
    · have hd : decide (0 ≤ t ∧ t ≤ 4611686018427387903) = true := by simp [h0, h1]
      rw [hd]
      go_enter Try.func35, Try.ntmps35
      go_wp2
      go_ret
      exact ⟨rfl, rfl⟩
    · have hd : decide (0 ≤ t ∧ t ≤ 4611686018427387903) = false := by simp [h1]
      rw [hd]
      go_enter Try.func35, Try.ntmps35
      go_wp2
      go_ret
      exact ⟨rfl, rfl⟩
  · have hd : decide (0 ≤ t ∧ t ≤ 4611686018427387903) = false := by simp [h0]
    rw [hd]
    go_enter Try.func35, Try.ntmps35
    go_wp2
    go_ret
    exact ⟨rfl, rfl⟩

theorem rValid_any (t : Int) (w : World) : Calls Try.prog 36 #[.int .i64 t] w fun e w' => e = .returned (.bool (decide (0 ≤ t ∧ t ≤ 4611686018427387903))) ∧ w = w' := by
  by_cases h0 : 0 ≤ t
  · by_cases h1 : t ≤ 4611686018427387903
    · have hd : decide (0 ≤ t ∧ t ≤ 4611686018427387903) = true := by simp [h0, h1]
      rw [hd]
      go_enter Try.func36, Try.ntmps36
      go_wp2
      go_ret
      exact ⟨rfl, rfl⟩
    · have hd : decide (0 ≤ t ∧ t ≤ 4611686018427387903) = false := by simp [h1]
      rw [hd]
      go_enter Try.func36, Try.ntmps36
      go_wp2
      go_ret
      exact ⟨rfl, rfl⟩
  · have hd : decide (0 ≤ t ∧ t ≤ 4611686018427387903) = false := by simp [h0]
    rw [hd]
    go_enter Try.func36, Try.ntmps36
    go_wp2
    go_ret
    exact ⟨rfl, rfl⟩

/-- A message that may be. -/
def chkM (m : M) : Int := if (0 ≤ m.k.t ∧ m.k.t ≤ 4611686018427387903) ∧ ¬ m.k.f < -1 ∧ ¬ 16 ≤ m.k.f ∧ ¬ m.k.s < 0 ∧ ¬ m.u < 0 ∧ ¬ m.to < 0 ∧ ¬ 16 ≤ m.to then 0 else 1

set_option maxHeartbeats 2000000 in
theorem eCheck_any (a : M) (w : World) : Calls Try.prog 24 #[a.val] w fun e w' => e = .returned (.int .i64 (chkM a)) ∧ Read w w' := by
  have hcon := fun w => vValid_any a.k.t w
  have hb := MsgAt.mk w a
  have hz : Hid (chkM a = if (0 ≤ a.k.t ∧ a.k.t ≤ 4611686018427387903) ∧ ¬ a.k.f < -1 ∧ ¬ 16 ≤ a.k.f ∧ ¬ a.k.s < 0 ∧ ¬ a.u < 0 ∧ ¬ a.to < 0 ∧ ¬ 16 ≤ a.to then 0 else 1) := rfl
  generalize chkM a = z at hz ⊢
  obtain ⟨⟨t, f, s⟩, to, v, u, an⟩ := a
  simp only at hz hb
  simp only [M.val] at hcon ⊢
  by_cases h0 : 0 ≤ t ∧ t ≤ 4611686018427387903
  · have hd : decide (0 ≤ t ∧ t ≤ 4611686018427387903) = true := by simp [h0]
    rw [hd] at hcon
    clear hd
    by_cases h1 : f < -1
    · obtain rfl : z = 1 := by rw [hz.out]; simp [h1]
      clear hz h0
      go_enter Try.func24, Try.ntmps24
      go_wp2_with (go_at_call 35; refine (hcon _).mono ?_; rintro e w' ⟨rfl, rfl⟩)
      go_ret
      exact ⟨rfl, Read.mk _ _⟩
    ·
      by_cases h2 : 16 ≤ f
      · obtain rfl : z = 1 := by rw [hz.out]; simp [h2]
        clear hz h0
        go_enter Try.func24, Try.ntmps24
        go_wp2_with (go_at_call 35; refine (hcon _).mono ?_; rintro e w' ⟨rfl, rfl⟩)
        go_ret
        exact ⟨rfl, Read.mk _ _⟩
      ·
        by_cases h3 : s < 0
        · obtain rfl : z = 1 := by rw [hz.out]; simp [h3]
          clear hz h0
          go_enter Try.func24, Try.ntmps24
          go_wp2_with (go_at_call 35; refine (hcon _).mono ?_; rintro e w' ⟨rfl, rfl⟩)
          go_ret
          exact ⟨rfl, Read.mk _ _⟩
        ·
          by_cases h4 : u < 0
          · obtain rfl : z = 1 := by rw [hz.out]; simp [h4]
            clear hz h0
            go_enter Try.func24, Try.ntmps24
            go_wp2_with (go_at_call 35; refine (hcon _).mono ?_; rintro e w' ⟨rfl, rfl⟩)
            go_ret
            exact ⟨rfl, Read.mk _ _⟩
          ·
            by_cases h5 : to < 0
            · obtain rfl : z = 1 := by rw [hz.out]; simp [h5]
              clear hz h0
              go_enter Try.func24, Try.ntmps24
              go_wp2_with (go_at_call 35; refine (hcon _).mono ?_; rintro e w' ⟨rfl, rfl⟩)
              go_ret
              exact ⟨rfl, Read.mk _ _⟩
            ·
              by_cases h6 : 16 ≤ to
              · obtain rfl : z = 1 := by rw [hz.out]; simp [h6]
                clear hz h0
                go_enter Try.func24, Try.ntmps24
                go_wp2_with (go_at_call 35; refine (hcon _).mono ?_; rintro e w' ⟨rfl, rfl⟩)
                go_ret
                exact ⟨rfl, Read.mk _ _⟩
              ·
                obtain rfl : z = 0 := by rw [hz.out]; simp [h0, h1, h2, h3, h4, h5, h6]
                clear hz h0
                go_enter Try.func24, Try.ntmps24
                go_wp2_with (go_at_call 35; refine (hcon _).mono ?_; rintro e w' ⟨rfl, rfl⟩)
                go_ret
                exact ⟨rfl, Read.mk _ _⟩
  · have hd : decide (0 ≤ t ∧ t ≤ 4611686018427387903) = false := by simpa using h0
    rw [hd] at hcon
    clear hd
    obtain rfl : z = 1 := by rw [hz.out, if_neg (fun h => h0 h.1)]
    clear hz h0
    go_enter Try.func24, Try.ntmps24
    go_wp2_with (go_at_call 35; refine (hcon _).mono ?_; rintro e w' ⟨rfl, rfl⟩)
    go_ret
    exact ⟨rfl, Read.mk _ _⟩

set_option maxHeartbeats 2000000 in
theorem rCheck_any (a : M) (w : World) : Calls Try.prog 25 #[a.val] w fun e w' => e = .returned (.int .i64 (chkM a)) ∧ Read w w' := by
  have hcon := fun w => rValid_any a.k.t w
  have hb := MsgAt.mk w a
  have hz : Hid (chkM a = if (0 ≤ a.k.t ∧ a.k.t ≤ 4611686018427387903) ∧ ¬ a.k.f < -1 ∧ ¬ 16 ≤ a.k.f ∧ ¬ a.k.s < 0 ∧ ¬ a.u < 0 ∧ ¬ a.to < 0 ∧ ¬ 16 ≤ a.to then 0 else 1) := rfl
  generalize chkM a = z at hz ⊢
  obtain ⟨⟨t, f, s⟩, to, v, u, an⟩ := a
  simp only at hz hb
  simp only [M.val] at hcon ⊢
  by_cases h0 : 0 ≤ t ∧ t ≤ 4611686018427387903
  · have hd : decide (0 ≤ t ∧ t ≤ 4611686018427387903) = true := by simp [h0]
    rw [hd] at hcon
    clear hd
    by_cases h1 : f < -1
    · obtain rfl : z = 1 := by rw [hz.out]; simp [h1]
      clear hz h0
      go_enter Try.func25, Try.ntmps25
      go_wp2_with (go_at_call 36; refine (hcon _).mono ?_; rintro e w' ⟨rfl, rfl⟩)
      go_ret
      exact ⟨rfl, Read.mk _ _⟩
    ·
      by_cases h2 : 16 ≤ f
      · obtain rfl : z = 1 := by rw [hz.out]; simp [h2]
        clear hz h0
        go_enter Try.func25, Try.ntmps25
        go_wp2_with (go_at_call 36; refine (hcon _).mono ?_; rintro e w' ⟨rfl, rfl⟩)
        go_ret
        exact ⟨rfl, Read.mk _ _⟩
      ·
        by_cases h3 : s < 0
        · obtain rfl : z = 1 := by rw [hz.out]; simp [h3]
          clear hz h0
          go_enter Try.func25, Try.ntmps25
          go_wp2_with (go_at_call 36; refine (hcon _).mono ?_; rintro e w' ⟨rfl, rfl⟩)
          go_ret
          exact ⟨rfl, Read.mk _ _⟩
        ·
          by_cases h4 : u < 0
          · obtain rfl : z = 1 := by rw [hz.out]; simp [h4]
            clear hz h0
            go_enter Try.func25, Try.ntmps25
            go_wp2_with (go_at_call 36; refine (hcon _).mono ?_; rintro e w' ⟨rfl, rfl⟩)
            go_ret
            exact ⟨rfl, Read.mk _ _⟩
          ·
            by_cases h5 : to < 0
            · obtain rfl : z = 1 := by rw [hz.out]; simp [h5]
              clear hz h0
              go_enter Try.func25, Try.ntmps25
              go_wp2_with (go_at_call 36; refine (hcon _).mono ?_; rintro e w' ⟨rfl, rfl⟩)
              go_ret
              exact ⟨rfl, Read.mk _ _⟩
            ·
              by_cases h6 : 16 ≤ to
              · obtain rfl : z = 1 := by rw [hz.out]; simp [h6]
                clear hz h0
                go_enter Try.func25, Try.ntmps25
                go_wp2_with (go_at_call 36; refine (hcon _).mono ?_; rintro e w' ⟨rfl, rfl⟩)
                go_ret
                exact ⟨rfl, Read.mk _ _⟩
              ·
                obtain rfl : z = 0 := by rw [hz.out]; simp [h0, h1, h2, h3, h4, h5, h6]
                clear hz h0
                go_enter Try.func25, Try.ntmps25
                go_wp2_with (go_at_call 36; refine (hcon _).mono ?_; rintro e w' ⟨rfl, rfl⟩)
                go_ret
                exact ⟨rfl, Read.mk _ _⟩
  · have hd : decide (0 ≤ t ∧ t ≤ 4611686018427387903) = false := by simpa using h0
    rw [hd] at hcon
    clear hd
    obtain rfl : z = 1 := by rw [hz.out, if_neg (fun h => h0 h.1)]
    clear hz h0
    go_enter Try.func25, Try.ntmps25
    go_wp2_with (go_at_call 36; refine (hcon _).mono ?_; rintro e w' ⟨rfl, rfl⟩)
    go_ret
    exact ⟨rfl, Read.mk _ _⟩

end Go.Proofs.Ytmfemimnoodpfaa
