/-
  The order of keys and the check of messages, the program's and the document's, for a seat that has package code as well.
-/
import Derived.Test.YtghbdpjegmdhbaaDoorMsg
namespace Go.Proofs.YtghbdpjegmdhbaaDoor
open Go.ChangeShapes Go.WideShapes Go.ChangeAt Go.RowKit Go.Sort
theorem cmpK_t {a b : K} (h : a.t ≠ b.t) : cmpK a b = sgn a.t b.t := by simp [cmpK, h]
theorem cmpK_f {a b : K} (h : a.t = b.t) (h' : a.f ≠ b.f) : cmpK a b = sgn a.f b.f := by simp [cmpK, h, h']
theorem cmpK_s {a b : K} (h : a.t = b.t) (h' : a.f = b.f) : cmpK a b = sgn a.s b.s := by simp [cmpK, h, h']

theorem eCompare_any (a b : K) (w : World) : Calls Tryd.prog 19 #[a.val, b.val] w fun e w' => e = .returned (.int .i64 (cmpK a b)) ∧ Read w w' := by
  have he := fun w => eqlK a b w
  by_cases h : a = b
  · have hd : decide (a = b) = true := by simpa using h
    have hr : cmpK a b = 0 := by subst h; simp [cmpK, sgn]
    rw [hd] at he
    rw [hr]
    clear h hd hr
    obtain ⟨t, f, s⟩ := a
    obtain ⟨t', f', s'⟩ := b
    simp only [K.val] at he ⊢
    go_enter Tryd.func19, Tryd.ntmps19
    go_wp2
    go_ret
    exact ⟨rfl, Read.alloc _ (Read.mk _ _)⟩
  · have hd : decide (a = b) = false := by simpa using h
    rw [hd] at he
    by_cases ht : a.t = b.t
    · by_cases hf : a.f = b.f
      · rw [cmpK_s ht hf]
        clear h hd
        obtain ⟨t, f, s⟩ := a
        obtain ⟨t', f', s'⟩ := b
        simp only at ht hf
        subst ht hf
        simp only [K.val] at he ⊢
        have hcon := fun w => cmpint_any s s' w
        generalize sgn s s' = r at hcon ⊢
        go_enter Tryd.func19, Tryd.ntmps19
        go_wp2_with (go_at_call 33; refine (hcon _).mono ?_; rintro e w' ⟨rfl, rfl⟩)
        go_ret
        exact ⟨rfl, Read.alloc _ (Read.mk _ _)⟩
      · rw [cmpK_f ht hf]
        clear h hd
        obtain ⟨t, f, s⟩ := a
        obtain ⟨t', f', s'⟩ := b
        simp only at ht hf
        subst ht
        simp only [K.val] at he ⊢
        have hcon := fun w => cmpint_any f f' w
        generalize sgn f f' = r at hcon ⊢
        go_enter Tryd.func19, Tryd.ntmps19
        go_wp2_with (go_at_call 33; refine (hcon _).mono ?_; rintro e w' ⟨rfl, rfl⟩)
        go_ret
        exact ⟨rfl, Read.alloc _ (Read.mk _ _)⟩
    · rw [cmpK_t ht]
      clear h hd
      obtain ⟨t, f, s⟩ := a
      obtain ⟨t', f', s'⟩ := b
      simp only at ht
      simp only [K.val] at he ⊢
      have hcon := fun w => cmp64_any t t' w
      generalize sgn t t' = r at hcon ⊢
      go_enter Tryd.func19, Tryd.ntmps19
      go_wp2_with (go_at_call 32; refine (hcon _).mono ?_; rintro e w' ⟨rfl, rfl⟩)
      go_ret
      exact ⟨rfl, Read.alloc _ (Read.mk _ _)⟩


def M.cells (m : M) : Array Value := #[.int .i64 m.k.t, .int .i64 m.k.f, .int .i64 m.k.s, .int .i64 m.to, .int .i64 m.v, .int .i64 m.u, .bool m.anti]
/-- Where a message lies. -/
def MsgAt (w : World) (b o : Nat) (m : M) : Prop :=
  b < w.heap.size ∧ w.cell? ⟨b, o, none⟩ = some (.int .i64 m.k.t) ∧ w.cell? ⟨b, o + 1, none⟩ = some (.int .i64 m.k.f) ∧ w.cell? ⟨b, o + 2, none⟩ = some (.int .i64 m.k.s) ∧ w.cell? ⟨b, o + 3, none⟩ = some (.int .i64 m.to) ∧
    w.cell? ⟨b, o + 4, none⟩ = some (.int .i64 m.v) ∧ w.cell? ⟨b, o + 5, none⟩ = some (.int .i64 m.u) ∧ w.cell? ⟨b, o + 6, none⟩ = some (.bool m.anti)
theorem MsgAt.read {w w' : World} {b o : Nat} {m : M} (h : MsgAt w b o m) (hr : Read w w') : MsgAt w' b o m := by
  obtain ⟨hb, h0, h1, h2, h3, h4, h5, h6⟩ := h
  exact ⟨Nat.lt_of_lt_of_le hb hr.size, hr.cell hb h0, hr.cell hb h1, hr.cell hb h2, hr.cell hb h3, hr.cell hb h4, hr.cell hb h5, hr.cell hb h6⟩
theorem MsgAt.mk (w : World) (m : M) : MsgAt (w.alloc (.cells m.cells 33)) w.heap.size 0 m := by
  refine ⟨by simp, ?_, ?_, ?_, ?_, ?_, ?_, ?_⟩ <;> simp [M.cells]

theorem vValid_any (t : Int) (w : World) : Calls Tryd.prog 31 #[.int .i64 t] w fun e w' => e = .returned (.bool (decide (0 ≤ t ∧ t ≤ 4611686018427387903))) ∧ w = w' := by
  by_cases h0 : 0 ≤ t
  · by_cases h1 : t ≤ 4611686018427387903
    · have hd : decide (0 ≤ t ∧ t ≤ 4611686018427387903) = true := by simp [h0, h1]
      rw [hd]
      go_enter Tryd.func31, Tryd.ntmps31
      go_wp2
      go_ret
      exact ⟨rfl, rfl⟩
    · have hd : decide (0 ≤ t ∧ t ≤ 4611686018427387903) = false := by simp [h1]
      rw [hd]
      go_enter Tryd.func31, Tryd.ntmps31
      go_wp2
      go_ret
      exact ⟨rfl, rfl⟩
  · have hd : decide (0 ≤ t ∧ t ≤ 4611686018427387903) = false := by simp [h0]
    rw [hd]
    go_enter Tryd.func31, Tryd.ntmps31
    go_wp2
    go_ret
    exact ⟨rfl, rfl⟩

theorem rValid_any (t : Int) (w : World) : Calls Tryd.prog 37 #[.int .i64 t] w fun e w' => e = .returned (.bool (decide (0 ≤ t ∧ t ≤ 4611686018427387903))) ∧ w = w' := by
  by_cases h0 : 0 ≤ t
  · by_cases h1 : t ≤ 4611686018427387903
    · have hd : decide (0 ≤ t ∧ t ≤ 4611686018427387903) = true := by simp [h0, h1]
      rw [hd]
      go_enter Tryd.func37, Tryd.ntmps37
      go_wp2
      go_ret
      exact ⟨rfl, rfl⟩
    · have hd : decide (0 ≤ t ∧ t ≤ 4611686018427387903) = false := by simp [h1]
      rw [hd]
      go_enter Tryd.func37, Tryd.ntmps37
      go_wp2
      go_ret
      exact ⟨rfl, rfl⟩
  · have hd : decide (0 ≤ t ∧ t ≤ 4611686018427387903) = false := by simp [h0]
    rw [hd]
    go_enter Tryd.func37, Tryd.ntmps37
    go_wp2
    go_ret
    exact ⟨rfl, rfl⟩

/-- A message that may be. -/
def chkM (m : M) : Int := if (0 ≤ m.k.t ∧ m.k.t ≤ 4611686018427387903) ∧ ¬ m.k.f < -1 ∧ ¬ 16 ≤ m.k.f ∧ ¬ m.k.s < 0 ∧ ¬ m.u < 0 ∧ ¬ m.to < 0 ∧ ¬ 16 ≤ m.to then 0 else 1

set_option maxHeartbeats 2000000 in
theorem eCheck_any (a : M) (w : World) : Calls Tryd.prog 18 #[a.val] w fun e w' => e = .returned (.int .i64 (chkM a)) ∧ Read w w' := by
  have hcon := fun w => vValid_any a.k.t w
  have hb := MsgAt.mk w a
  have hz : Hid (chkM a = if (0 ≤ a.k.t ∧ a.k.t ≤ 4611686018427387903) ∧ ¬ a.k.f < -1 ∧ ¬ 16 ≤ a.k.f ∧ ¬ a.k.s < 0 ∧ ¬ a.u < 0 ∧ ¬ a.to < 0 ∧ ¬ 16 ≤ a.to then 0 else 1) := rfl
  generalize chkM a = z at hz ⊢
  obtain ⟨⟨t, f, s⟩, to, v, u, an⟩ := a
  simp only at hz hb
  simp only [M.val] at hcon ⊢
  by_cases h0 : 0 ≤ t ∧ t ≤ 4611686018427387903
  · have hd : decide (0 ≤ t ∧ t ≤ 4611686018427387903) = true := by simp [h0]
    rw [hd] at hcon
    clear hd
    by_cases h1 : f < -1
    · obtain rfl : z = 1 := by rw [hz.out]; simp [h1]
      clear hz h0
      go_enter Tryd.func18, Tryd.ntmps18
      go_wp2_with (go_at_call 31; refine (hcon _).mono ?_; rintro e w' ⟨rfl, rfl⟩)
      go_ret
      exact ⟨rfl, Read.mk _ _⟩
    ·
      by_cases h2 : 16 ≤ f
      · obtain rfl : z = 1 := by rw [hz.out]; simp [h2]
        clear hz h0
        go_enter Tryd.func18, Tryd.ntmps18
        go_wp2_with (go_at_call 31; refine (hcon _).mono ?_; rintro e w' ⟨rfl, rfl⟩)
        go_ret
        exact ⟨rfl, Read.mk _ _⟩
      ·
        by_cases h3 : s < 0
        · obtain rfl : z = 1 := by rw [hz.out]; simp [h3]
          clear hz h0
          go_enter Tryd.func18, Tryd.ntmps18
          go_wp2_with (go_at_call 31; refine (hcon _).mono ?_; rintro e w' ⟨rfl, rfl⟩)
          go_ret
          exact ⟨rfl, Read.mk _ _⟩
        ·
          by_cases h4 : u < 0
          · obtain rfl : z = 1 := by rw [hz.out]; simp [h4]
            clear hz h0
            go_enter Tryd.func18, Tryd.ntmps18
            go_wp2_with (go_at_call 31; refine (hcon _).mono ?_; rintro e w' ⟨rfl, rfl⟩)
            go_ret
            exact ⟨rfl, Read.mk _ _⟩
          ·
            by_cases h5 : to < 0
            · obtain rfl : z = 1 := by rw [hz.out]; simp [h5]
              clear hz h0
              go_enter Tryd.func18, Tryd.ntmps18
              go_wp2_with (go_at_call 31; refine (hcon _).mono ?_; rintro e w' ⟨rfl, rfl⟩)
              go_ret
              exact ⟨rfl, Read.mk _ _⟩
            ·
              by_cases h6 : 16 ≤ to
              · obtain rfl : z = 1 := by rw [hz.out]; simp [h6]
                clear hz h0
                go_enter Tryd.func18, Tryd.ntmps18
                go_wp2_with (go_at_call 31; refine (hcon _).mono ?_; rintro e w' ⟨rfl, rfl⟩)
                go_ret
                exact ⟨rfl, Read.mk _ _⟩
              ·
                obtain rfl : z = 0 := by rw [hz.out]; simp [h0, h1, h2, h3, h4, h5, h6]
                clear hz h0
                go_enter Tryd.func18, Tryd.ntmps18
                go_wp2_with (go_at_call 31; refine (hcon _).mono ?_; rintro e w' ⟨rfl, rfl⟩)
                go_ret
                exact ⟨rfl, Read.mk _ _⟩
  · have hd : decide (0 ≤ t ∧ t ≤ 4611686018427387903) = false := by simpa using h0
    rw [hd] at hcon
    clear hd
    obtain rfl : z = 1 := by rw [hz.out, if_neg (fun h => h0 h.1)]
    clear hz h0
    go_enter Tryd.func18, Tryd.ntmps18
    go_wp2_with (go_at_call 31; refine (hcon _).mono ?_; rintro e w' ⟨rfl, rfl⟩)
    go_ret
    exact ⟨rfl, Read.mk _ _⟩

set_option maxHeartbeats 2000000 in
theorem rCheck_any (a : M) (w : World) : Calls Tryd.prog 23 #[a.val] w fun e w' => e = .returned (.int .i64 (chkM a)) ∧ Read w w' := by
  have hcon := fun w => rValid_any a.k.t w
  have hb := MsgAt.mk w a
  have hz : Hid (chkM a = if (0 ≤ a.k.t ∧ a.k.t ≤ 4611686018427387903) ∧ ¬ a.k.f < -1 ∧ ¬ 16 ≤ a.k.f ∧ ¬ a.k.s < 0 ∧ ¬ a.u < 0 ∧ ¬ a.to < 0 ∧ ¬ 16 ≤ a.to then 0 else 1) := rfl
  generalize chkM a = z at hz ⊢
  obtain ⟨⟨t, f, s⟩, to, v, u, an⟩ := a
  simp only at hz hb
  simp only [M.val] at hcon ⊢
  by_cases h0 : 0 ≤ t ∧ t ≤ 4611686018427387903
  · have hd : decide (0 ≤ t ∧ t ≤ 4611686018427387903) = true := by simp [h0]
    rw [hd] at hcon
    clear hd
    by_cases h1 : f < -1
    · obtain rfl : z = 1 := by rw [hz.out]; simp [h1]
      clear hz h0
      go_enter Tryd.func23, Tryd.ntmps23
      go_wp2_with (go_at_call 37; refine (hcon _).mono ?_; rintro e w' ⟨rfl, rfl⟩)
      go_ret
      exact ⟨rfl, Read.mk _ _⟩
    ·
      by_cases h2 : 16 ≤ f
      · obtain rfl : z = 1 := by rw [hz.out]; simp [h2]
        clear hz h0
        go_enter Tryd.func23, Tryd.ntmps23
        go_wp2_with (go_at_call 37; refine (hcon _).mono ?_; rintro e w' ⟨rfl, rfl⟩)
        go_ret
        exact ⟨rfl, Read.mk _ _⟩
      ·
        by_cases h3 : s < 0
        · obtain rfl : z = 1 := by rw [hz.out]; simp [h3]
          clear hz h0
          go_enter Tryd.func23, Tryd.ntmps23
          go_wp2_with (go_at_call 37; refine (hcon _).mono ?_; rintro e w' ⟨rfl, rfl⟩)
          go_ret
          exact ⟨rfl, Read.mk _ _⟩
        ·
          by_cases h4 : u < 0
          · obtain rfl : z = 1 := by rw [hz.out]; simp [h4]
            clear hz h0
            go_enter Tryd.func23, Tryd.ntmps23
            go_wp2_with (go_at_call 37; refine (hcon _).mono ?_; rintro e w' ⟨rfl, rfl⟩)
            go_ret
            exact ⟨rfl, Read.mk _ _⟩
          ·
            by_cases h5 : to < 0
            · obtain rfl : z = 1 := by rw [hz.out]; simp [h5]
              clear hz h0
              go_enter Tryd.func23, Tryd.ntmps23
              go_wp2_with (go_at_call 37; refine (hcon _).mono ?_; rintro e w' ⟨rfl, rfl⟩)
              go_ret
              exact ⟨rfl, Read.mk _ _⟩
            ·
              by_cases h6 : 16 ≤ to
              · obtain rfl : z = 1 := by rw [hz.out]; simp [h6]
                clear hz h0
                go_enter Tryd.func23, Tryd.ntmps23
                go_wp2_with (go_at_call 37; refine (hcon _).mono ?_; rintro e w' ⟨rfl, rfl⟩)
                go_ret
                exact ⟨rfl, Read.mk _ _⟩
              ·
                obtain rfl : z = 0 := by rw [hz.out]; simp [h0, h1, h2, h3, h4, h5, h6]
                clear hz h0
                go_enter Tryd.func23, Tryd.ntmps23
                go_wp2_with (go_at_call 37; refine (hcon _).mono ?_; rintro e w' ⟨rfl, rfl⟩)
                go_ret
                exact ⟨rfl, Read.mk _ _⟩
  · have hd : decide (0 ≤ t ∧ t ≤ 4611686018427387903) = false := by simpa using h0
    rw [hd] at hcon
    clear hd
    obtain rfl : z = 1 := by rw [hz.out, if_neg (fun h => h0 h.1)]
    clear hz h0
    go_enter Tryd.func23, Tryd.ntmps23
    go_wp2_with (go_at_call 37; refine (hcon _).mono ?_; rintro e w' ⟨rfl, rfl⟩)
    go_ret
    exact ⟨rfl, Read.mk _ _⟩

end Go.Proofs.YtghbdpjegmdhbaaDoor
