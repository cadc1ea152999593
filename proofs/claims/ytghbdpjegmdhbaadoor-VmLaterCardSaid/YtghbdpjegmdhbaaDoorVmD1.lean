/-
  The document's small functions of package vm: what an instruction makes of two numbers, and which states may be.
-/
import Derived.Test.YtghbdpjegmdhbaaDoorVmP
import Derived.Test.YtghbdpjegmdhbaaDoorDraw3
namespace Go.Proofs.YtghbdpjegmdhbaaDoor
open Go.ChangeShapes Go.WideShapes Go.ChangeAt Go.RowKit Go.Sort
set_option linter.unusedVariables false
set_option maxRecDepth 4000

theorem least_yes (b : Int) (h : b = -9223372036854775808) (w : World) : Calls Tryd.prog 66 #[.int .i64 b] w fun e w' => e = .returned (.bool true) ∧ w = w' := by
  subst h
  go_enter Tryd.func66, Tryd.ntmps66
  go_wp2
  go_ret
  exact ⟨rfl, rfl⟩
theorem least_no (b : Int) (h : ¬ b = -9223372036854775808) (w : World) : Calls Tryd.prog 66 #[.int .i64 b] w fun e w' => e = .returned (.bool false) ∧ w = w' := by
  have hb : (b == -9223372036854775808) = false := by simpa using h
  clear h
  go_enter Tryd.func66, Tryd.ntmps66
  go_wp2
  go_ret
  exact ⟨rfl, rfl⟩
/-- The instructions that make a number of two. -/
def twoB (op : Int) : Bool := decide (op = 3 ∨ op = 4 ∨ op = 5 ∨ op = 6 ∨ op = 7 ∨ op = 8 ∨ op = 9)
theorem math_3 (b c : Int) (w : World) : Calls Tryd.prog 40 #[.int .i64 3, .int .i64 b, .int .i64 c] w fun e w' => e = .returned (.int .i64 (wrap64 (b + c))) ∧ w = w' := by
  go_enter Tryd.func40, Tryd.ntmps40
  go_wp2
  go_ret
  exact ⟨rfl, rfl⟩
theorem math_4 (b c : Int) (w : World) : Calls Tryd.prog 40 #[.int .i64 4, .int .i64 b, .int .i64 c] w fun e w' => e = .returned (.int .i64 (wrap64 (b - c))) ∧ w = w' := by
  go_enter Tryd.func40, Tryd.ntmps40
  go_wp2
  go_ret
  exact ⟨rfl, rfl⟩
theorem math_5 (b c : Int) (w : World) : Calls Tryd.prog 40 #[.int .i64 5, .int .i64 b, .int .i64 c] w fun e w' => e = .returned (.int .i64 (wrap64 (b * c))) ∧ w = w' := by
  go_enter Tryd.func40, Tryd.ntmps40
  go_wp2
  go_ret
  exact ⟨rfl, rfl⟩
theorem math_8 (b c : Int) (w : World) : Calls Tryd.prog 40 #[.int .i64 8, .int .i64 b, .int .i64 c] w fun e w' => e = .returned (.int .i64 (if b < c then 1 else 0)) ∧ w = w' := by
  by_cases h : b < c
  all_goals
    simp only [h, if_true, if_false]
    go_enter Tryd.func40, Tryd.ntmps40
    go_wp2
    go_ret
    exact ⟨rfl, rfl⟩
theorem math_9 (b c : Int) (w : World) : Calls Tryd.prog 40 #[.int .i64 9, .int .i64 b, .int .i64 c] w fun e w' => e = .returned (.int .i64 (if b = c then 1 else 0)) ∧ w = w' := by
  by_cases h : b = c
  · subst h
    rw [if_pos rfl]
    go_enter Tryd.func40, Tryd.ntmps40
    go_wp2
    go_ret
    exact ⟨rfl, rfl⟩
  · rw [if_neg h]
    have hb : (b == c) = false := by simpa using h
    clear h
    go_enter Tryd.func40, Tryd.ntmps40
    go_wp2
    go_ret
    exact ⟨rfl, rfl⟩
theorem math_6 (b c : Int) (w : World) : Calls Tryd.prog 40 #[.int .i64 6, .int .i64 b, .int .i64 c] w fun e w' => e = .returned (.int .i64 (if c = 0 then 0 else wrap64 (b.tdiv c))) ∧ w = w' := by
  by_cases h0 : c = 0
  · subst h0
    rw [if_pos rfl]
    go_enter Tryd.func40, Tryd.ntmps40
    go_wp2
    go_ret
    exact ⟨rfl, rfl⟩
  · rw [if_neg h0]
    have hc0 : (c == 0) = false := by simpa using h0
    by_cases hb : b = -9223372036854775808
    · by_cases hc : c = -1
      · have hv : wrap64 (b.tdiv c) = b := by subst hb; subst hc; first | rfl | (unfold wrap64; rfl) | simp [wrap64]
        rw [hv]
        subst hc
        have hy := least_yes b hb
        clear hv hb h0 hc0
        go_enter Tryd.func40, Tryd.ntmps40
        go_wp2_with (go_at_call 66; refine (hy _).mono ?_; rintro e w' ⟨rfl, rfl⟩)
        go_ret
        exact ⟨rfl, rfl⟩
      · have hc1 : (c == -1) = false := by simpa using hc
        have hy := least_yes b hb
        clear hc hb
        go_enter Tryd.func40, Tryd.ntmps40
        go_wp2_with (go_at_call 66; refine (hy _).mono ?_; rintro e w' ⟨rfl, rfl⟩)
        go_ret
        exact ⟨rfl, rfl⟩
    · have hy := least_no b hb
      clear hb
      go_enter Tryd.func40, Tryd.ntmps40
      go_wp2_with (go_at_call 66; refine (hy _).mono ?_; rintro e w' ⟨rfl, rfl⟩)
      go_ret
      exact ⟨rfl, rfl⟩
theorem math_7 (b c : Int) (w : World) : Calls Tryd.prog 40 #[.int .i64 7, .int .i64 b, .int .i64 c] w fun e w' => e = .returned (.int .i64 (if c = 0 then 0 else b.tmod c)) ∧ w = w' := by
  by_cases h0 : c = 0
  · subst h0
    rw [if_pos rfl]
    go_enter Tryd.func40, Tryd.ntmps40
    go_wp2
    go_ret
    exact ⟨rfl, rfl⟩
  · rw [if_neg h0]
    have hc0 : (c == 0) = false := by simpa using h0
    by_cases hb : b = -9223372036854775808
    · by_cases hc : c = -1
      · have hv : b.tmod c = 0 := by subst hb; subst hc; first | rfl | (unfold wrap64; rfl) | simp [wrap64]
        rw [hv]
        subst hc
        have hy := least_yes b hb
        clear hv hb h0 hc0
        go_enter Tryd.func40, Tryd.ntmps40
        go_wp2_with (go_at_call 66; refine (hy _).mono ?_; rintro e w' ⟨rfl, rfl⟩)
        go_ret
        exact ⟨rfl, rfl⟩
      · have hc1 : (c == -1) = false := by simpa using hc
        have hy := least_yes b hb
        clear hc hb
        go_enter Tryd.func40, Tryd.ntmps40
        go_wp2_with (go_at_call 66; refine (hy _).mono ?_; rintro e w' ⟨rfl, rfl⟩)
        go_ret
        exact ⟨rfl, rfl⟩
    · have hy := least_no b hb
      clear hb
      go_enter Tryd.func40, Tryd.ntmps40
      go_wp2_with (go_at_call 66; refine (hy _).mono ?_; rintro e w' ⟨rfl, rfl⟩)
      go_ret
      exact ⟨rfl, rfl⟩
theorem math_any (op b c : Int) (h : twoB op = true) (w : World) : Calls Tryd.prog 40 #[.int .i64 op, .int .i64 b, .int .i64 c] w fun e w' => e = .returned (.int .i64 (mathP op b c)) ∧ w = w' := by
  have h' : op = 3 ∨ op = 4 ∨ op = 5 ∨ op = 6 ∨ op = 7 ∨ op = 8 ∨ op = 9 := by simpa [twoB] using h
  rcases h' with rfl | rfl | rfl | rfl | rfl | rfl | rfl
  · exact math_3 b c w
  · exact math_4 b c w
  · exact math_5 b c w
  · exact math_6 b c w
  · exact math_7 b c w
  · exact math_8 b c w
  · exact math_9 b c w
theorem State_any (s : Sta) (hl : s.r.length = 8) (w : World) : Calls Tryd.prog 24 #[s.val] w fun e w' => e = .returned (.bool s.mayB) ∧ Read w w' := by
  obtain ⟨r, d, n⟩ := s
  have h8 : (w.alloc (.cells (Sta.cells ⟨r, d, n⟩) 29)).cell? ⟨w.heap.size, 8, none⟩ = some (.int .i64 d) := by
    rw [World.cell?_alloc_new]
    simp only at hl
    simp [Sta.cells, hl]
  have h9 : (w.alloc (.cells (Sta.cells ⟨r, d, n⟩) 29)).cell? ⟨w.heap.size, 9, none⟩ = some (.int .i64 n) := by
    rw [World.cell?_alloc_new]
    simp only at hl
    simp [Sta.cells, hl]
  have hz : Hid (Sta.mayB ⟨r, d, n⟩ = decide (0 ≤ d ∧ d ≤ 1125899906842624 ∧ 0 ≤ n ∧ n ≤ 1125899906842624)) := rfl
  generalize Sta.mayB ⟨r, d, n⟩ = z at hz ⊢
  simp only [Sta.val]
  generalize Sta.cells ⟨r, d, n⟩ = C at h8 h9 ⊢
  clear hl
  by_cases a1 : 0 ≤ d <;> by_cases a2 : d ≤ 1125899906842624 <;> by_cases a3 : 0 ≤ n <;> by_cases a4 : n ≤ 1125899906842624
  all_goals first | (exfalso; omega) | skip
  all_goals
    go_enter Tryd.func24, Tryd.ntmps24
    go_wp2
    go_ret
    exact ⟨ret_bool (by rw [hz.out]; simp; try omega), Read.mk _ _⟩
theorem below_P (seed : Nat) (self n k : Int) (hk : k ≤ 9223372036854775807) (w : World) :
    Calls Tryd.prog 39 #[.int .u64 seed, .int .i64 self, .int .i64 n, .int .i64 k] w fun e w' => e = .returned (.int .i64 (belowP seed self n k)) ∧ w = w' := by
  unfold belowP
  by_cases h : k < 1
  · rw [if_pos h]
    exact rBelow_low seed self n k h w
  · rw [if_neg h]
    obtain ⟨j, rfl⟩ := Int.eq_ofNat_of_zero_le (show 0 ≤ k by omega)
    exact rBelow_any seed self n j (by omega) (by omega) w
end Go.Proofs.YtghbdpjegmdhbaaDoor
