/-
  A queue that nobody made; every Push, in one.
-/
import Derived.Test.YtbalbachmeiehaaHX
namespace Go.Proofs.Ytbalbachmeiehaa
open Go.ChangeShapes Go.WideShapes Go.ChangeAt Go.Shelf Go.RowKit Go.Lib Go.Sort Go.Deep Go.Maps
set_option linter.unusedVariables false

theorem hPush_any {w : World} {b0 hb tb mb n : Nat} {v : Value} {T : List M} (h : QAt w b0 hb tb mb n v T) (m : M) (hm : m.fits) (hn : n < maxLen) :
    Calls Try.prog 15 #[.pointer (some ⟨hb, 0, none⟩), m.val] w fun e w' => e = .returned (.int .i64 (pushC T m)) ∧ ∃ v', QAt w' b0 hb tb mb (n + 1) v' (pushT T m) ∧ QStep w w' tb mb v v' := by
  by_cases h1 : hasS T m.k.f m.u = true
  · refine (hPush_stay h m hm (.inl h1)).mono ?_
    rintro e w' ⟨he, hb'⟩
    have e1 : pushT T m = T := by unfold pushT; rw [if_pos h1]
    rw [e1]
    exact ⟨he, v, (h.below hb').mono (Nat.le_succ n), .of_below hb'⟩
  · by_cases h2 : 16384 ≤ T.length
    · refine (hPush_stay h m hm (.inr h2)).mono ?_
      rintro e w' ⟨he, hb'⟩
      have e1 : pushT T m = T := by unfold pushT; rw [if_neg h1, if_pos h2]
      rw [e1]
      exact ⟨he, v, (h.below hb').mono (Nat.le_succ n), .of_below hb'⟩
    · have e1 : pushT T m = mg ltM T [m] := by unfold pushT; rw [if_neg h1, if_neg h2]
      have e2 : pushC T m = 0 := by unfold pushC; rw [if_neg h1, if_neg h2]
      rw [e1, e2]
      exact hPush_takes h m hm (by simpa using h1) (by omega) hn

/-- A queue that nobody made. -/
def NotMade (w : World) (q : Value) : Prop := q = .pointer none ∨ ∃ hb, q = .pointer (some ⟨hb, 0, none⟩) ∧ hb < w.heap.size ∧ w.cell? ⟨hb, 0, none⟩ = some (.pointer none)
theorem NotMade.below {w w' : World} {q : Value} (h : NotMade w q) (hb : Below w.heap.size w w') : NotMade w' q := by
  rcases h with rfl | ⟨b, rfl, h1, h2⟩
  · exact .inl rfl
  · exact .inr ⟨b, rfl, Nat.lt_of_lt_of_le h1 hb.size, (hb.cell (p := ⟨b, 0, none⟩) h1).trans h2⟩
theorem made_not {w : World} {q : Value} (h : NotMade w q) : Calls Try.prog 25 #[q] w fun e w' => e = .returned (.bool false) ∧ w = w' := by
  rcases h with rfl | ⟨b, rfl, _, h2⟩
  · exact made_nil w
  · exact made_zero h2
theorem refusal_not {w : World} {q : Value} (h : NotMade w q) : Calls Try.prog 33 #[q] w fun e w' => e = .returned (.int .i64 7) ∧ w = w' := by
  have hm := made_not h
  clear h
  go_enter Try.func33, Try.ntmps33
  go_wp2_with (go_at_call 25; refine hm.mono ?_; rintro e w' ⟨rfl, rfl⟩)
  go_ret
  exact ⟨rfl, rfl⟩
theorem hLen_not {w : World} {q : Value} (h : NotMade w q) : Calls Try.prog 11 #[q] w fun e w' => e = .returned (.int .i64 0) ∧ w = w' := by
  have hm := made_not h
  clear h
  go_enter Try.func11, Try.ntmps11
  go_wp2_with (go_at_call 25; refine hm.mono ?_; rintro e w' ⟨rfl, rfl⟩)
  go_ret
  exact ⟨rfl, rfl⟩
theorem hAll_not {w : World} {q : Value} (h : NotMade w q) : Calls Try.prog 13 #[q] w fun e w' => e = .returned (.slice none 0 0) ∧ w = w' := by
  have hm := made_not h
  clear h
  go_enter Try.func13, Try.ntmps13
  go_wp2_with (go_at_call 25; refine hm.mono ?_; rintro e w' ⟨rfl, rfl⟩)
  go_ret
  exact ⟨rfl, rfl⟩
theorem hPush_not {w : World} {q : Value} (h : NotMade w q) (m : M) : Calls Try.prog 15 #[q, m.val] w fun e w' => e = .returned (.int .i64 7) ∧ Below w.heap.size w w' := by
  have hm := fun o => made_not (h.below ((Below.refl _ w).alloc (Nat.le_refl _) o))
  clear h
  obtain ⟨⟨t, f, s⟩, tt, vv, u, an⟩ := m
  simp only [M.val]
  go_enter Try.func15, Try.ntmps15
  go_wp2_with (go_at_call 25; refine (hm _).mono ?_; rintro e w' ⟨rfl, rfl⟩)
  go_ret
  exact ⟨rfl, (Below.refl _ w).alloc (Nat.le_refl _) _⟩
set_option maxHeartbeats 1000000 in
theorem hFirst_not {w : World} {q : Value} (h : NotMade w q) : Calls Try.prog 19 #[q] w fun e w' => e = .returned (.tuple #[zeroM.val, .int .i64 7]) ∧ Below w.heap.size w w' := by
  have hm := fun o => refusal_not (h.below ((Below.refl _ w).alloc (Nat.le_refl _) o))
  clear h
  go_enter Try.func19, Try.ntmps19
  go_wp2_with (go_at_call 33; refine (hm _).mono ?_; rintro e w' ⟨rfl, rfl⟩)
  refine bodyPost_ret (v := .tuple #[.agg #[.int .i64 0, .int .i64 0, .int .i64 0, .int .i64 0, .int .i64 0, .int .i64 0, .bool false], .int .i64 7]) (by simp [results, Try.results19, go_sem]) rfl ⟨rfl, ?_⟩
  repeat (refine Below.setCell ?_ (by simp) _)
  exact (Below.refl _ w).alloc (Nat.le_refl _) _
set_option maxHeartbeats 1000000 in
theorem hPop_not {w : World} {q : Value} (h : NotMade w q) : Calls Try.prog 17 #[q] w fun e w' => e = .returned (.tuple #[zeroM.val, .int .i64 7]) ∧ Below w.heap.size w w' := by
  have hm := fun o => refusal_not (h.below ((Below.refl _ w).alloc (Nat.le_refl _) o))
  clear h
  go_enter Try.func17, Try.ntmps17
  go_wp2_with (go_at_call 33; refine (hm _).mono ?_; rintro e w' ⟨rfl, rfl⟩)
  refine bodyPost_ret (v := .tuple #[.agg #[.int .i64 0, .int .i64 0, .int .i64 0, .int .i64 0, .int .i64 0, .int .i64 0, .bool false], .int .i64 7]) (by simp [results, Try.results17, go_sem]) rfl ⟨rfl, ?_⟩
  repeat (refine Below.setCell ?_ (by simp) _)
  exact (Below.refl _ w).alloc (Nat.le_refl _) _
set_option maxHeartbeats 1000000 in
theorem hCut_not {w : World} {q : Value} (h : NotMade w q) (f u : Int) : Calls Try.prog 18 #[q, .int .i64 f, .int .i64 u] w fun e w' => e = .returned (.tuple #[zeroM.val, .int .i64 7]) ∧ Below w.heap.size w w' := by
  have hm : ∀ w', Below w.heap.size w w' → Calls Try.prog 25 #[q] w' fun e w'' => e = .returned (.bool false) ∧ w' = w'' := fun w' hb => made_not (h.below hb)
  have hB1 : Hid (Below w.heap.size w (((w.alloc (.cells #[q] 23)).alloc (.cells #[.int .i64 0, .int .i64 0, .int .i64 0, .int .i64 0, .int .i64 0, .int .i64 0, .bool false] 31)).alloc (.cells #[.int .i64 0] 42))) := (((Below.refl _ w).alloc (Nat.le_refl _) _).alloc (by simp) _).alloc (by simp; omega) _
  have hm1 := hm _ hB1.out
  have hq : ∃ a, q = .pointer a := by rcases h with rfl | ⟨b, rfl, _⟩ <;> exact ⟨_, rfl⟩
  clear h hm
  obtain ⟨a, rfl⟩ := hq
  go_enter Try.func18, Try.ntmps18
  go_wp2_with (go_at_call 25; refine hm1.mono ?_; rintro e w' ⟨rfl, rfl⟩)
  refine bodyPost_ret (v := .tuple #[.agg #[.int .i64 0, .int .i64 0, .int .i64 0, .int .i64 0, .int .i64 0, .int .i64 0, .bool false], .int .i64 7]) (by simp [results, Try.results18, go_sem]) rfl ⟨rfl, ?_⟩
  repeat (refine Below.setCell ?_ (by simp; try omega) _)
  exact (((Below.refl _ w).alloc (Nat.le_refl _) _).alloc (by simp) _).alloc (by simp; omega) _
end Go.Proofs.Ytbalbachmeiehaa
