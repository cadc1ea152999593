/-
  What a step keeps, in plain data: registers are numbers of 64 bits, the place is none below 0, at most eight are sent.
-/
import Derived.Test.YtghbdpjegmdhbaaDoorVmD7
namespace Go.Proofs.YtghbdpjegmdhbaaDoor
open Go.ChangeShapes Go.WideShapes Go.ChangeAt Go.RowKit Go.Sort
set_option linter.unusedVariables false

def In64 (z : Int) : Prop := -9223372036854775808 ≤ z ∧ z ≤ 9223372036854775807
theorem in64_wrap (z : Int) : In64 (wrap64 z) := by unfold In64 wrap64; omega
theorem RegsOk.put {m : Mc} (h : RegsOk m) (i : Int) {z : Int} (hz : In64 z) : RegsOk (m.put i z) := by
  intro y hy
  simp only [Mc.put] at hy
  rcases List.mem_or_eq_of_mem_set hy with g | rfl
  · exact h y g
  · exact hz
theorem tmod_in {b c : Int} (hb : In64 b) : In64 (b.tmod c) := by
  unfold In64 at *
  have h1 : (b.tmod c).natAbs ≤ b.natAbs := by
    rw [Int.natAbs_tmod]
    exact Nat.mod_le _ _
  by_cases hb0 : 0 ≤ b
  · have h2 := Int.tmod_nonneg c hb0
    omega
  · have h2 := Int.tmod_nonneg c (show 0 ≤ -b by omega)
    rw [Int.neg_tmod] at h2
    omega
theorem mathP_in {op b c : Int} (hb : In64 b) : In64 (mathP op b c) := by
  unfold mathP
  repeat' split
  all_goals first | exact in64_wrap _ | (unfold In64; omega) | exact tmod_in hb
theorem belowP_in {seed : Nat} {self n k : Int} (hk : k ≤ 9223372036854775807) : In64 (belowP seed self n k) := by
  unfold belowP In64
  by_cases h : k < 1
  · rw [if_pos h]; omega
  · rw [if_neg h]
    have := Nat.mod_lt (atN seed self n) (show 0 < k.toNat by omega)
    omega
/-- What holds of a handler all along. -/
structure McOk (m : Mc) : Prop where
  r : RegsOk m
  pc : 0 ≤ m.pc
  o : m.o.length ≤ 8
theorem McOk.reg {m : Mc} (h : McOk m) (k : Int) : In64 (m.reg k) := h.r.reg k
theorem step_inv {W : Wd} {ev : M} {i : I} {m m' : Mc} {n : Int} (hmay : mayB i n = true) (h : McOk m) (hv : In64 ev.v) (ht : In64 ev.k.t) (hs : In64 W.self)
    (hg : stepP W ev i m = .on m' ∨ stepP W ev i m = .stop m') : McOk m' ∧ m.d ≤ m'.d ∧ m'.d ≤ m.d + 1 := by
  obtain ⟨op, a, b, c⟩ := i
  have hf : fieldsB ⟨op, a, b, c⟩ n = true := by
    unfold mayB at hmay
    exact (Bool.and_eq_true _ _ ▸ hmay).2
  have put : ∀ z, In64 z → McOk (m.put a z) ∧ m.d ≤ (m.put a z).d ∧ (m.put a z).d ≤ m.d + 1 := fun z hz => ⟨⟨h.r.put a hz, h.pc, h.o⟩, Int.le_refl _, by show m.d ≤ m.d + 1; omega⟩
  unfold stepP at hg
  simp only at hg
  by_cases h0 : op = 0
  · rw [if_pos h0] at hg
    rcases hg with g | g <;> cases g
    exact ⟨h, Int.le_refl _, by omega⟩
  rw [if_neg h0] at hg
  by_cases h1 : op = 1
  · subst h1
    rw [if_pos rfl] at hg
    rcases hg with g | g <;> cases g
    refine put b ?_
    have : wordB b = true := by simp [fieldsB] at hf; exact hf.2
    simp only [wordB, decide_eq_true_eq] at this
    unfold In64; omega
  rw [if_neg h1] at hg
  by_cases h2 : op = 2
  · rw [if_pos h2] at hg
    rcases hg with g | g <;> cases g
    exact put _ (h.reg b)
  rw [if_neg h2] at hg
  by_cases h3 : op = 10
  · subst h3
    rw [if_pos rfl] at hg
    rcases hg with g | g <;> cases g
    have : placeB a n = true := by simp [fieldsB] at hf; exact hf
    simp only [placeB, decide_eq_true_eq] at this
    exact ⟨⟨h.r, this.1, h.o⟩, Int.le_refl _, by show m.d ≤ m.d + 1; omega⟩
  rw [if_neg h3] at hg
  by_cases h4 : op = 11
  · subst h4
    rw [if_pos rfl] at hg
    rcases hg with g | g <;> cases g
    have : placeB b n = true := by simp [fieldsB] at hf; exact hf.2
    simp only [placeB, decide_eq_true_eq] at this
    split
    · exact ⟨⟨h.r, this.1, h.o⟩, Int.le_refl _, by show m.d ≤ m.d + 1; omega⟩
    · exact ⟨h, Int.le_refl _, by omega⟩
  rw [if_neg h4] at hg
  by_cases h5 : op = 12
  · rw [if_pos h5] at hg
    unfold sendP at hg
    by_cases g1 : W.links.length = 0 ∨ 8 ≤ m.o.length
    · rw [if_pos g1] at hg
      rcases hg with g | g <;> cases g
      exact ⟨h, Int.le_refl _, by omega⟩
    · rw [if_neg g1] at hg
      simp only at hg
      split at hg
      · rcases hg with g | g <;> cases g
      · split at hg
        · rcases hg with g | g <;> cases g
        · rcases hg with g | g <;> cases g
          exact ⟨⟨h.r, h.pc, by simp; omega⟩, Int.le_refl _, by show m.d ≤ m.d + 1; omega⟩
  rw [if_neg h5] at hg
  by_cases h6 : op = 13
  · rw [if_pos h6] at hg
    rcases hg with g | g <;> cases g
    exact ⟨⟨h.r.put a (belowP_in (h.reg b).2), h.pc, h.o⟩, by show m.d ≤ m.d + 1; omega, Int.le_refl _⟩
  rw [if_neg h6] at hg
  by_cases h7 : op = 14
  · rw [if_pos h7] at hg
    rcases hg with g | g <;> cases g
    exact put _ hv
  rw [if_neg h7] at hg
  by_cases h8 : op = 15
  · rw [if_pos h8] at hg
    rcases hg with g | g <;> cases g
    exact put _ ht
  rw [if_neg h8] at hg
  by_cases h9 : op = 16
  · rw [if_pos h9] at hg
    rcases hg with g | g <;> cases g
    exact put _ hs
  rw [if_neg h9] at hg
  rcases hg with g | g <;> cases g
  exact put _ (mathP_in (h.reg b))
theorem runP_end {W : Wd} {ev : M} {f : Nat} {m : Mc} (h : ¬ m.pc < (W.prog.length : Int)) : runP W ev f m = .stop m := by
  cases f with
  | zero => rfl
  | succ f => unfold runP; rw [if_neg h]
theorem runP_on {W : Wd} {ev : M} {f : Nat} {m m' : Mc} (h : m.pc < (W.prog.length : Int)) (hs : stepP W ev (W.prog.getD m.pc.toNat default) { m with pc := m.pc + 1 } = .on m') : runP W ev (f + 1) m = runP W ev f m' := by
  conv => lhs; unfold runP
  rw [if_pos h, hs]
theorem runP_stop {W : Wd} {ev : M} {f : Nat} {m m' : Mc} (h : m.pc < (W.prog.length : Int)) (hs : stepP W ev (W.prog.getD m.pc.toNat default) { m with pc := m.pc + 1 } = .stop m') : runP W ev (f + 1) m = .stop m' := by
  unfold runP
  rw [if_pos h, hs]
theorem runP_fault {W : Wd} {ev : M} {f : Nat} {m : Mc} {e : Int} (h : m.pc < (W.prog.length : Int)) (hs : stepP W ev (W.prog.getD m.pc.toNat default) { m with pc := m.pc + 1 } = .fault e) : runP W ev (f + 1) m = .fault e := by
  unfold runP
  rw [if_pos h, hs]
end Go.Proofs.YtghbdpjegmdhbaaDoor
