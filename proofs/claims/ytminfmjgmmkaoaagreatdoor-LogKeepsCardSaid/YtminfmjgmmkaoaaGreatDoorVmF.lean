/-
  The contract of the document's own step, a theorem for each kind of instruction.
  The contract of the document's own step, at every instruction that may be.
  What a step keeps, in plain data: registers are numbers of 64 bits, the place is none below 0, at most eight are sent.
  What certain programs come to, and what any program's run keeps: plain data, no program of the seat's.
-/
import Derived.Test.YtminfmjgmmkaoaaGreatDoorVmD4
import Derived.StillTailTactics
import Derived.BigRegion
import Derived.Test.YtminfmjgmmkaoaaGreatDoorVmD5
namespace Go.Proofs.YtminfmjgmmkaoaaGreatDoor
open Go.ChangeShapes Go.WideShapes Go.ChangeAt Go.RowKit Go.Sort
set_option linter.unusedVariables false
set_option maxRecDepth 4000

section
variable {b0 b1 : Nat} {w : World} {x rb : Nat} {v : Wv} {W : Wd} {ev : M} {ov : Value} {m : Mc}
end
end Go.Proofs.YtminfmjgmmkaoaaGreatDoor
namespace Go.Proofs.YtminfmjgmmkaoaaGreatDoor
open Go.ChangeShapes Go.WideShapes Go.ChangeAt Go.RowKit Go.Sort
set_option linter.unusedVariables false
set_option maxRecDepth 4000

theorem reg_nat {x : Int} (h : regB x = true) : ∃ k : Nat, x = (k : Int) ∧ k < 16 := by
  simp only [regB, decide_eq_true_eq] at h
  exact ⟨x.toNat, by omega, by omega⟩
theorem f_abc {op a b c n : Int} (h : fieldsB ⟨op, a, b, c⟩ n = true) (hop : twoB op = true ∨ op = 12) : regB a = true ∧ regB b = true ∧ regB c = true := by
  have h' : op = 3 ∨ op = 4 ∨ op = 5 ∨ op = 6 ∨ op = 7 ∨ op = 8 ∨ op = 9 ∨ op = 12 := by
    rcases hop with g | g
    · have : op = 3 ∨ op = 4 ∨ op = 5 ∨ op = 6 ∨ op = 7 ∨ op = 8 ∨ op = 9 := by simpa [twoB] using g
      omega
    · omega
  unfold fieldsB at h
  simp only at h
  rw [if_pos h'] at h
  simp only [Bool.and_eq_true] at h
  exact ⟨h.2.2, h.2.1, h.1⟩
theorem f_ab {op a b c n : Int} (h : fieldsB ⟨op, a, b, c⟩ n = true) (hop : op = 2 ∨ op = 13) : regB a = true ∧ regB b = true := by
  unfold fieldsB at h
  simp only at h
  rw [if_neg (by omega), if_pos hop] at h
  simp only [Bool.and_eq_true] at h
  exact ⟨h.2, h.1⟩
theorem f_a {op a b c n : Int} (h : fieldsB ⟨op, a, b, c⟩ n = true) (hop : op = 14 ∨ op = 15 ∨ op = 16) : regB a = true := by
  unfold fieldsB at h
  simp only at h
  rwa [if_neg (by omega), if_neg (by omega), if_pos hop] at h
theorem f_1 {a b c n : Int} (h : fieldsB ⟨1, a, b, c⟩ n = true) : regB a = true := by
  simp [fieldsB] at h; exact h.1
theorem f_11 {a b c n : Int} (h : fieldsB ⟨11, a, b, c⟩ n = true) : regB a = true := by
  simp [fieldsB] at h; exact h.1
theorem f_two {op a b c n : Int} (h : fieldsB ⟨op, a, b, c⟩ n = true) (h0 : ¬ op = 0) (h1 : ¬ op = 1) (h2 : ¬ op = 2) (h3 : ¬ op = 10) (h4 : ¬ op = 11) (h5 : ¬ op = 12) (h6 : ¬ op = 13) (h7 : ¬ op = 14) (h8 : ¬ op = 15) (h9 : ¬ op = 16) : twoB op = true := by
  by_cases g : op = 3 ∨ op = 4 ∨ op = 5 ∨ op = 6 ∨ op = 7 ∨ op = 8 ∨ op = 9
  · simpa [twoB] using g
  · unfold fieldsB at h
    simp only at h
    rw [if_neg (by omega), if_neg (by omega), if_neg (by omega), if_neg h1, if_neg h4, if_neg h3] at h
    simp at h
    omega
/-- The link that a number chooses, in the program's words. -/
theorem link_of (A : Int) (n : Nat) (h0 : 0 < n) : ∃ kk : Nat, A % (n : Int) = (kk : Int) ∧ kk < n ∧ (A.tmod (n : Int) = (kk : Int) ∨ ∃ T : Int, A.tmod (n : Int) = T ∧ T < 0 ∧ T + (n : Int) = (kk : Int)) := by
  have e1 := Int.emod_nonneg A (show (n : Int) ≠ 0 by omega)
  have e2 := Int.emod_lt_of_pos A (show (0 : Int) < (n : Int) by omega)
  refine ⟨(A % (n : Int)).toNat, by omega, by omega, ?_⟩
  have ht := @Int.tmod_eq_emod A (n : Int)
  by_cases h : 0 ≤ A ∨ (n : Int) ∣ A
  · rw [if_pos h] at ht
    exact .inl (by omega)
  · rw [if_neg h] at ht
    exact .inr ⟨_, rfl, by omega, by omega⟩
section
variable {b0 b1 : Nat} {w : World} {x rb : Nat} {v : Wv} {W : Wd} {ev : M} {ov : Value} {m : Mc}
/-- All registers are numbers of 64 bits. -/
def RegsOk (m : Mc) : Prop := ∀ z ∈ m.r, -9223372036854775808 ≤ z ∧ z ≤ 9223372036854775807
theorem RegsOk.reg {m : Mc} (h : RegsOk m) (k : Int) : -9223372036854775808 ≤ m.reg k ∧ m.reg k ≤ 9223372036854775807 := by
  unfold Mc.reg
  rw [List.getD_eq_getElem?_getD]
  cases hg : m.r[k.toNat]? with
  | none => simp
  | some z => exact h z (List.mem_of_getElem? hg)
end
end Go.Proofs.YtminfmjgmmkaoaaGreatDoor
namespace Go.Proofs.YtminfmjgmmkaoaaGreatDoor
open Go.ChangeShapes Go.WideShapes Go.ChangeAt Go.RowKit Go.Sort
set_option linter.unusedVariables false

def In64 (z : Int) : Prop := -9223372036854775808 ≤ z ∧ z ≤ 9223372036854775807
theorem in64_wrap (z : Int) : In64 (wrap64 z) := by unfold In64 wrap64; omega
theorem RegsOk.put {m : Mc} (h : RegsOk m) (i : Int) {z : Int} (hz : In64 z) : RegsOk (m.put i z) := by
  intro y hy
  simp only [Mc.put] at hy
  rcases List.mem_or_eq_of_mem_set hy with g | rfl
  · exact h y g
  · exact hz
theorem tmod_in {b c : Int} (hb : In64 b) : In64 (b.tmod c) := by
  unfold In64 at *
  have h1 : (b.tmod c).natAbs ≤ b.natAbs := by
    rw [Int.natAbs_tmod]
    exact Nat.mod_le _ _
  by_cases hb0 : 0 ≤ b
  · have h2 := Int.tmod_nonneg c hb0
    omega
  · have h2 := Int.tmod_nonneg c (show 0 ≤ -b by omega)
    rw [Int.neg_tmod] at h2
    omega
theorem mathP_in {op b c : Int} (hb : In64 b) : In64 (mathP op b c) := by
  unfold mathP
  repeat' split
  all_goals first | exact in64_wrap _ | (unfold In64; omega) | exact tmod_in hb
theorem belowP_in {seed : Nat} {self n k : Int} (hk : k ≤ 9223372036854775807) : In64 (belowP seed self n k) := by
  unfold belowP In64
  by_cases h : k < 1
  · rw [if_pos h]; omega
  · rw [if_neg h]
    have := Nat.mod_lt (atN seed self n) (show 0 < k.toNat by omega)
    omega
/-- What holds of a handler all along. -/
structure McOk (m : Mc) : Prop where
  r : RegsOk m
  pc : 0 ≤ m.pc
  o : m.o.length ≤ 8
theorem McOk.reg {m : Mc} (h : McOk m) (k : Int) : In64 (m.reg k) := h.r.reg k
theorem step_inv {W : Wd} {ev : M} {i : I} {m m' : Mc} {n : Int} (hmay : mayB i n = true) (h : McOk m) (hv : In64 ev.v) (ht : In64 ev.k.t) (hs : In64 W.self)
    (hg : stepP W ev i m = .on m' ∨ stepP W ev i m = .stop m') : McOk m' ∧ m.d ≤ m'.d ∧ m'.d ≤ m.d + 1 := by
  obtain ⟨op, a, b, c⟩ := i
  have hf : fieldsB ⟨op, a, b, c⟩ n = true := by
    unfold mayB at hmay
    exact (Bool.and_eq_true _ _ ▸ hmay).2
  have put : ∀ z, In64 z → McOk (m.put a z) ∧ m.d ≤ (m.put a z).d ∧ (m.put a z).d ≤ m.d + 1 := fun z hz => ⟨⟨h.r.put a hz, h.pc, h.o⟩, Int.le_refl _, by show m.d ≤ m.d + 1; omega⟩
  unfold stepP at hg
  simp only at hg
  by_cases h0 : op = 0
  · rw [if_pos h0] at hg
    rcases hg with g | g <;> cases g
    exact ⟨h, Int.le_refl _, by omega⟩
  rw [if_neg h0] at hg
  by_cases h1 : op = 1
  · subst h1
    rw [if_pos rfl] at hg
    rcases hg with g | g <;> cases g
    refine put b ?_
    have : wordB b = true := by simp [fieldsB] at hf; exact hf.2
    simp only [wordB, decide_eq_true_eq] at this
    unfold In64; omega
  rw [if_neg h1] at hg
  by_cases h2 : op = 2
  · rw [if_pos h2] at hg
    rcases hg with g | g <;> cases g
    exact put _ (h.reg b)
  rw [if_neg h2] at hg
  by_cases h3 : op = 10
  · subst h3
    rw [if_pos rfl] at hg
    rcases hg with g | g <;> cases g
    have : placeB a n = true := by simp [fieldsB] at hf; exact hf
    simp only [placeB, decide_eq_true_eq] at this
    exact ⟨⟨h.r, this.1, h.o⟩, Int.le_refl _, by show m.d ≤ m.d + 1; omega⟩
  rw [if_neg h3] at hg
  by_cases h4 : op = 11
  · subst h4
    rw [if_pos rfl] at hg
    rcases hg with g | g <;> cases g
    have : placeB b n = true := by simp [fieldsB] at hf; exact hf.2
    simp only [placeB, decide_eq_true_eq] at this
    split
    · exact ⟨⟨h.r, this.1, h.o⟩, Int.le_refl _, by show m.d ≤ m.d + 1; omega⟩
    · exact ⟨h, Int.le_refl _, by omega⟩
  rw [if_neg h4] at hg
  by_cases h5 : op = 12
  · rw [if_pos h5] at hg
    unfold sendP at hg
    by_cases g1 : W.links.length = 0 ∨ 8 ≤ m.o.length
    · rw [if_pos g1] at hg
      rcases hg with g | g <;> cases g
      exact ⟨h, Int.le_refl _, by omega⟩
    · rw [if_neg g1] at hg
      simp only at hg
      split at hg
      · rcases hg with g | g <;> cases g
      · split at hg
        · rcases hg with g | g <;> cases g
        · rcases hg with g | g <;> cases g
          exact ⟨⟨h.r, h.pc, by simp; omega⟩, Int.le_refl _, by show m.d ≤ m.d + 1; omega⟩
  rw [if_neg h5] at hg
  by_cases h6 : op = 13
  · rw [if_pos h6] at hg
    rcases hg with g | g <;> cases g
    exact ⟨⟨h.r.put a (belowP_in (h.reg b).2), h.pc, h.o⟩, by show m.d ≤ m.d + 1; omega, Int.le_refl _⟩
  rw [if_neg h6] at hg
  by_cases h7 : op = 14
  · rw [if_pos h7] at hg
    rcases hg with g | g <;> cases g
    exact put _ hv
  rw [if_neg h7] at hg
  by_cases h8 : op = 15
  · rw [if_pos h8] at hg
    rcases hg with g | g <;> cases g
    exact put _ ht
  rw [if_neg h8] at hg
  by_cases h9 : op = 16
  · rw [if_pos h9] at hg
    rcases hg with g | g <;> cases g
    exact put _ hs
  rw [if_neg h9] at hg
  rcases hg with g | g <;> cases g
  exact put _ (mathP_in (h.reg b))
theorem runP_end {W : Wd} {ev : M} {f : Nat} {m : Mc} (h : ¬ m.pc < (W.prog.length : Int)) : runP W ev f m = .stop m := by
  cases f with
  | zero => rfl
  | succ f => unfold runP; rw [if_neg h]
theorem runP_on {W : Wd} {ev : M} {f : Nat} {m m' : Mc} (h : m.pc < (W.prog.length : Int)) (hs : stepP W ev (W.prog.getD m.pc.toNat default) { m with pc := m.pc + 1 } = .on m') : runP W ev (f + 1) m = runP W ev f m' := by
  conv => lhs; unfold runP
  rw [if_pos h, hs]
theorem runP_stop {W : Wd} {ev : M} {f : Nat} {m m' : Mc} (h : m.pc < (W.prog.length : Int)) (hs : stepP W ev (W.prog.getD m.pc.toNat default) { m with pc := m.pc + 1 } = .stop m') : runP W ev (f + 1) m = .stop m' := by
  unfold runP
  rw [if_pos h, hs]
theorem runP_fault {W : Wd} {ev : M} {f : Nat} {m : Mc} {e : Int} (h : m.pc < (W.prog.length : Int)) (hs : stepP W ev (W.prog.getD m.pc.toNat default) { m with pc := m.pc + 1 } = .fault e) : runP W ev (f + 1) m = .fault e := by
  unfold runP
  rw [if_pos h, hs]
end Go.Proofs.YtminfmjgmmkaoaaGreatDoor
namespace Go.Proofs.YtminfmjgmmkaoaaGreatDoor
open Go.ChangeShapes Go.WideShapes Go.ChangeAt Go.RowKit Go.Sort
set_option linter.unusedVariables false
set_option maxRecDepth 8000

theorem runW_go {W : Wd} {s : Sta} {ev : M} (h : checkW W = 0) (hm : chkM ev = 0) (hs : s.mayB = true) : runW W s ev = endP s (runP W ev 4096 (firstP s)) := by
  unfold runW
  rw [if_neg (by simp [h]), if_neg (by simp [hm, hs])]
theorem runW_msg {W : Wd} {s : Sta} {ev : M} (h : checkW W = 0) (hm : ¬ (chkM ev = 0 ∧ s.mayB = true)) : runW W s ev = (Sta.zero, [], 1) := by
  unfold runW
  rw [if_neg (by simp [h]), if_pos (by
    by_cases h1 : chkM ev = 0
    · right
      cases hb : s.mayB
      · rfl
      · exact absurd ⟨h1, hb⟩ hm
    · exact .inl h1)]
theorem runW_chk {W : Wd} {s : Sta} {ev : M} (h : checkW W ≠ 0) : runW W s ev = (Sta.zero, [], checkW W) := by
  unfold runW
  rw [if_pos h]
/-! What a handler sees. -/
/-! Two numbers and an instruction. -/
/-! Nothing done. -/
end Go.Proofs.YtminfmjgmmkaoaaGreatDoor
