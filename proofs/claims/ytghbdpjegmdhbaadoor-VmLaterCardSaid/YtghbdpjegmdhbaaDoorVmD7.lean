/-
  The contract of the document's own step, at every instruction that may be.
-/
import Derived.Test.YtghbdpjegmdhbaaDoorVmD5
import Derived.Test.YtghbdpjegmdhbaaDoorVmD6
namespace Go.Proofs.YtghbdpjegmdhbaaDoor
open Go.ChangeShapes Go.WideShapes Go.ChangeAt Go.RowKit Go.Sort
set_option linter.unusedVariables false
set_option maxRecDepth 4000

theorem reg_nat {x : Int} (h : regB x = true) : ∃ k : Nat, x = (k : Int) ∧ k < 16 := by
  simp only [regB, decide_eq_true_eq] at h
  exact ⟨x.toNat, by omega, by omega⟩
theorem f_abc {op a b c n : Int} (h : fieldsB ⟨op, a, b, c⟩ n = true) (hop : twoB op = true ∨ op = 12) : regB a = true ∧ regB b = true ∧ regB c = true := by
  have h' : op = 3 ∨ op = 4 ∨ op = 5 ∨ op = 6 ∨ op = 7 ∨ op = 8 ∨ op = 9 ∨ op = 12 := by
    rcases hop with g | g
    · have : op = 3 ∨ op = 4 ∨ op = 5 ∨ op = 6 ∨ op = 7 ∨ op = 8 ∨ op = 9 := by simpa [twoB] using g
      omega
    · omega
  unfold fieldsB at h
  simp only at h
  rw [if_pos h'] at h
  simp only [Bool.and_eq_true] at h
  exact ⟨h.2.2, h.2.1, h.1⟩
theorem f_ab {op a b c n : Int} (h : fieldsB ⟨op, a, b, c⟩ n = true) (hop : op = 2 ∨ op = 13) : regB a = true ∧ regB b = true := by
  unfold fieldsB at h
  simp only at h
  rw [if_neg (by omega), if_pos hop] at h
  simp only [Bool.and_eq_true] at h
  exact ⟨h.2, h.1⟩
theorem f_a {op a b c n : Int} (h : fieldsB ⟨op, a, b, c⟩ n = true) (hop : op = 14 ∨ op = 15 ∨ op = 16) : regB a = true := by
  unfold fieldsB at h
  simp only at h
  rwa [if_neg (by omega), if_neg (by omega), if_pos hop] at h
theorem f_1 {a b c n : Int} (h : fieldsB ⟨1, a, b, c⟩ n = true) : regB a = true := by
  simp [fieldsB] at h; exact h.1
theorem f_11 {a b c n : Int} (h : fieldsB ⟨11, a, b, c⟩ n = true) : regB a = true := by
  simp [fieldsB] at h; exact h.1
theorem f_two {op a b c n : Int} (h : fieldsB ⟨op, a, b, c⟩ n = true) (h0 : ¬ op = 0) (h1 : ¬ op = 1) (h2 : ¬ op = 2) (h3 : ¬ op = 10) (h4 : ¬ op = 11) (h5 : ¬ op = 12) (h6 : ¬ op = 13) (h7 : ¬ op = 14) (h8 : ¬ op = 15) (h9 : ¬ op = 16) : twoB op = true := by
  by_cases g : op = 3 ∨ op = 4 ∨ op = 5 ∨ op = 6 ∨ op = 7 ∨ op = 8 ∨ op = 9
  · simpa [twoB] using g
  · unfold fieldsB at h
    simp only at h
    rw [if_neg (by omega), if_neg (by omega), if_neg (by omega), if_neg h1, if_neg h4, if_neg h3] at h
    simp at h
    omega
/-- The link that a number chooses, in the program's words. -/
theorem link_of (A : Int) (n : Nat) (h0 : 0 < n) : ∃ kk : Nat, A % (n : Int) = (kk : Int) ∧ kk < n ∧ (A.tmod (n : Int) = (kk : Int) ∨ ∃ T : Int, A.tmod (n : Int) = T ∧ T < 0 ∧ T + (n : Int) = (kk : Int)) := by
  have e1 := Int.emod_nonneg A (show (n : Int) ≠ 0 by omega)
  have e2 := Int.emod_lt_of_pos A (show (0 : Int) < (n : Int) by omega)
  refine ⟨(A % (n : Int)).toNat, by omega, by omega, ?_⟩
  have ht := @Int.tmod_eq_emod A (n : Int)
  by_cases h : 0 ≤ A ∨ (n : Int) ∣ A
  · rw [if_pos h] at ht
    exact .inl (by omega)
  · rw [if_neg h] at ht
    exact .inr ⟨_, rfl, by omega, by omega⟩
section
variable {b0 b1 : Nat} {w : World} {x rb : Nat} {v : Wv} {W : Wd} {ev : M} {ov : Value} {m : Mc}
theorem step_send (h : DM b1 w x rb v W ev ov m) (hwa : ∀ w', Below b0 w w' → Wds w' v W) (hb0x : b0 ≤ x) (hb0r : b0 ≤ rb) (hb01 : b0 ≤ b1) (n : Nat) (hpc : m.pc = (n : Int)) (hn : n < v.pl) (a b c : Nat) (ha : a < 16) (hb : b < 16) (hc : c < 16) (hi : W.prog.getD n default = ⟨12, a, b, c⟩)
    (hl : W.links.length ≤ 1024) (ho : m.o.length ≤ 8) (ht : 0 ≤ ev.k.t ∧ ev.k.t ≤ 4611686018427387903) :
    Calls Tryd.prog 25 #[.pointer (some ⟨x, 0, none⟩)] w (StepQ b0 b1 w x rb v W ev (sendP W ev.k.t ⟨12, a, b, c⟩ { m with pc := (n : Int) + 1 })) := by
  have hll : W.links.length = v.ll := (hwa w (Below.refl _ _)).2.1.1
  unfold sendP
  simp only
  by_cases g : W.links.length = 0 ∨ 8 ≤ m.o.length
  · rw [if_pos g]
    by_cases g0 : v.ll = 0
    · exact step_12links h hwa hb0x hb0r hb01 n hpc hn a b c (by omega) g0 hi
    · exact step_12full h hwa hb0x hb0r hb01 n hpc hn a b c (by omega) (by omega) (by omega) ho hi
  · rw [if_neg g]
    obtain ⟨kk, hk1, hk2, hk3⟩ := link_of (Mc.reg { m with pc := (n : Int) + 1 } a) v.ll (by omega)
    rw [hll, hk1, Int.toNat_natCast]
    cases hlk : W.links.getD kk default with
    | mk src dst look loose =>
      simp only
      by_cases hB : Mc.reg { m with pc := (n : Int) + 1 } b < look
      · rw [if_pos hB]
        rcases hk3 with hk | ⟨T, hT0, hn0, hk⟩
        · exact step_12lookp h hwa hb0x hb0r hb01 n hpc hn a b c ha hb hc (by omega) (by omega) (by omega) ht kk hk2 hk src dst look loose hlk hB hi
        · exact step_12lookn h hwa hb0x hb0r hb01 n hpc hn a b c ha hb hc (by omega) (by omega) (by omega) ht kk hk2 T hT0 hn0 hk src dst look loose hlk hB hi
      · rw [if_neg hB]
        by_cases hT : 4611686018427387903 - ev.k.t < Mc.reg { m with pc := (n : Int) + 1 } b
        · rw [if_pos hT]
          rcases hk3 with hk | ⟨T, hT0, hn0, hk⟩
          · exact step_12timep h hwa hb0x hb0r hb01 n hpc hn a b c ha hb hc (by omega) (by omega) (by omega) ht kk hk2 hk src dst look loose hlk hB hT hi
          · exact step_12timen h hwa hb0x hb0r hb01 n hpc hn a b c ha hb hc (by omega) (by omega) (by omega) ht kk hk2 T hT0 hn0 hk src dst look loose hlk hB hT hi
        · rw [if_neg hT]
          rcases hk3 with hk | ⟨T, hT0, hn0, hk⟩
          · exact step_12okp h hwa hb0x hb0r hb01 n hpc hn a b c ha hb hc (by omega) (by omega) (by omega) ht kk hk2 hk src dst look loose hlk hB hT hi
          · exact step_12okn h hwa hb0x hb0r hb01 n hpc hn a b c ha hb hc (by omega) (by omega) (by omega) ht kk hk2 T hT0 hn0 hk src dst look loose hlk hB hT hi
/-- All registers are numbers of 64 bits. -/
def RegsOk (m : Mc) : Prop := ∀ z ∈ m.r, -9223372036854775808 ≤ z ∧ z ≤ 9223372036854775807
theorem RegsOk.reg {m : Mc} (h : RegsOk m) (k : Int) : -9223372036854775808 ≤ m.reg k ∧ m.reg k ≤ 9223372036854775807 := by
  unfold Mc.reg
  rw [List.getD_eq_getElem?_getD]
  cases hg : m.r[k.toNat]? with
  | none => simp
  | some z => exact h z (List.mem_of_getElem? hg)
theorem step_any (h : DM b1 w x rb v W ev ov m) (hwa : ∀ w', Below b0 w w' → Wds w' v W) (hb0x : b0 ≤ x) (hb0r : b0 ≤ rb) (hb01 : b0 ≤ b1) (n : Nat) (hpc : m.pc = (n : Int)) (hn : n < v.pl)
    (hmay : mayB (W.prog.getD n default) W.prog.length = true) (hl : W.links.length ≤ 1024) (ho : m.o.length ≤ 8) (ht : 0 ≤ ev.k.t ∧ ev.k.t ≤ 4611686018427387903) (hd : 0 ≤ m.d ∧ m.d ≤ 1152921504606846976) (hr : RegsOk m) :
    Calls Tryd.prog 25 #[.pointer (some ⟨x, 0, none⟩)] w (StepQ b0 b1 w x rb v W ev (stepP W ev (W.prog.getD n default) { m with pc := (n : Int) + 1 })) := by
  cases hi : W.prog.getD n default with
  | mk op a b c =>
  rw [hi] at hmay
  have hf : fieldsB ⟨op, a, b, c⟩ W.prog.length = true := by
    unfold mayB at hmay
    exact (Bool.and_eq_true _ _ ▸ hmay).2
  unfold stepP
  simp only
  by_cases h0 : op = 0
  · subst h0; rw [if_pos rfl]; exact step_0 h hwa hb0x hb0r hb01 n hpc hn a b c hi
  rw [if_neg h0]
  by_cases h1 : op = 1
  · subst h1; rw [if_pos rfl]
    obtain ⟨a', rfl, ha⟩ := reg_nat (f_1 hf)
    exact step_1 h hwa hb0x hb0r hb01 n hpc hn a' b c ha hi
  rw [if_neg h1]
  by_cases h2 : op = 2
  · subst h2; rw [if_pos rfl]
    obtain ⟨fa, fb⟩ := f_ab hf (.inl rfl)
    obtain ⟨a', rfl, ha⟩ := reg_nat fa
    obtain ⟨b', rfl, hb⟩ := reg_nat fb
    exact step_2 h hwa hb0x hb0r hb01 n hpc hn a' b' c ha hb hi
  rw [if_neg h2]
  by_cases h3 : op = 10
  · subst h3; rw [if_pos rfl]; exact step_10 h hwa hb0x hb0r hb01 n hpc hn a b c hi
  rw [if_neg h3]
  by_cases h4 : op = 11
  · subst h4; rw [if_pos rfl]
    obtain ⟨a', rfl, ha⟩ := reg_nat (f_11 hf)
    by_cases hz : Mc.reg { m with pc := (n : Int) + 1 } a' = 0
    · rw [if_pos hz]; exact step_11t h hwa hb0x hb0r hb01 n hpc hn a' b c ha hz hi
    · rw [if_neg hz]; exact step_11f h hwa hb0x hb0r hb01 n hpc hn a' b c ha hz hi
  rw [if_neg h4]
  by_cases h5 : op = 12
  · subst h5; rw [if_pos rfl]
    obtain ⟨fa, fb, fc⟩ := f_abc hf (.inr rfl)
    obtain ⟨a', rfl, ha⟩ := reg_nat fa
    obtain ⟨b', rfl, hb⟩ := reg_nat fb
    obtain ⟨c', rfl, hc⟩ := reg_nat fc
    exact step_send h hwa hb0x hb0r hb01 n hpc hn a' b' c' ha hb hc hi hl ho ht
  rw [if_neg h5]
  by_cases h6 : op = 13
  · subst h6; rw [if_pos rfl]
    obtain ⟨fa, fb⟩ := f_ab hf (.inr rfl)
    obtain ⟨a', rfl, ha⟩ := reg_nat fa
    obtain ⟨b', rfl, hb⟩ := reg_nat fb
    exact step_13 h hwa hb0x hb0r hb01 n hpc hn a' b' c ha hb hd (hr.reg b').2 hi
  rw [if_neg h6]
  by_cases h7 : op = 14
  · subst h7; rw [if_pos rfl]
    obtain ⟨a', rfl, ha⟩ := reg_nat (f_a hf (.inl rfl))
    exact step_14 h hwa hb0x hb0r hb01 n hpc hn a' b c ha hi
  rw [if_neg h7]
  by_cases h8 : op = 15
  · subst h8; rw [if_pos rfl]
    obtain ⟨a', rfl, ha⟩ := reg_nat (f_a hf (.inr (.inl rfl)))
    exact step_15 h hwa hb0x hb0r hb01 n hpc hn a' b c ha hi
  rw [if_neg h8]
  by_cases h9 : op = 16
  · subst h9; rw [if_pos rfl]
    obtain ⟨a', rfl, ha⟩ := reg_nat (f_a hf (.inr (.inr rfl)))
    exact step_16 h hwa hb0x hb0r hb01 n hpc hn a' b c ha hi
  rw [if_neg h9]
  have htwo := f_two hf h0 h1 h2 h3 h4 h5 h6 h7 h8 h9
  obtain ⟨fa, fb, fc⟩ := f_abc hf (.inl htwo)
  obtain ⟨a', rfl, ha⟩ := reg_nat fa
  obtain ⟨b', rfl, hb⟩ := reg_nat fb
  obtain ⟨c', rfl, hc⟩ := reg_nat fc
  exact step_math h hwa hb0x hb0r hb01 n hpc hn op a' b' c' ha hb hc htwo hi
end
end Go.Proofs.YtghbdpjegmdhbaaDoor
