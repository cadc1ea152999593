
/-
  Plain lists of messages, of unlike sendings; the message of zero values. No model in this text but that.
-/
import Derived.Test.YtcfpfbemmklbaaaEnc
namespace Go.Proofs.Ytcfpfbemmklbaaa
open Go.Sort
set_option linter.unusedVariables false

/-- The message of zero values. -/
def zeroM : M := ⟨⟨0, 0, 0⟩, 0, 0, 0, false⟩

/-! Of unlike sendings there is one order. -/
/-- Is the sending among them? -/
def hasS (T : List M) (f u : Int) : Bool := T.any fun m => decide (m.k.f = f) && decide (m.u = u)
/-- Of one sending. -/
def sameS (a b : M) : Prop := a.k.f = b.k.f ∧ a.u = b.u
/-- No two of one sending. -/
def Unlike (T : List M) : Prop := T.Pairwise fun a b => ¬ sameS a b
theorem sameS.symm {a b : M} (h : sameS a b) : sameS b a := ⟨h.1.symm, h.2.symm⟩
theorem Unlike.perm {A B : List M} (h : Unlike A) (hp : A.Perm B) : Unlike B := (hp.pairwise_iff (fun {a b} (h : ¬ sameS a b) (h' : sameS b a) => h h'.symm)).1 h
theorem same_of_no {a b : M} (h : ltM a b = false) (h' : ltM b a = false) : sameS a b := by
  rw [ltM_no] at h h'
  unfold sameS
  omega
theorem sorted_unique : ∀ {A B : List M}, A.Perm B → InOrder ltM A → InOrder ltM B → Unlike A → A = B
  | [], B, hp, _, _, _ => hp.nil_eq
  | a :: A, [], hp, _, _, _ => by have := hp.length_eq; simp at this
  | a :: A, b :: B, hp, hA, hB, hU => by
    have hA' := List.pairwise_cons.1 hA
    have hB' := List.pairwise_cons.1 hB
    have hU' := List.pairwise_cons.1 hU
    have e : a = b := by
      have ha : a ∈ b :: B := hp.mem_iff.1 (List.mem_cons_self ..)
      have hb : b ∈ a :: A := hp.mem_iff.2 (List.mem_cons_self ..)
      rcases List.mem_cons.1 ha with h | ha
      · exact h
      · rcases List.mem_cons.1 hb with h | hb
        · exact h.symm
        · exact absurd (same_of_no (hB'.1 a ha) (hA'.1 b hb)) (hU'.1 b hb)
    subst e
    rw [sorted_unique hp.cons_inv hA'.2 hB'.2 hU'.2]
theorem stab_unique {A B : List M} (hp : A.Perm B) (hB : InOrder ltM B) (hU : Unlike A) : stab ltM A = B :=
  sorted_unique ((stab_perm A).trans hp) (stab_inOrder ordM A) hB (hU.perm (stab_perm A).symm)

theorem hasS_iff {T : List M} {f u : Int} : hasS T f u = true ↔ ∃ m ∈ T, m.k.f = f ∧ m.u = u := by
  simp [hasS, List.any_eq_true, Bool.and_eq_true]
theorem hasS_no {T : List M} {f u : Int} (h : hasS T f u = false) : ∀ m ∈ T, ¬ (m.k.f = f ∧ m.u = u) := fun m hm e => by
  rw [hasS_iff.2 ⟨m, hm, e⟩] at h
  cases h
theorem hasS_perm {A B : List M} (hp : A.Perm B) (f u : Int) : hasS A f u = hasS B f u := by
  rw [Bool.eq_iff_iff, hasS_iff, hasS_iff]
  exact ⟨fun ⟨m, hm, e⟩ => ⟨m, hp.mem_iff.1 hm, e⟩, fun ⟨m, hm, e⟩ => ⟨m, hp.mem_iff.2 hm, e⟩⟩
theorem unlike_snoc {T : List M} {m : M} (h : Unlike T) (hn : hasS T m.k.f m.u = false) : Unlike (T ++ [m]) := by
  refine List.pairwise_append.2 ⟨h, List.pairwise_singleton _ _, fun a ha b hb => ?_⟩
  rw [List.mem_singleton.1 hb]
  exact hasS_no hn a ha
/-- One more, in order. -/
theorem put_list {T : List M} {m : M} (hO : InOrder ltM T) (hU : Unlike T) (hn : hasS T m.k.f m.u = false) :
    InOrder ltM (mg ltM T [m]) ∧ Unlike (mg ltM T [m]) ∧ (mg ltM T [m]).Perm (T ++ [m]) ∧ (mg ltM T [m]).length = T.length + 1 :=
  ⟨mg_inOrder ordM _ _ hO (one_inOrder m), (unlike_snoc hU hn).perm (mg_perm T [m]).symm, mg_perm T [m], by rw [mg_length]; rfl⟩
/-- The first one taken. -/
theorem pop_list {l l' T : List M} {m : M} (hl : l.Perm T) (hp : (m :: l').Perm l) (hmin : ∀ x ∈ l, ltM x m = false) (hT : InOrder ltM T) (hU : Unlike T) : ∃ T', T = m :: T' ∧ l'.Perm T' := by
  refine ⟨stab ltM l', ?_, (stab_perm l').symm⟩
  refine sorted_unique (hl.symm.trans (hp.symm.trans ((stab_perm l').symm.cons m))) hT ?_ hU
  refine List.pairwise_cons.2 ⟨fun x hx => hmin x ?_, stab_inOrder ordM l'⟩
  exact hp.mem_iff.1 (List.mem_cons_of_mem _ ((stab_perm l').mem_iff.1 hx))
/-- One taken out. -/
theorem erase_perm {T : List M} {i : Nat} (hi : i < T.length) : (T[i] :: T.eraseIdx i).Perm T := by
  have h := List.perm_middle (a := T[i]) (l₁ := T.take i) (l₂ := T.drop (i + 1))
  rw [← List.drop_eq_getElem_cons hi, List.take_append_drop] at h
  rw [List.eraseIdx_eq_take_drop_succ]
  exact h.symm
theorem cut_list {l l' T : List M} {i : Nat} (hi : i < T.length) (hl : l.Perm T) (hp : (T[i] :: l').Perm l) : l'.Perm (T.eraseIdx i) :=
  List.Perm.cons_inv ((hp.trans hl).trans (erase_perm hi).symm)
theorem erase_keeps {T : List M} (i : Nat) (hO : InOrder ltM T) (hU : Unlike T) : InOrder ltM (T.eraseIdx i) ∧ Unlike (T.eraseIdx i) :=
  ⟨List.Pairwise.sublist (List.eraseIdx_sublist ..) hO, List.Pairwise.sublist (List.eraseIdx_sublist ..) hU⟩
theorem hasS_erase {T R : List M} {m : M} (hp : (m :: R).Perm T) (hU : Unlike T) (f u : Int) : hasS R f u = (hasS T f u && !(decide (f = m.k.f) && decide (u = m.u))) := by
  have hU' := List.pairwise_cons.1 (hU.perm hp.symm)
  rw [← hasS_perm hp]
  have e : hasS (m :: R) f u = ((decide (m.k.f = f) && decide (m.u = u)) || hasS R f u) := by simp [hasS]
  rw [e]
  by_cases h : m.k.f = f ∧ m.u = u
  · obtain ⟨rfl, rfl⟩ := h
    have : hasS R m.k.f m.u = false := by
      cases h : hasS R m.k.f m.u with
      | false => rfl
      | true =>
        obtain ⟨x, hx, e1, e2⟩ := hasS_iff.1 h
        exact absurd ⟨e1.symm, e2.symm⟩ (hU'.1 x hx)
    simp [this]
  · have h1 : (decide (m.k.f = f) && decide (m.u = u)) = false := by
      by_cases a : m.k.f = f <;> by_cases b : m.u = u <;> simp_all
    have h2 : (decide (f = m.k.f) && decide (u = m.u)) = false := by
      by_cases a : f = m.k.f <;> by_cases b : u = m.u <;> simp_all
    rw [h1, h2]
    simp

end Go.Proofs.Ytcfpfbemmklbaaa
