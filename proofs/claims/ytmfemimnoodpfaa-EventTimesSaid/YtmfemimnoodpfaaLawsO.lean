/-
  The laws of layer 2 on the order of keys: at every key they answer true, and what lay in memory is as it was.
-/
import Derived.Test.YtmfemimnoodpfaaLawsK
namespace Go.Proofs.Ytmfemimnoodpfaa
open Go.ChangeShapes Go.WideShapes Go.ChangeAt Go.RowKit Go.Sort

theorem cmpK_neg (a b : K) : cmpK b a = - cmpK a b := by
  unfold cmpK sgn
  repeat' split
  all_goals omega
theorem cmpK_zero {a b : K} (h : cmpK a b = 0) : a = b := Decidable.byContradiction fun hn => cmpK_ne hn h
theorem cmpK_range (a b : K) : cmpK a b = -1 ∨ cmpK a b = 0 ∨ cmpK a b = 1 := by
  unfold cmpK sgn
  repeat' split
  all_goals omega
theorem cmpK_lt {a b : K} : cmpK a b < 0 ↔ a.t < b.t ∨ (a.t = b.t ∧ (a.f < b.f ∨ (a.f = b.f ∧ a.s < b.s))) := by
  unfold cmpK sgn
  repeat' split
  all_goals omega
theorem cmpK_le {a b : K} : cmpK a b ≤ 0 ↔ a.t < b.t ∨ (a.t = b.t ∧ (a.f < b.f ∨ (a.f = b.f ∧ a.s ≤ b.s))) := by
  unfold cmpK sgn
  repeat' split
  all_goals omega
theorem cmpK_trans {a b c : K} (h : cmpK a b ≤ 0) (h' : cmpK b c ≤ 0) : cmpK a c ≤ 0 := by
  rw [cmpK_le] at *
  omega
theorem cmpK_trans' {a b c : K} (h : cmpK a b < 0) (h' : cmpK b c ≤ 0) : cmpK a c < 0 := by
  rw [cmpK_le] at h'
  rw [cmpK_lt] at *
  omega

theorem lawEventTimes (a : K) (_ : a.fits) (b : K) (_ : b.fits) (w : World) :
    Calls Try.prog 11 #[a.val, b.val] w fun e w' => e = .returned (.bool true) ∧ Below w.heap.size w w' := by
  have h1 := fun w => eCompare_any a b w
  have h3 := awake_any
  have hl := (KeyAt.mk w a).read (Read.mk _ (.cells b.cells 23))
  have hr : KeyAt ((w.alloc (.cells a.cells 23)).alloc (.cells b.cells 23)) (w.heap.size + 1) 0 b := by
    have := KeyAt.mk (w.alloc (.cells a.cells 23)) b
    simpa using this
  have hrd := Read.two w (.cells a.cells 23) (.cells b.cells 23)
  by_cases ht : a.t = b.t
  · by_cases hf : a.f = b.f
    · have c1 : decide (cmpK a b < 0) = decide (a.s < b.s) := by
        rw [cmpK_s ht hf]; unfold sgn; repeat' split
        all_goals simp <;> omega
      have c2 : (cmpK a b == 0) = (a.s == b.s) := by
        rw [cmpK_s ht hf]; unfold sgn; repeat' split
        all_goals simp <;> omega
      generalize cmpK a b = r at h1 c1 c2
      obtain ⟨t, f, s⟩ := a
      obtain ⟨t', f', s'⟩ := b
      simp only at ht hf c1 c2
      subst ht hf
      simp only [K.val, K.cells] at h1 hl hr hrd ⊢
      go_enter Try.func11, Try.ntmps11
      go_wp2_with (first | (go_at_call 13; refine (h1 _).mono ?_; rintro e w1 ⟨rfl, hr1⟩; obtain ⟨_, l0, l1, l2⟩ := hl.read hr1; obtain ⟨_, r0, r1, r2⟩ := hr.read hr1; simp only [Nat.zero_add] at l0 l1 l2 r0 r1 r2) | (go_at_call 15; refine (h3 _).mono ?_; rintro e w2 ⟨rfl, hr2⟩))
      go_ret
      exact ⟨rfl, ((hrd.trans hr1).trans hr2).below⟩
    · have c1 : decide (cmpK a b < 0) = decide (a.f < b.f) := by
        rw [cmpK_f ht hf]; unfold sgn; repeat' split
        all_goals simp <;> omega
      have c2 : (cmpK a b != 0) = true := by
        rw [cmpK_f ht hf]; unfold sgn; repeat' split
        all_goals simp <;> omega
      generalize cmpK a b = r at h1 c1 c2
      obtain ⟨t, f, s⟩ := a
      obtain ⟨t', f', s'⟩ := b
      simp only at ht hf c1 c2
      subst ht
      simp only [K.val, K.cells] at h1 hl hr hrd ⊢
      go_enter Try.func11, Try.ntmps11
      go_wp2_with (first | (go_at_call 13; refine (h1 _).mono ?_; rintro e w1 ⟨rfl, hr1⟩; obtain ⟨_, l0, l1, l2⟩ := hl.read hr1; obtain ⟨_, r0, r1, r2⟩ := hr.read hr1; simp only [Nat.zero_add] at l0 l1 l2 r0 r1 r2) | (go_at_call 15; refine (h3 _).mono ?_; rintro e w2 ⟨rfl, hr2⟩))
      go_ret
      exact ⟨rfl, (hrd.trans hr1).below⟩
  · have c1 : decide (cmpK a b < 0) = decide (a.t < b.t) := by
      rw [cmpK_t ht]; unfold sgn; repeat' split
      all_goals simp <;> omega
    have c2 : (cmpK a b != 0) = true := by
      rw [cmpK_t ht]; unfold sgn; repeat' split
      all_goals simp <;> omega
    generalize cmpK a b = r at h1 c1 c2
    obtain ⟨t, f, s⟩ := a
    obtain ⟨t', f', s'⟩ := b
    simp only at ht c1 c2
    simp only [K.val, K.cells] at h1 hl hr hrd ⊢
    go_enter Try.func11, Try.ntmps11
    go_wp2_with (first | (go_at_call 13; refine (h1 _).mono ?_; rintro e w1 ⟨rfl, hr1⟩; obtain ⟨_, l0, l1, l2⟩ := hl.read hr1; obtain ⟨_, r0, r1, r2⟩ := hr.read hr1; simp only [Nat.zero_add] at l0 l1 l2 r0 r1 r2) | (go_at_call 15; refine (h3 _).mono ?_; rintro e w2 ⟨rfl, hr2⟩))
    go_ret
    exact ⟨rfl, (hrd.trans hr1).below⟩

theorem order_cases (a b c : K) : ((cmpK a b = -1 ∧ cmpK b c = -1 ∧ cmpK a c = -1) ∨ (cmpK a b = -1 ∧ cmpK b c = 0 ∧ cmpK a c = -1) ∨ (cmpK a b = -1 ∧ cmpK b c = 1) ∨ (cmpK a b = 0 ∧ cmpK b c = -1 ∧ cmpK a c = -1) ∨
    (cmpK a b = 0 ∧ cmpK b c = 0 ∧ cmpK a c = 0) ∨ (cmpK a b = 0 ∧ cmpK b c = 1 ∧ cmpK a c = 1) ∨ (cmpK a b = 1 ∧ cmpK b c = -1) ∨ (cmpK a b = 1 ∧ cmpK b c = 0 ∧ cmpK a c = 1) ∨ (cmpK a b = 1 ∧ cmpK b c = 1 ∧ cmpK a c = 1)) := by
  have r1 := cmpK_range a b
  have r2 := cmpK_range b c
  have r3 := cmpK_range a c
  have e1 : cmpK a b = 0 → cmpK a c = cmpK b c := fun h => by rw [cmpK_zero h]
  have e2 : cmpK b c = 0 → cmpK a c = cmpK a b := fun h => by rw [cmpK_zero h]
  have t1 : cmpK a b < 0 → cmpK b c ≤ 0 → cmpK a c < 0 := cmpK_trans'
  have t2 : cmpK c b < 0 → cmpK b a ≤ 0 → cmpK c a < 0 := cmpK_trans'
  rw [cmpK_neg a b, cmpK_neg b c, cmpK_neg a c] at t2
  generalize cmpK a b = x at *
  generalize cmpK b c = y at *
  generalize cmpK a c = z at *
  rcases r1 with rfl | rfl | rfl <;> rcases r2 with rfl | rfl | rfl <;> rcases r3 with rfl | rfl | rfl <;> simp at e1 e2 t1 t2 ⊢

set_option maxHeartbeats 4000000 in
theorem lawEventOrder (a : K) (_ : a.fits) (b : K) (_ : b.fits) (c : K) (_ : c.fits) (w : World) :
    Calls Try.prog 8 #[a.val, b.val, c.val] w fun e w' => e = .returned (.bool true) ∧ Below w.heap.size w w' := by
  have h3 := awake_any
  have hcmp := fun t f s t' f' s' w => eCompare_any ⟨t, f, s⟩ ⟨t', f', s'⟩ w
  have he := fun w => eqlK a b w
  have hn := cmpK_neg a b
  have hc := order_cases a b c
  have hd : decide (a = b) = (cmpK a b == 0) := by
    by_cases h : a = b
    · subst h; simp [cmpK_self]
    · simp [h, cmpK_ne h]
  rw [hd] at he
  clear hd
  have ha := ((KeyAt.mk w a).read (Read.mk _ (.cells b.cells 23))).read (Read.mk _ (.cells c.cells 23))
  have hb : KeyAt ((w.alloc (.cells a.cells 23)).alloc (.cells b.cells 23)) (w.heap.size + 1) 0 b := by
    have := KeyAt.mk (w.alloc (.cells a.cells 23)) b
    simpa using this
  replace hb := hb.read (Read.mk _ (.cells c.cells 23))
  have hk : KeyAt (((w.alloc (.cells a.cells 23)).alloc (.cells b.cells 23)).alloc (.cells c.cells 23)) (w.heap.size + 2) 0 c := by
    have := KeyAt.mk ((w.alloc (.cells a.cells 23)).alloc (.cells b.cells 23)) c
    simpa using this
  have hrd := (Read.two w (.cells a.cells 23) (.cells b.cells 23)).trans (Read.mk _ (.cells c.cells 23))
  obtain ⟨t, f, s⟩ := a
  obtain ⟨t', f', s'⟩ := b
  obtain ⟨t2, f2, s2⟩ := c
  simp only [K.val, K.cells] at hcmp he ha hb hk hrd ⊢
  rcases hc with ⟨q1, q2, q3⟩ | ⟨q1, q2, q3⟩ | ⟨q1, q2⟩ | ⟨q1, q2, q3⟩ | ⟨q1, q2, q3⟩ | ⟨q1, q2, q3⟩ | ⟨q1, q2⟩ | ⟨q1, q2, q3⟩ | ⟨q1, q2, q3⟩
  all_goals
    rw [q1] at hn he
    simp at hn he
    go_enter Try.func8, Try.ntmps8
    go_wp2_with (first | (go_at_call 13; refine (hcmp _ _ _ _ _ _ _).mono ?_; rintro e w1 ⟨rfl, hr1⟩; replace ha := ha.read hr1; replace hb := hb.read hr1; replace hk := hk.read hr1; replace hrd := hrd.trans hr1; obtain ⟨_, a0, a1, a2⟩ := id ha; obtain ⟨_, b0, b1, b2⟩ := id hb; obtain ⟨_, c0, c1, c2⟩ := id hk; simp only [Nat.zero_add] at a0 a1 a2 b0 b1 b2 c0 c1 c2) | (go_at_call 15; refine (h3 _).mono ?_; rintro e w2 ⟨rfl, hr2⟩))
    go_ret
    exact ⟨rfl, (hrd.trans hr2).below⟩

end Go.Proofs.Ytmfemimnoodpfaa
