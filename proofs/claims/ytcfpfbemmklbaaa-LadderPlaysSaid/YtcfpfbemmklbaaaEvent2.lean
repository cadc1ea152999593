
/-
  The contracts of the functions of package event over keys and messages, and of the document's own answers for them, each at every key and every message.
-/
import Derived.Test.YtcfpfbemmklbaaaEvent
namespace Go.Proofs.Ytcfpfbemmklbaaa
open Go.ChangeShapes Go.WideShapes Go.ChangeAt Go.RowKit Go.Sort

theorem cmpK_t {a b : K} (h : a.t ≠ b.t) : cmpK a b = sgn a.t b.t := by simp [cmpK, h]
theorem cmpK_f {a b : K} (h : a.t = b.t) (h' : a.f ≠ b.f) : cmpK a b = sgn a.f b.f := by simp [cmpK, h, h']
theorem cmpK_s {a b : K} (h : a.t = b.t) (h' : a.f = b.f) : cmpK a b = sgn a.s b.s := by simp [cmpK, h, h']

theorem eCompare_any (a b : K) (w : World) : Calls Try.prog 49 #[a.val, b.val] w fun e w' => e = .returned (.int .i64 (cmpK a b)) ∧ Read w w' := by
  have he := fun w => eqlK a b w
  by_cases h : a = b
  · have hd : decide (a = b) = true := by simpa using h
    have hr : cmpK a b = 0 := by subst h; simp [cmpK, sgn]
    rw [hd] at he
    rw [hr]
    clear h hd hr
    obtain ⟨t, f, s⟩ := a
    obtain ⟨t', f', s'⟩ := b
    simp only [K.val] at he ⊢
    go_enter Try.func49, Try.ntmps49
    go_wp2
    go_ret
    exact ⟨rfl, Read.alloc _ (Read.mk _ _)⟩
  · have hd : decide (a = b) = false := by simpa using h
    rw [hd] at he
    by_cases ht : a.t = b.t
    · by_cases hf : a.f = b.f
      · rw [cmpK_s ht hf]
        clear h hd
        obtain ⟨t, f, s⟩ := a
        obtain ⟨t', f', s'⟩ := b
        simp only at ht hf
        subst ht hf
        simp only [K.val] at he ⊢
        have hcon := fun w => cmpint_any s s' w
        generalize sgn s s' = r at hcon ⊢
        go_enter Try.func49, Try.ntmps49
        go_wp2_with (go_at_call 56; refine (hcon _).mono ?_; rintro e w' ⟨rfl, rfl⟩)
        go_ret
        exact ⟨rfl, Read.alloc _ (Read.mk _ _)⟩
      · rw [cmpK_f ht hf]
        clear h hd
        obtain ⟨t, f, s⟩ := a
        obtain ⟨t', f', s'⟩ := b
        simp only at ht hf
        subst ht
        simp only [K.val] at he ⊢
        have hcon := fun w => cmpint_any f f' w
        generalize sgn f f' = r at hcon ⊢
        go_enter Try.func49, Try.ntmps49
        go_wp2_with (go_at_call 56; refine (hcon _).mono ?_; rintro e w' ⟨rfl, rfl⟩)
        go_ret
        exact ⟨rfl, Read.alloc _ (Read.mk _ _)⟩
    · rw [cmpK_t ht]
      clear h hd
      obtain ⟨t, f, s⟩ := a
      obtain ⟨t', f', s'⟩ := b
      simp only at ht
      simp only [K.val] at he ⊢
      have hcon := fun w => cmp64_any t t' w
      generalize sgn t t' = r at hcon ⊢
      go_enter Try.func49, Try.ntmps49
      go_wp2_with (go_at_call 55; refine (hcon _).mono ?_; rintro e w' ⟨rfl, rfl⟩)
      go_ret
      exact ⟨rfl, Read.alloc _ (Read.mk _ _)⟩
theorem rCompare_any (a b : K) (w : World) : Calls Try.prog 59 #[a.val, b.val] w fun e w' => e = .returned (.int .i64 (cmpK a b)) ∧ Read w w' := by
  by_cases ht : a.t = b.t
  · by_cases hf : a.f = b.f
    · rw [cmpK_s ht hf]
      obtain ⟨t, f, s⟩ := a
      obtain ⟨t', f', s'⟩ := b
      simp only at ht hf
      subst ht hf
      simp only [K.val]
      have hcon := fun w => rsign_any s s' w
      generalize sgn s s' = r at hcon ⊢
      go_enter Try.func59, Try.ntmps59
      go_wp2_with (go_at_call 69; refine (hcon _).mono ?_; rintro e w' ⟨rfl, rfl⟩)
      go_ret
      exact ⟨rfl, Read.alloc _ (Read.mk _ _)⟩
    · rw [cmpK_f ht hf]
      obtain ⟨t, f, s⟩ := a
      obtain ⟨t', f', s'⟩ := b
      simp only at ht hf
      subst ht
      simp only [K.val]
      have hcon := fun w => rsign_any f f' w
      generalize sgn f f' = r at hcon ⊢
      go_enter Try.func59, Try.ntmps59
      go_wp2_with (go_at_call 69; refine (hcon _).mono ?_; rintro e w' ⟨rfl, rfl⟩)
      go_ret
      exact ⟨rfl, Read.alloc _ (Read.mk _ _)⟩
  · rw [cmpK_t ht]
    obtain ⟨t, f, s⟩ := a
    obtain ⟨t', f', s'⟩ := b
    simp only at ht
    simp only [K.val]
    have hcon := fun w => rsign_any t t' w
    generalize sgn t t' = r at hcon ⊢
    go_enter Try.func59, Try.ntmps59
    go_wp2_with (go_at_call 69; refine (hcon _).mono ?_; rintro e w' ⟨rfl, rfl⟩)
    go_ret
    exact ⟨rfl, Read.alloc _ (Read.mk _ _)⟩
/-- Of one sending. -/
def oneM (a b : M) : Bool := decide (a.k.f = b.k.f) && decide (a.u = b.u)
def twinsM (a b : M) : Bool := oneM a b && (a.anti != b.anti)
def twinM (a : M) : M := { a with anti := !a.anti }

theorem cmpK_ne {a b : K} (h : a ≠ b) : cmpK a b ≠ 0 := by
  obtain ⟨t, f, s⟩ := a
  obtain ⟨t', f', s'⟩ := b
  unfold cmpK sgn
  simp only [ne_eq, K.mk.injEq, not_and] at h ⊢
  repeat' split
  all_goals first | omega | (exfalso; apply h <;> omega) | skip
theorem cmpK_self (a : K) : cmpK a a = 0 := by simp [cmpK, sgn]
theorem eBefore_any (a b : M) (w : World) : Calls Try.prog 32 #[a.val, b.val] w fun e w' => e = .returned (.bool (ltM a b)) ∧ Read w w' := by
  have he := fun w => neqK a.k b.k w
  by_cases h : a.k = b.k
  · have hd : decide (a.k = b.k) = true := by simpa using h
    have hr : ltM a b = decide (a.u < b.u) := by simp [ltM, h, cmpK_self]
    rw [hd] at he
    rw [hr]
    clear h hd hr
    obtain ⟨⟨t, f, s⟩, to, v, u, an⟩ := a
    obtain ⟨⟨t', f', s'⟩, to', v', u', an'⟩ := b
    simp only [K.val, M.val, Bool.not_true] at he ⊢
    go_enter Try.func32, Try.ntmps32
    go_wp2
    go_ret
    exact ⟨rfl, Read.alloc _ (Read.mk _ _)⟩
  · have hd : decide (a.k = b.k) = false := by simpa using h
    have hr : ltM a b = decide (cmpK a.k b.k < 0) := by simp [ltM, cmpK_ne h]
    have hcon := fun w => eCompare_any a.k b.k w
    rw [hd] at he
    rw [hr]
    clear h hd hr
    generalize cmpK a.k b.k = r at hcon ⊢
    obtain ⟨⟨t, f, s⟩, to, v, u, an⟩ := a
    obtain ⟨⟨t', f', s'⟩, to', v', u', an'⟩ := b
    simp only [K.val, M.val, Bool.not_false] at he hcon ⊢
    go_enter Try.func32, Try.ntmps32
    go_wp2_with (go_at_call 49; refine (hcon _).mono ?_; rintro e w' ⟨rfl, hr⟩)
    go_ret
    exact ⟨rfl, Read.alloc _ (Read.alloc _ hr)⟩

end Go.Proofs.Ytcfpfbemmklbaaa
