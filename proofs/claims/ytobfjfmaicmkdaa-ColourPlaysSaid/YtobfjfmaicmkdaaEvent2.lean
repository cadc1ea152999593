
/-
  The contracts of the functions of package event over keys and messages, and of the document's own answers for them, each at every key and every message.
-/
import Derived.Test.YtobfjfmaicmkdaaEvent
namespace Go.Proofs.Ytobfjfmaicmkdaa
open Go.ChangeShapes Go.WideShapes Go.ChangeAt Go.RowKit Go.Sort

theorem cmpK_t {a b : K} (h : a.t ≠ b.t) : cmpK a b = sgn a.t b.t := by simp [cmpK, h]
theorem cmpK_f {a b : K} (h : a.t = b.t) (h' : a.f ≠ b.f) : cmpK a b = sgn a.f b.f := by simp [cmpK, h, h']
theorem cmpK_s {a b : K} (h : a.t = b.t) (h' : a.f = b.f) : cmpK a b = sgn a.s b.s := by simp [cmpK, h, h']

/-- Of one sending. -/
def oneM (a b : M) : Bool := decide (a.k.f = b.k.f) && decide (a.u = b.u)
def twinsM (a b : M) : Bool := oneM a b && (a.anti != b.anti)
def twinM (a : M) : M := { a with anti := !a.anti }

theorem cmpK_ne {a b : K} (h : a ≠ b) : cmpK a b ≠ 0 := by
  obtain ⟨t, f, s⟩ := a
  obtain ⟨t', f', s'⟩ := b
  unfold cmpK sgn
  simp only [ne_eq, K.mk.injEq, not_and] at h ⊢
  repeat' split
  all_goals first | omega | (exfalso; apply h <;> omega) | skip
theorem cmpK_self (a : K) : cmpK a a = 0 := by simp [cmpK, sgn]
end Go.Proofs.Ytobfjfmaicmkdaa
