/-
  What certain programs come to, and what any program's run keeps: plain data, no program of the seat's.
-/
import Derived.Test.YtghbdpjegmdhbaaDoorVmQ
namespace Go.Proofs.YtghbdpjegmdhbaaDoor
open Go.ChangeShapes Go.WideShapes Go.ChangeAt Go.RowKit Go.Sort
set_option linter.unusedVariables false
set_option maxRecDepth 8000

/-- No event. -/
def noM : M := ⟨⟨0, 0, 0⟩, 0, 0, 0, false⟩
theorem runW_go {W : Wd} {s : Sta} {ev : M} (h : checkW W = 0) (hm : chkM ev = 0) (hs : s.mayB = true) : runW W s ev = endP s (runP W ev 4096 (firstP s)) := by
  unfold runW
  rw [if_neg (by simp [h]), if_neg (by simp [hm, hs])]
theorem runW_msg {W : Wd} {s : Sta} {ev : M} (h : checkW W = 0) (hm : ¬ (chkM ev = 0 ∧ s.mayB = true)) : runW W s ev = (Sta.zero, [], 1) := by
  unfold runW
  rw [if_neg (by simp [h]), if_pos (by
    by_cases h1 : chkM ev = 0
    · right
      cases hb : s.mayB
      · rfl
      · exact absurd ⟨h1, hb⟩ hm
    · exact .inl h1)]
theorem runW_chk {W : Wd} {s : Sta} {ev : M} (h : checkW W ≠ 0) : runW W s ev = (Sta.zero, [], checkW W) := by
  unfold runW
  rw [if_pos h]
theorem checkW_plain {P : List I} {x : Int} (h : checkN P = 0) (hx : 0 ≤ x ∧ x < 16) (d : Nat) : checkW ⟨P, x, [], d⟩ = 0 := by
  unfold checkW
  rw [if_neg (by simp [h]), if_neg (by simp; omega), if_pos (by rfl)]
theorem zero_may : Sta.zero.mayB = true := by decide

/-! What a handler sees. -/
def tellsI : List I := [⟨14, 0, 0, 0⟩, ⟨15, 1, 0, 0⟩, ⟨16, 2, 0, 0⟩, ⟨2, 3, 0, 0⟩]
theorem tellsP (x : Int) (ev : M) : runP ⟨tellsI, x, [], 0⟩ ev 4096 (firstP Sta.zero) = .stop ⟨[ev.v, ev.k.t, x, ev.v, 0, 0, 0, 0, 0, 0, 0, 0, 0, 0, 0, 0], 0, [], 4⟩ := by
  kernel_rfl
theorem tells_check (x : Int) (hx : 0 ≤ x ∧ x < 16) : checkW ⟨tellsI, x, [], 0⟩ = 0 := checkW_plain (by decide +kernel) hx 0
theorem tellsR (x : Int) (hx : 0 ≤ x ∧ x < 16) (ev : M) (h : chkM ev = 0) : runW ⟨tellsI, x, [], 0⟩ Sta.zero ev = (⟨[ev.v, ev.k.t, x, ev.v, 0, 0, 0, 0], 0, 0⟩, [], 0) := by
  rw [runW_go (tells_check x hx) h zero_may, tellsP]
  rfl
theorem tellsF (x : Int) (hx : 0 ≤ x ∧ x < 16) (ev : M) (h : chkM ev ≠ 0) : runW ⟨tellsI, x, [], 0⟩ Sta.zero ev = (⟨[0, 0, 0, 0, 0, 0, 0, 0], 0, 0⟩, [], 1) :=
  runW_msg (tells_check x hx) (fun hh => h hh.1)

/-! Two numbers and an instruction. -/
def sumsI (o a b : Int) : List I := [⟨1, 8, a, 0⟩, ⟨1, 9, b, 0⟩, ⟨o, 0, 8, 9⟩]
theorem sums_check {o a b : Int} (ho : o = 3 ∨ o = 4 ∨ o = 5 ∨ o = 6 ∨ o = 7 ∨ o = 8 ∨ o = 9) (ha : -2147483648 ≤ a ∧ a ≤ 2147483647) (hb : -2147483648 ≤ b ∧ b ≤ 2147483647) : checkN (sumsI o a b) = 0 := by
  have h1 : wordB a = true := by simp [wordB]; omega
  have h2 : wordB b = true := by simp [wordB]; omega
  rcases ho with rfl | rfl | rfl | rfl | rfl | rfl | rfl <;> simp [checkN, sumsI, mayB, fieldsB, restI, restB, usedOf, regB, h1, h2]
theorem sumsP {o a b : Int} (ho : o = 3 ∨ o = 4 ∨ o = 5 ∨ o = 6 ∨ o = 7 ∨ o = 8 ∨ o = 9) : runP ⟨sumsI o a b, 0, [], 0⟩ noM 4096 (firstP Sta.zero) = .stop ⟨[mathP o a b, 0, 0, 0, 0, 0, 0, 0, a, b, 0, 0, 0, 0, 0, 0], 0, [], 3⟩ := by
  rcases ho with rfl | rfl | rfl | rfl | rfl | rfl | rfl <;> kernel_rfl
theorem sumsR {o a b : Int} (ho : o = 3 ∨ o = 4 ∨ o = 5 ∨ o = 6 ∨ o = 7 ∨ o = 8 ∨ o = 9) (ha : -2147483648 ≤ a ∧ a ≤ 2147483647) (hb : -2147483648 ≤ b ∧ b ≤ 2147483647) :
    runW ⟨sumsI o a b, 0, [], 0⟩ Sta.zero noM = (⟨[mathP o a b, 0, 0, 0, 0, 0, 0, 0], 0, 0⟩, [], 0) := by
  rw [runW_go (checkW_plain (sums_check ho ha hb) (by omega) 0) (by decide) zero_may, sumsP ho]
  rfl

/-! Nothing done. -/
theorem staysR {P : List I} {s : Sta} {ev : M} (hP : P = [] ∨ ∃ r, P = ⟨0, 0, 0, 0⟩ :: r) (hl : s.r.length = 8) (hc : checkW ⟨P, 0, [], 0⟩ = 0) (hm : chkM ev = 0) (hs : s.mayB = true) : runW ⟨P, 0, [], 0⟩ s ev = (s, [], 0) := by
  have hst : runP ⟨P, 0, [], 0⟩ ev 4096 (firstP s) = .stop (firstP s) ∨ runP ⟨P, 0, [], 0⟩ ev 4096 (firstP s) = .stop { firstP s with pc := 1 } := by
    rcases hP with rfl | ⟨r, rfl⟩
    · exact .inl (runP_end (by simp [firstP]))
    · refine .inr (runP_stop (m' := { firstP s with pc := 1 }) (by simp [firstP]) ?_)
      rfl
  rw [runW_go hc hm hs]
  obtain ⟨r, d, n⟩ := s
  simp only at hl
  rcases hst with h | h <;> rw [h] <;> simp [endP, firstP, hl]
end Go.Proofs.YtghbdpjegmdhbaaDoor
