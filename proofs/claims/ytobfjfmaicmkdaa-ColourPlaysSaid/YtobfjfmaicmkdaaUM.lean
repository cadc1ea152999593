
/-
  How large counts become in a play of tallies and a token. Plain data; what a call makes of both sides.
-/
import Derived.Test.YtobfjfmaicmkdaaUL
namespace Go.Proofs.Ytobfjfmaicmkdaa
open Go.ChangeShapes Go.WideShapes Go.ChangeAt Go.Shelf Go.RowKit Go.Lib Go.Sort Go.Deep Col
set_option linter.unusedVariables false
set_option maxRecDepth 4000

/-- A tally's counts behind st steps. -/
def Ta.bd (st : Nat) (t : Ta) : Prop := (-(st : Int) ≤ t.n0 ∧ t.n0 ≤ st) ∧ -(st : Int) ≤ t.n1 ∧ t.n1 ≤ st
structure Sm (N st : Nat) (ts : Nat → Ta) (k : Tk) : Prop where
  ta : ∀ j, Ta.bd st (ts j)
  n : k.n = N
  at' : k.at' < N
  sum : -(4398046511104 * (k.at' : Int)) ≤ k.sum ∧ k.sum ≤ 4398046511104 * (k.at' : Int)
section
variable {N st : Nat} {ts : Nat → Ta} {k : Tk} {t : Ta}
theorem Ta.bd.more (h : Ta.bd st t) : Ta.bd (st + 1) t := by
  obtain ⟨⟨h1, h2⟩, h3, h4⟩ := h
  exact ⟨⟨by omega, by omega⟩, by omega, by omega⟩
theorem Ta.bd.sent (h : Ta.bd st t) (a : Int) : Ta.bd (st + 1) (t.sent a) := by
  obtain ⟨⟨h1, h2⟩, h3, h4⟩ := h
  obtain ⟨c, n0, n1, r⟩ := t
  dsimp only at h1 h2 h3 h4
  cases c <;> exact ⟨⟨by simp [Ta.sent]; omega, by simp [Ta.sent]; omega⟩, by simp [Ta.sent]; omega, by simp [Ta.sent]; omega⟩
theorem Ta.bd.got (h : Ta.bd st t) (q : Int) : Ta.bd (st + 1) (gotT t q) := by
  unfold gotT
  have h' := h
  obtain ⟨⟨h1, h2⟩, h3, h4⟩ := h
  obtain ⟨c, n0, n1, r⟩ := t
  dsimp only at h1 h2 h3 h4
  split
  · exact ⟨⟨by simp [Ta.got]; omega, by simp [Ta.got]; omega⟩, by simp [Ta.got]; omega, by simp [Ta.got]; omega⟩
  · split
    · exact ⟨⟨by simp [Ta.got]; omega, by simp [Ta.got]; omega⟩, by simp [Ta.got]; omega, by simp [Ta.got]; omega⟩
    · exact h'.more
theorem Ta.bd.flip (h : Ta.bd st t) : Ta.bd (st + 1) t.flip := Ta.bd.more (t := t.flip) h
theorem Ta.bd.ok (h : Ta.bd st t) (hst : st ≤ 4398046511104) : Ta.ok t := by
  obtain ⟨⟨h1, h2⟩, h3, h4⟩ := h
  exact ⟨⟨by omega, by omega⟩, by omega, by omega⟩
theorem Ta.bd.small (h : Ta.bd st t) (hst : st ≤ 4398046511104) : Ta.small t := by
  obtain ⟨⟨h1, h2⟩, h3, h4⟩ := h
  exact ⟨⟨by omega, by omega⟩, by omega, by omega⟩
theorem Ta.bd.net (h : Ta.bd st t) (q : Bool) : -(st : Int) ≤ t.net q ∧ t.net q ≤ st := by
  obtain ⟨h1, h2⟩ := h
  cases q
  · exact h1
  · exact h2
theorem Sm.ok (h : Sm N st ts k) (hN : N ≤ 16) : k.ok := by
  have h1 := h.at'
  have h2 := h.sum
  have h3 := h.n
  exact ⟨by omega, by omega, by omega, by omega⟩
theorem Sm.one (h : Sm N st ts k) {i : Nat} (ht : Ta.bd (st + 1) t) : Sm N (st + 1) (upd ts i t) k := by
  refine ⟨fun j => ?_, h.n, h.at', h.sum⟩
  by_cases e : j = i
  · subst e; rw [upd_same]; exact ht
  · rw [upd_ne _ _ e]; exact (h.ta j).more
theorem Sm.vis (h : Sm N st ts k) (hst : st ≤ 4398046511104) (l : Int) : Sm N (st + 1) (upd ts k.at' (k.vis (ts k.at') l).2.1) (k.vis (ts k.at') l).1 := by
  have hs := h.sum
  have hn := (h.ta k.at').net (!(ts k.at').c)
  have ha := h.at'
  have hN := h.n
  have h1 := (h.one (i := k.at') (h.ta k.at').flip).ta
  have h2 := (h.one (i := k.at') (h.ta k.at').more).ta
  obtain ⟨n, a, cnt, sum, least⟩ := k
  dsimp only at hs hn ha hN h1 h2 ⊢
  subst hN
  unfold Tk.vis
  dsimp only
  split
  · split
    · exact ⟨h1, rfl, by dsimp only; omega, by dsimp only; omega⟩
    · exact ⟨h1, rfl, by dsimp only; omega, by dsimp only; omega⟩
  · split
    · split
      · exact ⟨h2, rfl, by dsimp only; omega, by dsimp only; omega⟩
      · exact ⟨h2, rfl, by dsimp only; omega, by dsimp only; omega⟩
    · exact ⟨h2, rfl, by dsimp only; omega, by dsimp only; omega⟩
theorem Sm.start (hN : 0 < N) (c : Ta → Prop) : Sm N 0 (fun _ => Ta.new) (Tk.new N) := ⟨fun j => ⟨⟨by simp [Ta.new], by simp [Ta.new]⟩, by simp [Ta.new], by simp [Ta.new]⟩, rfl, hN, by simp [Tk.new]⟩
end
end Go.Proofs.Ytobfjfmaicmkdaa
