/-
  What Check answers for a model that may be, with one thing made wrong.
-/
import Derived.Test.YtofkfajcibdneaaDoorOP
import Derived.Test.YtofkfajcibdneaaDoorNQ
namespace Go.Proofs.YtofkfajcibdneaaDoor
open Go.ChangeShapes Go.WideShapes Go.ChangeAt Go.Shelf Go.RowKit Go.Lib Go.Sort Go.Deep
set_option linter.unusedVariables false
set_option linter.unusedSimpArgs false
set_option maxRecDepth 4000

theorem getD_last {α : Type} (l : List α) (x d : α) : (l ++ [x]).getD l.length d = x := by
  rw [List.getD_eq_getElem?_getD, List.getElem?_append_right (Nat.le_refl _)]
  simp
section
variable {M : Md}
theorem faultEnd (h : checkM M = 0) : checkM { M with last := -1 } = 1 := checkM_arg (fun e => by have := e.2.1.1; dsimp only at this; omega)
theorem faultBud (h : checkM M = 0) : checkM { M with bud := 4097 } = 1 := checkM_arg (fun e => by have := e.2.2.2; dsimp only at this; omega)
theorem faultProgMany (h : checkM M = 0) (hl : 16 < M.progs.length + 1) : checkM { M with progs := M.progs ++ [[⟨99, 0, 0, 0⟩]] } = 1 := checkM_arg (fun e => by have := e.1.2; dsimp only at this; rw [List.length_append] at this; simp at this; omega)
theorem faultProg (h : checkM M = 0) (hl : ¬ 16 < M.progs.length + 1) : checkM { M with progs := M.progs ++ [[⟨99, 0, 0, 0⟩]] } = 130 := by
  have h0 := (checkM_zero h).1
  refine checkM_progs ⟨⟨by dsimp only; rw [List.length_append]; simp, by dsimp only; rw [List.length_append]; simp; omega⟩, h0.2⟩ (fun e => ?_)
  have := e M.progs.length (by dsimp only; rw [List.length_append]; simp)
  dsimp only at this
  rw [getD_last] at this
  exact absurd this (by decide)
theorem faultLink (h : checkM M = 0) (l : Lk) (hl : ¬ lkMay M.progs.length l) : checkM { M with links := M.links ++ [l] } = 131 := by
  have h0 := checkM_zero h
  refine checkM_links h0.1 h0.2.1 (fun e => hl ?_)
  have := (e.2 M.links.length (by dsimp only; rw [List.length_append]; simp)).1
  dsimp only at this
  rw [getD_last] at this
  exact this
theorem faultStart (h : checkM M = 0) (l : Stt) (hl : ¬ sttMay M.progs.length l) : checkM { M with starts := M.starts ++ [l] } = 132 := by
  have h0 := checkM_zero h
  refine checkM_starts h0.1 h0.2.1 h0.2.2.1 (fun e => hl ?_)
  have := e.2 M.starts.length (by dsimp only; rw [List.length_append]; simp)
  dsimp only at this
  rw [getD_last] at this
  exact this
end
end Go.Proofs.YtofkfajcibdneaaDoor
