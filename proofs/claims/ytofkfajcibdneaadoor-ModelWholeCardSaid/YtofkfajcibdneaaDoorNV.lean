/-
  Plain data for the law of the whole: how many links there are, the one between two, a world that may be.
-/
import Derived.Test.YtofkfajcibdneaaDoorNU
import Derived.Test.YtofkfajcibdneaaDoorNT
import Derived.Test.YtofkfajcibdneaaDoorVmC
namespace Go.Proofs.YtofkfajcibdneaaDoor
open Go.ChangeShapes Go.WideShapes Go.ChangeAt Go.Shelf Go.RowKit Go.Lib Go.Sort Go.Deep
set_option linter.unusedVariables false
set_option linter.unusedSimpArgs false
set_option maxRecDepth 4000

/-- How many of the first i links end at one of the first p. -/
def sumW (f : Lk → Int) (ls : List Lk) (i : Nat) : Nat → Nat
  | 0 => 0
  | n + 1 => sumW f ls i n + (waysU f ls n i).length
theorem sumW_zero (f : Lk → Int) (ls : List Lk) : ∀ p, sumW f ls 0 p = 0
  | 0 => rfl
  | p + 1 => by rw [sumW, sumW_zero f ls p]; rfl
theorem sumW_step (f : Lk → Int) (ls : List Lk) (i : Nat) : ∀ p, sumW f ls (i + 1) p = sumW f ls i p + if 0 ≤ f (ls.getD i default) ∧ f (ls.getD i default) < p then 1 else 0
  | 0 => by rw [if_neg (by omega)]; rfl
  | p + 1 => by
    rw [sumW, sumW, sumW_step f ls i p]
    by_cases h : f (ls.getD i default) = (p : Int)
    · rw [waysU_yes h, List.length_append, if_neg (by omega), if_pos (by omega)]; simp; omega
    · rw [waysU_no h]
      by_cases h2 : 0 ≤ f (ls.getD i default) ∧ f (ls.getD i default) < p
      · rw [if_pos h2, if_pos (by omega)]; omega
      · rw [if_neg h2, if_neg (by omega)]; omega
theorem sumW_all (f : Lk → Int) (ls : List Lk) (p : Nat) : ∀ i, (∀ j, j < i → 0 ≤ f (ls.getD j default) ∧ f (ls.getD j default) < p) → sumW f ls i p = i
  | 0, _ => sumW_zero f ls p
  | i + 1, h => by rw [sumW_step, sumW_all f ls p i (fun j hj => h j (by omega)), if_pos (h i (by omega))]
theorem sumW_mono (f : Lk → Int) (ls : List Lk) (i : Nat) {p q : Nat} (h : p ≤ q) : sumW f ls i p ≤ sumW f ls i q := by
  induction q with
  | zero => obtain rfl : p = 0 := by omega
            exact Nat.le_refl _
  | succ q ih =>
    by_cases e : p = q + 1
    · subst e; exact Nat.le_refl _
    · rw [sumW]; exact Nat.le_trans (ih (by omega)) (Nat.le_add_right _ _)
/-- The link between two is the only one. -/
theorem wayU_noneU (ls : List Lk) (a b : Int) : ∀ i, (∀ j, j < i → ¬ ((ls.getD j default).src = a ∧ (ls.getD j default).dst = b)) → wayU ls a b i = -1
  | 0, _ => rfl
  | i + 1, h => by rw [wayU, wayU_noneU ls a b i (fun j hj => h j (by omega)), if_neg (fun e => h i (by omega) e.2)]
theorem wayU_one (ls : List Lk) (a b : Int) {k : Nat} (hk : (ls.getD k default).src = a ∧ (ls.getD k default).dst = b) : ∀ i, k < i → (∀ j, j < i → j ≠ k → ¬ ((ls.getD j default).src = a ∧ (ls.getD j default).dst = b)) → wayU ls a b i = k
  | 0, h, _ => by omega
  | i + 1, h, hu => by
    by_cases e : k = i
    · subst e
      rw [wayU, wayU_noneU ls a b k (fun j hj => hu j (by omega) (by omega)), if_pos ⟨by omega, hk⟩]
    · rw [wayU, wayU_one ls a b hk i (by omega) (fun j hj => hu j (by omega)), if_neg (fun e2 => by omega)]
section
variable {M : Md}
theorem okLinks.one (h : okLinks M) {k j : Nat} (hk : k < M.links.length) (hj : j < M.links.length) (hn : j ≠ k) : ¬ ((M.links.getD j default).src = (M.links.getD k default).src ∧ (M.links.getD j default).dst = (M.links.getD k default).dst) := by
  rcases Nat.lt_or_gt_of_ne hn with h1 | h1
  · exact (h.2 k hk).2 j h1
  · exact fun e => (h.2 j hj).2 k h1 ⟨e.1.symm, e.2.symm⟩
theorem okLinks.way (h : okLinks M) {k : Nat} (hk : k < M.links.length) : wayU M.links (M.links.getD k default).src (M.links.getD k default).dst M.links.length = k :=
  wayU_one _ _ _ ⟨rfl, rfl⟩ _ hk (fun j hj hn => h.one hk hj hn)
theorem okLinks.outs (h : okLinks M) : sumW (·.src) M.links M.links.length M.progs.length = M.links.length := sumW_all _ _ _ _ (fun j hj => (h.2 j hj).1.1)
theorem okLinks.ins (h : okLinks M) : sumW (·.dst) M.links M.links.length M.progs.length = M.links.length := sumW_all _ _ _ _ (fun j hj => (h.2 j hj).1.2.1)
/-- The world of a process of a model that may be. -/
theorem woA_ok (h : checkM M = 0) {k : Nat} (hk : k < M.progs.length) : woA M k = (⟨M.progs.getD k [], k, (waysU (·.src) M.links k M.links.length).map fun j => M.links.getD j default, M.seed⟩, 0) := by
  unfold woA; rw [if_pos h, if_pos (by omega)]; rfl
theorem woA_may (h : checkM M = 0) {k : Nat} (hk : k < M.progs.length) : checkW (woA M k).1 = 0 := by
  obtain ⟨h1, h2, h3, h4⟩ := checkM_zero h
  rw [woA_ok h hk]
  refine checkW_ok' (h2 k hk) ⟨by simp, by have := h1.1.2; simp; omega⟩ ?_ ?_
  · have := waysU_len (·.src) M.links k M.links.length
    have := h3.1
    simp only [List.length_map]
    omega
  · simp only [badB, Bool.not_eq_false', List.all_eq_true, List.mem_map]
    rintro l ⟨j, hj, rfl⟩
    have hjl := waysU_lt _ _ _ _ j hj
    obtain ⟨hs, hd, hlo, hhi⟩ := (h3.2 j hjl).1
    have h16 := h1.1.2
    rw [Lk.mayB_eq]
    exact decide_eq_true ⟨hd.1, by omega, hlo, hhi⟩
end
end Go.Proofs.YtofkfajcibdneaaDoor
