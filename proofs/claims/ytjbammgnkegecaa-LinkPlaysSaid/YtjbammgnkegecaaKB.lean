
/-
  What the calls of a way call: lanes, kinds, places; made, Len, Room.
-/
import Derived.Test.YtjbammgnkegecaaKA
import Derived.Deep.RegionLaw
import Derived.Deep.RegionHeld3
import Derived.Shelf.RegionOpen
import Derived.LoopTactic
import Derived.BigRegion
import Derived.Deep.DeepCutAuto
import Derived.Outline
import Derived.Deep.RegionWith
namespace Go.Proofs.Ytjbammgnkegecaa
open Go.ChangeShapes Go.WideShapes Go.ChangeAt Go.Shelf Go.RowKit Go.Lib Go.Sort Go.Deep
set_option linter.unusedVariables false
set_option maxRecDepth 4000

theorem tmod_emod (n k : Int) (hk : 0 < k) : n % k = if n.tmod k < 0 then n.tmod k + k else n.tmod k := by
  have h1 := Int.emod_nonneg n (show k ≠ 0 by omega)
  have h2 := Int.emod_lt_of_pos n hk
  have h := Int.tmod_eq_emod (a := n) (b := k)
  split at h
  · split <;> omega
  · split <;> omega
theorem tmod_bd (n k : Int) (hk : 0 < k) : -k < n.tmod k ∧ n.tmod k < k := by
  have h1 := Int.emod_nonneg n (show k ≠ 0 by omega)
  have h2 := Int.emod_lt_of_pos n hk
  have h := Int.tmod_eq_emod (a := n) (b := k)
  split at h <;> omega
theorem isLane_any (n : Int) (w : World) : Calls Try.prog 26 #[.int .i64 n] w fun e w' => e = .returned (.bool (decide (0 ≤ n ∧ n < 16))) ∧ w = w' := by
  by_cases h1 : 0 ≤ n
  · by_cases h2 : n < 16
    · rw [decide_eq_true ⟨h1, h2⟩]
      go_enter Try.func26, Try.ntmps26
      go_wp2
      go_ret
      exact ⟨rfl, rfl⟩
    · rw [decide_eq_false (fun h => h2 h.2)]
      go_enter Try.func26, Try.ntmps26
      go_wp2
      go_ret
      exact ⟨rfl, rfl⟩
  · rw [decide_eq_false (fun h => h1 h.1)]
    go_enter Try.func26, Try.ntmps26
    go_wp2
    go_ret
    exact ⟨rfl, rfl⟩
theorem first_any (a b : Int) (w : World) : Calls Try.prog 40 #[.int .i64 a, .int .i64 b] w fun e w' => e = .returned (.int .i64 0) ∧ w = w' := by
  go_enter Try.func40, Try.ntmps40
  go_wp2
  go_ret
  exact ⟨rfl, rfl⟩
theorem rest_any (n k : Int) (hk : 0 < k) (hk2 : k < 4611686018427387904) (w : World) : Calls Try.prog 41 #[.int .i64 n, .int .i64 k] w fun e w' => e = .returned (.int .i64 (n % k)) ∧ w = w' := by
  obtain ⟨h1, h2⟩ := tmod_bd n k hk
  have hne : ¬ k = 0 := by omega
  rw [tmod_emod n k hk]
  have hw : IntKind.i64.wrap (n.tmod k) = n.tmod k := IntWalk.i64_in _ (by omega)
  by_cases h : n.tmod k < 0
  · rw [if_pos h]
    have hw2 : IntKind.i64.wrap (n.tmod k + k) = n.tmod k + k := IntWalk.i64_in _ (by omega)
    go_enter Try.func41, Try.ntmps41
    go_wp2
    go_ret
    exact ⟨rfl, rfl⟩
  · rw [if_neg h]
    go_enter Try.func41, Try.ntmps41
    go_wp2
    go_ret
    exact ⟨rfl, rfl⟩
theorem kinds_any (w : World) : Calls Try.prog 37 #[] w fun e w' => e = .returned (.agg #[.func (.func 40) #[] #[], .func (.func 41) #[] #[]]) ∧ Below w.heap.size w w' := by
  have hr : Hid ((w.alloc (.cells #[.nilFunc, .nilFunc] 81)).heap[w.heap.size]? = some (.cells #[.nilFunc, .nilFunc] 81 (0, 0))) := heap_alloc_new w _
  have hb : Hid (Below w.heap.size w (w.alloc (.cells #[.nilFunc, .nilFunc] 81))) := (Below.refl _ w).alloc (Nat.le_refl _) _
  go_enter Try.func37, Try.ntmps37
  go_upto_region 1 with (fail)
  generalize w.alloc (.cells #[.nilFunc, .nilFunc] 81) = W at *
  go_wp2_with (refine wpList_store_row rfl 81 (.tmp 0) (.tmp 3) rfl w.heap.size #[.func (.func 40) #[] #[], .func (.func 41) #[] #[]] rfl rfl 81 #[.nilFunc, .nilFunc] hr.out (by kernel_rfl) rfl (by simp [Value.oneCell']) ?_)
  have s0 := setRow_heap W w.heap.size _ #[.func (.func 40) #[] #[], .func (.func 41) #[] #[]] _ _ hr.out
  have c0 := cell_of_block (o := 0) s0 rfl
  have c1 := cell_of_block (o := 1) s0 rfl
  refine bodyPost_ret (v := .agg #[.func (.func 40) #[] #[], .func (.func 41) #[] #[]]) (by simp [results, Try.results37, go_sem, c0, c1]) rfl ⟨rfl, ?_⟩
  exact ((KeptOff.of_below (S := fun _ => False) hb.out).then_new (KeptOff.setRow W w.heap.size _) (fun k hk e => by omega)).below (fun _ _ e => e.elim) (Nat.le_refl _)
end Go.Proofs.Ytjbammgnkegecaa
