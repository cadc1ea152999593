/-
  A program that jumps to its own beginning, in plain data.
-/
import Derived.Test.YtghbdpjegmdhbaaDoorVmF
namespace Go.Proofs.YtghbdpjegmdhbaaDoor
open Go.ChangeShapes Go.WideShapes Go.ChangeAt Go.RowKit Go.Sort
set_option linter.unusedVariables false
set_option maxRecDepth 8000

/-! A program that jumps to its own beginning. -/
def endsI (k : Nat) : List I := ⟨1, 8, 1, 0⟩ :: (List.replicate k ⟨3, 0, 0, 8⟩ ++ [⟨10, 1, 0, 0⟩])
def endsV (k : Nat) : Int := ((4095 / (k + 1) * k + min (4095 % (k + 1)) k : Nat) : Int)
/-- How many additions there are, from the place 1 + j, with that fuel. -/
def cnt (k : Nat) : Nat → Nat → Nat
  | 0, _ => 0
  | f + 1, j => if j < k then cnt k f (j + 1) + 1 else cnt k f 0
theorem ends_get (k j : Nat) (h : j < k) : (endsI k).getD (1 + j) default = ⟨3, 0, 0, 8⟩ := by
  unfold endsI
  rw [show 1 + j = j + 1 by omega, List.getD_cons_succ, List.getD_eq_getElem?_getD, List.getElem?_append_left (by simpa using h)]
  simp [h]
theorem ends_last (k : Nat) : (endsI k).getD (1 + k) default = ⟨10, 1, 0, 0⟩ := by
  unfold endsI
  rw [show 1 + k = k + 1 by omega, List.getD_cons_succ, List.getD_eq_getElem?_getD, List.getElem?_append_right (by simp)]
  simp
theorem ends_run (k : Nat) (f : Nat) : ∀ (j v : Nat), j ≤ k → v + f ≤ 5000 → ∃ pc : Int, runP ⟨endsI k, 0, [], 0⟩ noM f ⟨[(v : Int), 0, 0, 0, 0, 0, 0, 0, 1, 0, 0, 0, 0, 0, 0, 0], 0, [], ((1 + j : Nat) : Int)⟩ = .stop ⟨[((v + cnt k f j : Nat) : Int), 0, 0, 0, 0, 0, 0, 0, 1, 0, 0, 0, 0, 0, 0, 0], 0, [], pc⟩ := by
  induction f with
  | zero => exact fun j v _ _ => ⟨_, rfl⟩
  | succ f ih0 =>
    intro j v hj hv
    have hpc : ((1 + j : Nat) : Int) < ((endsI k).length : Int) := by simp [endsI]; omega
    by_cases h : j < k
    · obtain ⟨pc, ih⟩ := ih0 (j + 1) (v + 1) (by omega) (by omega)
      refine ⟨pc, ?_⟩
      rw [runP_on (m' := ⟨[((v + 1 : Nat) : Int), 0, 0, 0, 0, 0, 0, 0, 1, 0, 0, 0, 0, 0, 0, 0], 0, [], ((1 + (j + 1) : Nat) : Int)⟩) hpc ?_, ih]
      · rw [cnt, if_pos h, show v + 1 + cnt k f (j + 1) = v + (cnt k f (j + 1) + 1) by omega]
      · simp only [Int.toNat_natCast]
        rw [ends_get k j h]
        have hw : wrap64 ((v : Int) + 1) = ((v + 1 : Nat) : Int) := by unfold wrap64; omega
        have hp : ((1 + j : Nat) : Int) + 1 = ((1 + (j + 1) : Nat) : Int) := by omega
        rw [hp, ← hw]
        simp [stepP, mathP, Mc.put, Mc.reg]
    · have e : j = k := by omega
      obtain ⟨pc, ih⟩ := ih0 0 v (by omega) (by omega)
      refine ⟨pc, ?_⟩
      rw [runP_on (m' := ⟨[(v : Int), 0, 0, 0, 0, 0, 0, 0, 1, 0, 0, 0, 0, 0, 0, 0], 0, [], ((1 + 0 : Nat) : Int)⟩) hpc ?_, ih]
      · rw [cnt, if_neg h]
      · simp only [Int.toNat_natCast]
        rw [e, ends_last k]
        simp [stepP]
set_option maxRecDepth 100000 in
theorem ends_cnt : ∀ k : Fin 20, cnt (k.val + 1) 4095 0 = 4095 / (k.val + 1 + 1) * (k.val + 1) + min (4095 % (k.val + 1 + 1)) (k.val + 1) := by decide +kernel
theorem ends_check : ∀ k : Fin 20, checkN (endsI (k.val + 1)) = 0 := by decide +kernel
theorem endsR (k : Nat) (h0 : 1 ≤ k) (h20 : k ≤ 20) : runW ⟨endsI k, 0, [], 0⟩ Sta.zero noM = (⟨[endsV k, 0, 0, 0, 0, 0, 0, 0], 0, 0⟩, [], 0) := by
  have hk := ends_cnt ⟨k - 1, by omega⟩
  have hc := ends_check ⟨k - 1, by omega⟩
  simp only [show k - 1 + 1 = k by omega] at hk hc
  rw [runW_go (checkW_plain hc (by omega) 0) (by decide) zero_may]
  obtain ⟨pc, h⟩ := ends_run k 4095 0 0 (by omega) (by omega)
  have hf : runP ⟨endsI k, 0, [], 0⟩ noM 4096 (firstP Sta.zero) = runP ⟨endsI k, 0, [], 0⟩ noM 4095 ⟨[((0 : Nat) : Int), 0, 0, 0, 0, 0, 0, 0, 1, 0, 0, 0, 0, 0, 0, 0], 0, [], ((1 + 0 : Nat) : Int)⟩ := by
    refine runP_on (by simp [firstP, endsI]; omega) ?_
    rfl
  rw [hf, h, Nat.zero_add, hk]
  rfl

end Go.Proofs.YtghbdpjegmdhbaaDoor
