/-
  What the laws of a model do at their end.
-/
import Derived.Test.YtofkfajcibdneaaDoorNP
namespace Go.Proofs.YtofkfajcibdneaaDoor
open Go.ChangeShapes Go.WideShapes Go.ChangeAt Go.Shelf Go.RowKit Go.Lib Go.Sort Go.Deep
set_option linter.unusedVariables false
set_option linter.unusedSimpArgs false
set_option maxRecDepth 4000

def Md.one : Md := ⟨[[]], [], [], 0, 0, 0⟩
def Md.none : Md := ⟨[], [], [], 0, 0, 0⟩
theorem checkM_one : checkM Md.one = 0 := by
  refine checkM_ok ⟨⟨by decide, by decide⟩, ⟨by decide, by decide⟩, by decide, by decide⟩ (fun k hk => ?_) ⟨by decide, fun i hi => ?_⟩ ⟨by decide, fun i hi => ?_⟩
  · obtain rfl : k = 0 := by simp [Md.one] at hk; exact hk
    decide
  · simp [Md.one] at hi
  · simp [Md.one] at hi
theorem checkM_none : checkM Md.none = 1 := checkM_arg (fun h => by have := h.1.1; simp [Md.none] at this)
theorem Mds.none (w : World) : Mds w ⟨.none, 0, 0, .none, 0, 0, .none, 0, 0⟩ Md.none :=
  ⟨⟨rfl, Nat.le_refl _, Nat.zero_le _, .inl rfl⟩, ⟨rfl, Nat.le_refl _, Nat.zero_le _, .inl rfl⟩, ⟨rfl, Nat.le_refl _, Nat.zero_le _, .inl rfl⟩, by decide⟩
theorem Mds.one (w : World) : Mds (w.alloc (.cells #[.slice .none 0 0] 33)) ⟨some ⟨w.heap.size, 0, .none⟩, 1, 1, .none, 0, 0, .none, 0, 0⟩ Md.one := by
  refine ⟨⟨rfl, Nat.le_refl _, by unfold maxLen; dsimp only; omega, .inr ⟨w.heap.size, 0, rfl, fun k hk => ?_⟩⟩, ⟨rfl, Nat.le_refl _, Nat.zero_le _, .inl rfl⟩, ⟨rfl, Nat.le_refl _, Nat.zero_le _, .inl rfl⟩, by decide⟩
  have hk' : k < 1 := hk
  obtain rfl : k = 0 := by omega
  exact ⟨.none, 0, 0, by simp, cell_of_block (heap_alloc_new w _) rfl, rfl, Nat.le_refl _, Nat.zero_le _, fun _ h => (by cases h), .inl rfl⟩
set_option maxHeartbeats 2000000 in
theorem awake_any13 {w : World} (hL : Laid13 w) : Calls Tryd.prog 11 #[] w fun e w' => e = .returned (.bool true) ∧ Below w.heap.size w w' := by
  have mixed := mixed
  have hb1 := (Below.refl _ w).alloc (Nat.le_refl _) (.cells #[.slice .none 0 0] 33)
  have h1 := Lib.hid (mdCheck_any (Mds.one w) (hL.below hb1))
  have h2 : Hid (∀ w2, Below w.heap.size w w2 → _) := Lib.hid (fun w2 hb => mdCheck_any (Mds.none w2) (hL.below hb))
  rw [checkM_one] at h1
  simp only [checkM_none] at h2
  have e0 : ((0 : Nat) : Int) = 0 := rfl
  simp only [Mv.val, Mv.cells, Md.one, Md.none, e0] at h1 h2
  clear e0
  have hb1' := Lib.hid hb1
  clear hb1 hL
  go_enter Tryd.func11, Tryd.ntmps11
  go_wp2_with (first
    | (go_at_call 9; with_reducible refine h3.out.mono ?_; rintro e w4 ⟨rfl, hb4⟩; have hb5 := Lib.hid (hb3.out.trans (hb4.out.mono hb3.out.size)))
    | (go_at_call 9; with_reducible refine h1.out.mono ?_; rintro e w2 ⟨rfl, hb2⟩; have hb3 := Lib.hid (hb1'.out.trans (hb2.out.mono hb1'.out.size)); have h3 := Lib.hid (h2.out w2 hb3.out); clear h1 h2))
  go_ret
  exact ⟨rfl, hb5.out⟩
end Go.Proofs.YtofkfajcibdneaaDoor
