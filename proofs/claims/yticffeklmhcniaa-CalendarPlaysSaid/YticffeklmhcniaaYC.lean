
/-
  One out of the middle of a slice: the program's without, at days and at messages.
-/
import Derived.Test.YticffeklmhcniaaYB
namespace Go.Proofs.Yticffeklmhcniaa
open Go.ChangeShapes Go.WideShapes Go.ChangeAt Go.Shelf Go.RowKit Go.Lib Go.Sort Go.Deep
set_option linter.unusedVariables false

section
variable {α : Type}
theorem splice_out1 (l : List α) (p : Nat) (hp : p + 1 < l.length) : (splice l 1 (l.take p)).drop 1 = l.eraseIdx p := by
  have h1 : 1 + (l.take p).length ≤ l.length := by rw [List.length_take]; omega
  apply List.ext_getElem?
  intro j
  rw [List.getElem?_drop, splice_get _ _ _ h1, if_neg (by omega), List.getElem?_eraseIdx, List.length_take]
  by_cases a : j < p
  · rw [if_pos (by omega), if_pos a, show 1 + j - 1 = j by omega, List.getElem?_take_of_lt a]
  · rw [if_neg (by omega), if_neg a, Nat.add_comm]
theorem splice_out2 (l : List α) (p : Nat) (hp : p < l.length) : (splice l p (l.drop (p + 1))).take (l.length - 1) = l.eraseIdx p := by
  have h1 : p + (l.drop (p + 1)).length ≤ l.length := by rw [List.length_drop]; omega
  apply List.ext_getElem?
  intro j
  by_cases b : j < l.length - 1
  · rw [List.getElem?_take_of_lt b, splice_get _ _ _ h1, List.getElem?_eraseIdx, List.length_drop]
    by_cases a : j < p
    · rw [if_pos a, if_pos a]
    · rw [if_neg a, if_neg a, if_pos (by omega), List.getElem?_drop]
      congr 1
      omega
  · rw [List.getElem?_take_eq_none (by omega), List.getElem?_eq_none (by rw [List.length_eraseIdx_of_lt hp]; omega)]
end

set_option maxHeartbeats 4000000 in
set_option maxRecDepth 100000 in
theorem withoutI_any {w : World} {g off cap : Nat} {l : List Int} (h : RowI w g off cap l) (p : Nat) (hp : p < l.length) (hl : l.length < 1000000) :
    Calls Try.prog 62 #[.slice (some ⟨g, off, none⟩) l.length cap, .int .i64 p] w fun e w' => ∃ off' cap', e = .returned (.slice (some ⟨g, off', none⟩) (l.length - 1) cap') ∧ RowI w' g off' cap' (l.eraseIdx p) ∧ KeptOff (fun k => k = g) w w' := by
  have mixed := mixed
  have hl' := Lib.hid hl
  have hr : Hid (RowIn w 2 1 g off l.length cap (ints l)) := h
  have hb := hr.out.bounds
  clear h
  have hw1 : IntKind.i64.wrap ((p : Int) + 1) = (p : Int) + 1 := IntWalk.i64_in _ (by have := hl'.out; omega)
  have hc1 : p ≤ cap := by omega
  have hc2 : p ≤ l.length := by omega
  have hc3 : p + 1 ≤ cap := by omega
  have hc4 : p + 1 ≤ l.length := by omega
  have hc5 : (p : Int) ≤ (l.length : Int) := by omega
  have hc6 : (p : Int) + 1 ≤ (l.length : Int) := by omega
  have hc7 : 0 ≤ (p : Int) + 1 := by omega
  have hc8 : ((p : Int) + 1).toNat = p + 1 := by omega
  have hc9 : (p : Int) ≤ (cap : Int) := by omega
  have hca : (p : Int) + 1 ≤ (cap : Int) := by omega
  have hne : ¬ cap = p := by omega
  have hlen : (ints l).length = l.length * 1 := hb.2.2
  have hR2 : RowIn w.drew 2 1 g off l.length cap (ints l) := hr.out.block rfl
  go_enter Try.func62, Try.ntmps62
  go_upto_region 1 with (fail)
  go_region_held3 (fun _ => True) (trivial) (fail)
  have hsrcB : 0 < l.length - (p + 1) → (if cap = p + 1 then (some ⟨g, off, none⟩ : Option Addr) else some ⟨g, off + (p + 1), none⟩) = some ⟨g, off + (p + 1) * 1, none⟩ := fun h0 => by rw [if_neg (by omega), Nat.mul_one]
  generalize (if cap = p + 1 then (some ⟨g, off, none⟩ : Option Addr) else some ⟨g, off + (p + 1), none⟩) = ad1 at hsrcB ⊢
  generalize hW : w.drew = W at hR2 ⊢
  by_cases hlt : p < l.length - (p + 1)
  · have hz : (p : Int) < ((l.length - (p + 1) : Nat) : Int) := by omega
    have hd1 : ¬ cap = 1 := by omega
    have hd2 : 1 ≤ l.length := by omega
    have hd3 : 1 ≤ cap := by omega
    have hd4 : (1 : Int) ≤ (l.length : Int) := by omega
    have hcs : (ints (l.take p)).length = p * 1 := by rw [ints_length, List.length_take, Nat.min_eq_left hc2, Nat.mul_one]
    have hmn : Nat.min p (l.length - 1) = p := by show min _ _ = _; omega
    have hcell : ∀ j u, (ints (l.take p))[j]? = some u → W.cell? ((⟨g, off, none⟩ : Addr).add j) = some u := fun j u hj => by
      have hj' : j < p * 1 := by
        have := (List.getElem?_eq_some_iff.1 hj).1
        rwa [hcs] at this
      rw [show ∀ x, ints x = x.flatMap encI from fun _ => rfl, fm_take encI_length, List.getElem?_take_of_lt hj'] at hj
      rw [Addr.add_lit]
      exact hR2.cell hj
    have hfit : 1 + p ≤ l.length := by omega
    have hi1 := ints_one (l.take p)
    go_upto_region 4 with (refine wpList_copy_row rfl (.tmp 21) (.tmp 22) 76 76 rfl hR2 2 Try.underlying76 infoI1 _ _ _ _ _ _ 1 p (ints (l.take p)) rfl rfl hcs hmn (fun h0 => ⟨rfl, _, rfl, hcell⟩) hfit hi1 ?_; intro w4 hr4 hk4)
    go_wp2
    go_ret
    have hr5 := hr4.out.part 1 (l.length - 1) (by omega)
    refine ⟨off + 1 * 1, cap - 1, rfl, ?_, (by subst hW; exact hk4.out.undrew)⟩
    unfold RowI
    rw [List.length_eraseIdx_of_lt hp]
    have e1 := fm_splice encI_length l (l.take p) 1
    have e2 : ((splice (ints l) (1 * 1) (ints (l.take p))).drop (1 * 1)).take ((l.length - 1) * 1) = ints (l.eraseIdx p) := by
      show ((splice (ints l) (1 * 1) (ints (l.take p))).drop (1 * 1)).take ((l.length - 1) * 1) = _
      rw [show splice (ints l) (1 * 1) (ints (l.take p)) = (splice l 1 (l.take p)).flatMap encI from e1, ← fm_drop encI_length, splice_out1 l p (by omega)]
      refine List.take_of_length_le ?_
      rw [fm_length encI_length, List.length_eraseIdx_of_lt hp]
      omega
    rw [← e2]
    exact hr5
  · have hz : ¬ (p : Int) < ((l.length - (p + 1) : Nat) : Int) := by omega
    have hw2 : IntKind.i64.wrap ((l.length : Int) - 1) = (l.length : Int) - 1 := IntWalk.i64_in _ (by have := hl'.out; omega)
    have hd1 : 0 ≤ (l.length : Int) - 1 := by omega
    have hd2 : ((l.length : Int) - 1).toNat = l.length - 1 := by omega
    have hd3 : l.length - 1 ≤ cap := by omega
    have hd4 : (l.length : Int) - 1 ≤ (cap : Int) := by omega
    have hcs : (ints (l.drop (p + 1))).length = (l.length - (p + 1)) * 1 := by rw [ints_length, List.length_drop, Nat.mul_one]
    have hmn : Nat.min (l.length - (p + 1)) (l.length - p) = l.length - (p + 1) := by show min _ _ = _; omega
    have hcell : ∀ j u, (ints (l.drop (p + 1)))[j]? = some u → W.cell? ((⟨g, off + (p + 1) * 1, none⟩ : Addr).add j) = some u := fun j u hj => by
      rw [show ∀ x, ints x = x.flatMap encI from fun _ => rfl, fm_drop encI_length, List.getElem?_drop] at hj
      exact hR2.cellA _ hj
    have hfit : p + (l.length - (p + 1)) ≤ l.length := by omega
    have hi1 := ints_one (l.drop (p + 1))
    go_upto_region 6 with (refine wpList_copy_row rfl (.tmp 28) (.tmp 29) 76 76 rfl hR2 2 Try.underlying76 infoI1 _ _ _ _ _ _ p (l.length - (p + 1)) (ints (l.drop (p + 1))) rfl rfl hcs hmn (fun h0 => ⟨by rw [Nat.mul_one], _, hsrcB h0, hcell⟩) hfit hi1 ?_; intro w4 hr4 hk4)
    go_wp2
    go_ret
    have hr5 := hr4.out.part 0 (l.length - 1) (by omega)
    refine ⟨off, cap, rfl, ?_, (by subst hW; exact hk4.out.undrew)⟩
    unfold RowI
    rw [List.length_eraseIdx_of_lt hp]
    have e1 := fm_splice encI_length l (l.drop (p + 1)) p
    have e2 : ((splice (ints l) (p * 1) (ints (l.drop (p + 1)))).drop (0 * 1)).take ((l.length - 1) * 1) = ints (l.eraseIdx p) := by
      rw [show splice (ints l) (p * 1) (ints (l.drop (p + 1))) = (splice l p (l.drop (p + 1))).flatMap encI from e1, ← fm_drop encI_length, ← fm_take encI_length, List.drop_zero, splice_out2 l p hp]
      rfl
    rw [e2] at hr5
    simpa using hr5

set_option maxHeartbeats 4000000 in
set_option maxRecDepth 100000 in
theorem withoutM_any {w : World} {g off cap : Nat} {l : List M} (h : RowM w g off cap l) (p : Nat) (hp : p < l.length) (hl : l.length < 1000000) :
    Calls Try.prog 56 #[.slice (some ⟨g, off, none⟩) l.length cap, .int .i64 p] w fun e w' => ∃ off' cap', e = .returned (.slice (some ⟨g, off', none⟩) (l.length - 1) cap') ∧ RowM w' g off' cap' (l.eraseIdx p) ∧ KeptOff (fun k => k = g) w w' := by
  have mixed := mixed
  have hl' := Lib.hid hl
  have hr : Hid (RowIn w 34 7 g off l.length cap (flat l)) := h
  have hb := hr.out.bounds
  clear h
  have hw1 : IntKind.i64.wrap ((p : Int) + 1) = (p : Int) + 1 := IntWalk.i64_in _ (by have := hl'.out; omega)
  have hc1 : p ≤ cap := by omega
  have hc2 : p ≤ l.length := by omega
  have hc3 : p + 1 ≤ cap := by omega
  have hc4 : p + 1 ≤ l.length := by omega
  have hc5 : (p : Int) ≤ (l.length : Int) := by omega
  have hc6 : (p : Int) + 1 ≤ (l.length : Int) := by omega
  have hc7 : 0 ≤ (p : Int) + 1 := by omega
  have hc8 : ((p : Int) + 1).toNat = p + 1 := by omega
  have hc9 : (p : Int) ≤ (cap : Int) := by omega
  have hca : (p : Int) + 1 ≤ (cap : Int) := by omega
  have hne : ¬ cap = p := by omega
  have hlen : (flat l).length = l.length * 7 := hb.2.2
  have hR2 : RowIn w.drew 34 7 g off l.length cap (flat l) := hr.out.block rfl
  go_enter Try.func56, Try.ntmps56
  go_upto_region 1 with (fail)
  go_region_held3 (fun _ => True) (trivial) (fail)
  have hsrcB : 0 < l.length - (p + 1) → (if cap = p + 1 then (some ⟨g, off, none⟩ : Option Addr) else some ⟨g, off + (p + 1) * 7, none⟩) = some ⟨g, off + (p + 1) * 7, none⟩ := fun h0 => by rw [if_neg (by omega)]
  generalize (if cap = p + 1 then (some ⟨g, off, none⟩ : Option Addr) else some ⟨g, off + (p + 1) * 7, none⟩) = ad1 at hsrcB ⊢
  generalize hW : w.drew = W at hR2 ⊢
  by_cases hlt : p < l.length - (p + 1)
  · have hz : (p : Int) < ((l.length - (p + 1) : Nat) : Int) := by omega
    have hd1 : ¬ cap = 1 := by omega
    have hd2 : 1 ≤ l.length := by omega
    have hd3 : 1 ≤ cap := by omega
    have hd4 : (1 : Int) ≤ (l.length : Int) := by omega
    have hcs : (flat (l.take p)).length = p * 7 := by rw [flat_length, List.length_take, Nat.min_eq_left hc2]
    have hmn : Nat.min p (l.length - 1) = p := by show min _ _ = _; omega
    have hcell : ∀ j u, (flat (l.take p))[j]? = some u → W.cell? ((⟨g, off, none⟩ : Addr).add j) = some u := fun j u hj => by
      have hj' : j < p * 7 := by
        have := (List.getElem?_eq_some_iff.1 hj).1
        rwa [hcs] at this
      rw [flat_eq, fm_take encM_length, List.getElem?_take_of_lt hj'] at hj
      rw [Addr.add_lit]
      exact hR2.cell hj
    have hfit : 1 + p ≤ l.length := by omega
    have hi1 := flat_one (l.take p)
    go_upto_region 4 with (refine wpList_copy_row rfl (.tmp 21) (.tmp 22) 38 38 rfl hR2 34 Try.underlying38 infoS _ _ _ _ _ _ 1 p (flat (l.take p)) rfl rfl hcs hmn (fun h0 => ⟨rfl, _, rfl, hcell⟩) hfit hi1 ?_; intro w4 hr4 hk4)
    go_wp2
    go_ret
    have hr5 := hr4.out.part 1 (l.length - 1) (by omega)
    refine ⟨off + 1 * 7, cap - 1, rfl, ?_, (by subst hW; exact hk4.out.undrew)⟩
    unfold RowM
    rw [List.length_eraseIdx_of_lt hp]
    have e1 := fm_splice encM_length l (l.take p) 1
    have e2 : ((splice (flat l) (1 * 7) (flat (l.take p))).drop (1 * 7)).take ((l.length - 1) * 7) = flat (l.eraseIdx p) := by
      show ((splice (flat l) (1 * 7) (flat (l.take p))).drop (1 * 7)).take ((l.length - 1) * 7) = _
      rw [show splice (flat l) (1 * 7) (flat (l.take p)) = (splice l 1 (l.take p)).flatMap encM from e1, ← fm_drop encM_length, splice_out1 l p (by omega)]
      refine List.take_of_length_le ?_
      rw [fm_length encM_length, List.length_eraseIdx_of_lt hp]
      omega
    rw [← e2]
    exact hr5
  · have hz : ¬ (p : Int) < ((l.length - (p + 1) : Nat) : Int) := by omega
    have hw2 : IntKind.i64.wrap ((l.length : Int) - 1) = (l.length : Int) - 1 := IntWalk.i64_in _ (by have := hl'.out; omega)
    have hd1 : 0 ≤ (l.length : Int) - 1 := by omega
    have hd2 : ((l.length : Int) - 1).toNat = l.length - 1 := by omega
    have hd3 : l.length - 1 ≤ cap := by omega
    have hd4 : (l.length : Int) - 1 ≤ (cap : Int) := by omega
    have hcs : (flat (l.drop (p + 1))).length = (l.length - (p + 1)) * 7 := by rw [flat_length, List.length_drop]
    have hmn : Nat.min (l.length - (p + 1)) (l.length - p) = l.length - (p + 1) := by show min _ _ = _; omega
    have hcell : ∀ j u, (flat (l.drop (p + 1)))[j]? = some u → W.cell? ((⟨g, off + (p + 1) * 7, none⟩ : Addr).add j) = some u := fun j u hj => by
      rw [flat_eq, fm_drop encM_length, List.getElem?_drop] at hj
      exact hR2.cellA _ hj
    have hfit : p + (l.length - (p + 1)) ≤ l.length := by omega
    have hi1 := flat_one (l.drop (p + 1))
    go_upto_region 6 with (refine wpList_copy_row rfl (.tmp 28) (.tmp 29) 38 38 rfl hR2 34 Try.underlying38 infoS _ _ _ _ _ _ p (l.length - (p + 1)) (flat (l.drop (p + 1))) rfl rfl hcs hmn (fun h0 => ⟨rfl, _, hsrcB h0, hcell⟩) hfit hi1 ?_; intro w4 hr4 hk4)
    go_wp2
    go_ret
    have hr5 := hr4.out.part 0 (l.length - 1) (by omega)
    refine ⟨off, cap, rfl, ?_, (by subst hW; exact hk4.out.undrew)⟩
    unfold RowM
    rw [List.length_eraseIdx_of_lt hp]
    have e1 := fm_splice encM_length l (l.drop (p + 1)) p
    have e2 : ((splice (flat l) (p * 7) (flat (l.drop (p + 1)))).drop (0 * 7)).take ((l.length - 1) * 7) = flat (l.eraseIdx p) := by
      rw [show splice (flat l) (p * 7) (flat (l.drop (p + 1))) = (splice l p (l.drop (p + 1))).flatMap encM from e1, ← fm_drop encM_length, ← fm_take encM_length, List.drop_zero, splice_out2 l p hp]
      rfl
    rw [e2] at hr5
    simpa using hr5
end Go.Proofs.Yticffeklmhcniaa
