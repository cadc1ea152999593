
/-
  What only looks at a way: made, Len, Room, place, Peek, refusal.
-/
import Derived.Test.YtjbammgnkegecaaKC
import Derived.Lib.MinMax
namespace Go.Proofs.Ytjbammgnkegecaa
open Go.ChangeShapes Go.WideShapes Go.ChangeAt Go.Shelf Go.RowKit Go.Lib Go.Sort Go.Deep
set_option linter.unusedVariables false
set_option maxRecDepth 4000

section
variable {w : World} {hb : Nat} {S : Nat → Prop} {y : Wy} {v : Value} {L : List Pc}
theorem WyOf.shape (h : WyOf w hb S y v L) : ∃ a cap, v = .slice a L.length cap ∧ L.length ≤ cap := RowAt.shape h.list
theorem made_any (h : WyOf w hb S y v L) : Calls Try.prog 33 #[.pointer (some ⟨hb, 0, none⟩)] w fun e w' => e = .returned (.bool true) ∧ w = w' := by
  have c2 := h.c2
  have h1 : 0 < y.most := by have := h.ok.1; omega
  clear h
  go_enter Try.func33, Try.ntmps33
  go_wp2
  go_ret
  exact ⟨rfl, rfl⟩
theorem lkLen_of (h : WyOf w hb S y v L) : Calls Try.prog 21 #[.pointer (some ⟨hb, 0, none⟩)] w fun e w' => e = .returned (.int .i64 L.length) ∧ w = w' := by
  have hm := made_any h
  have c4 := h.c4
  obtain ⟨a, cap, rfl, hc⟩ := h.shape
  clear h
  generalize L.length = k at *
  go_enter Try.func21, Try.ntmps21
  go_wp2_with (go_at_call 33; refine hm.mono ?_; rintro e w' ⟨rfl, rfl⟩)
  go_ret
  exact ⟨rfl, rfl⟩
set_option maxHeartbeats 1000000 in
theorem lkRoom_of (h : WyOf w hb S y v L) (hl : L.length < 1000000000000000) : Calls Try.prog 17 #[.pointer (some ⟨hb, 0, none⟩)] w fun e w' => e = .returned (.int .i64 (roomN y L.length)) ∧ Below w.heap.size w w' := by
  have mixed := mixed
  have hm := made_any h
  have c2 := h.c2
  have c4 := h.c4
  have hd : Below w.heap.size w w.drew := (Below.refl _ w).drew
  have hd' := Lib.hid hd
  have d2 := (h.below hd).c2
  have d4 := (h.below hd).c4
  have ho := h.ok
  obtain ⟨ho1, ho2⟩ := ho
  obtain ⟨a, cap, rfl, hc⟩ := h.shape
  clear h hd
  have hw : IntKind.i64.wrap (y.most - (L.length : Int)) = y.most - (L.length : Int) := IntWalk.i64_in _ (by omega)
  unfold roomN
  generalize L.length = k at *
  go_enter Try.func17, Try.ntmps17
  go_upto_region 3 with (go_at_call 33; refine hm.mono ?_; rintro e w' ⟨rfl, rfl⟩)
  go_region_held3 (fun w' => w'.cell? ⟨hb, 2, none⟩ = some (.int .i64 y.most) ∧ w'.cell? ⟨hb, 4, none⟩ = some (.slice a k cap)) (exact ⟨d2, d4⟩) (fail)
  go_wp2
  go_ret
  exact ⟨rfl, hd'.out⟩
set_option maxHeartbeats 1000000 in
theorem place_some (h : WyOf w hb S y v L) (n : Int) (hl : L.length < 1000000000000000) (h0 : 0 < L.length) : Calls Try.prog 30 #[.pointer (some ⟨hb, 0, none⟩), .int .i64 n] w fun e w' => e = .returned (.tuple #[.int .i64 (placeN y.loose n L.length : Nat), .int .i64 0]) ∧ Below w.heap.size w w' := by
  have mixed := mixed
  have hm := made_any h
  have c4 := h.c4
  have hd : Below w.heap.size w w.drew := (Below.refl _ w).drew
  have hd' := Lib.hid hd
  have d3 := (h.below hd).c3
  have d4 := (h.below hd).c4
  obtain ⟨a, cap, rfl, hc⟩ := h.shape
  clear h hd
  have hne : ¬ (L.length : Int) = 0 := by omega
  have hrs := fun w => rest_any n L.length (by omega) (by omega) w
  have hfs := fun w => first_any n L.length w
  obtain ⟨r, hr⟩ : ∃ r : Int, r = (placeN y.loose n L.length : Nat) := ⟨_, rfl⟩
  rw [← hr]
  unfold placeN at hr
  unfold kfV kfn at d3
  generalize L.length = k at *
  cases hlo : y.loose with
  | true =>
    rw [hlo] at hr d3
    have h1 := Int.emod_nonneg n (show (k : Int) ≠ 0 by omega)
    rw [if_pos rfl] at hr d3
    have hr2 : r = n % (k : Int) := by omega
    rw [← hr2] at hrs
    clear hr hr2 h1 hlo
    go_enter Try.func30, Try.ntmps30
    go_upto_region 5 with (go_at_call 33; refine hm.mono ?_; rintro e w' ⟨rfl, rfl⟩)
    go_region_held3 (fun w' => w'.cell? ⟨hb, 3, none⟩ = some (.func (.func 41) #[] #[]) ∧ w'.cell? ⟨hb, 4, none⟩ = some (.slice a k cap)) (exact ⟨d3, d4⟩) (first | (go_at_call 41; refine (hrs _).mono ?_; rintro e w' ⟨rfl, rfl⟩))
    go_wp2
    go_ret2
    exact ⟨rfl, hd'.out⟩
  | false =>
    rw [hlo] at hr d3
    simp only [Bool.false_eq_true, if_false] at hr d3
    subst hr
    clear hlo hrs
    go_enter Try.func30, Try.ntmps30
    go_upto_region 5 with (go_at_call 33; refine hm.mono ?_; rintro e w' ⟨rfl, rfl⟩)
    go_region_held3 (fun w' => w'.cell? ⟨hb, 3, none⟩ = some (.func (.func 40) #[] #[]) ∧ w'.cell? ⟨hb, 4, none⟩ = some (.slice a k cap)) (exact ⟨d3, d4⟩) (first | (go_at_call 40; refine (hfs _).mono ?_; rintro e w' ⟨rfl, rfl⟩))
    go_wp2
    go_ret2
    exact ⟨rfl, hd'.out⟩
theorem place_none (h : WyOf w hb S y v []) (n : Int) : Calls Try.prog 30 #[.pointer (some ⟨hb, 0, none⟩), .int .i64 n] w fun e w' => e = .returned (.tuple #[.int .i64 0, .int .i64 6]) ∧ w = w' := by
  have hm := made_any h
  have c4 := h.c4
  obtain ⟨a, cap, rfl, hc⟩ := h.shape
  simp only [List.length_nil] at c4
  clear h hc
  go_enter Try.func30, Try.ntmps30
  go_wp2_with (go_at_call 33; refine hm.mono ?_; rintro e w' ⟨rfl, rfl⟩)
  go_ret2
  exact ⟨rfl, rfl⟩
end
end Go.Proofs.Ytjbammgnkegecaa
