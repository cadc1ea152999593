
/-
  The law's floor: no later than anything that bounds all that is held and all that is on its way.
-/
import Derived.Test.YtobfjfmaicmkdaaWA
namespace Go.Proofs.Ytobfjfmaicmkdaa
open Go.ChangeShapes Go.WideShapes Go.ChangeAt Go.Shelf Go.RowKit Go.Lib Go.Sort Go.Deep Col
set_option linter.unusedVariables false
set_option linter.unusedSimpArgs false
set_option maxRecDepth 4000

set_option maxHeartbeats 2000000 in
theorem floor12_any {w : World} {gh gm N : Nat} {hv mv : Nat → Value} {H : Nat → List Int} {M : Nat → List (Int × Bool)} (hN : N ≤ 6) (hH : RowIn w 58 1 gh 0 N N (vals hv N)) (hM : RowIn w 59 1 gm 0 N N (vals mv N))
    (hi : ∀ i, i < N → RowAt w 2 1 (hv i) (H i).length (ints (H i))) (mi : ∀ i, i < N → RowAt w 61 2 (mv i) (M i).length (pcs (M i))) (hl : ∀ i, i < N → (H i).length < 1000000) (ml : ∀ i, i < N → (M i).length < 1000000)
    (b : Int) (hb : b ≤ never) (h1 : ∀ i, i < N → ∀ z ∈ H i, b ≤ z) (h2 : ∀ i, i < N → ∀ m ∈ M i, b ≤ m.1) :
    Calls Try.prog 26 #[.slice (some ⟨gh, 0, none⟩) N N, .slice (some ⟨gm, 0, none⟩) N N] w fun e w' => ∃ z, e = .returned (.int .i64 z) ∧ Hid (b ≤ z) ∧ w = w' := by
  have hH' := Lib.hid hH
  have hM' := Lib.hid hM
  have hi' := Lib.hid hi
  have mi' := Lib.hid mi
  have hl' := Lib.hid hl
  have ml' := Lib.hid ml
  have h1' := Lib.hid h1
  have h2' := Lib.hid h2
  have hb' : Hid (b ≤ 4611686018427387904) := hb
  clear hH hM hi mi hl ml h1 h2 hb
  go_enter Try.func26, Try.ntmps26
  go_wp2
  go_loopw [5, 6] (fun s5 s6 wr => ∃ (i : Nat) (z : Int), i ≤ N ∧ s6 = .int .i64 i ∧ s5 = .int .i64 z ∧ Hid (b ≤ z) ∧ w = wr) (fun _ s6 _ => N - (intOf s6).toNat)
  case atStart => exact ⟨0, _, Nat.zero_le _, rfl, rfl, hb', rfl⟩
  case round =>
    obtain ⟨i, z, hiN, rfl, rfl, hz, rfl⟩ := hrel
    by_cases hin : i < N
    · have hlt : (i : Int) < (N : Int) := by omega
      have c := hH'.out.cell (vals_get hv hin)
      have d := hM'.out.cell (vals_get mv hin)
      simp only [Nat.zero_add] at c d
      obtain ⟨am, capm, hmv, hcapm⟩ := (mi'.out i hin).shape
      have hlst := Lib.hid (least12_any (hi'.out i hin) (hl'.out i hin))
      have hm2 : Hid (b ≤ min z (leastL (H i))) := by
        have e1 := hz.out
        have e2 := leastL_ge hb'.out (h1'.out i hin)
        show _ ≤ _
        omega
      have hmi := Lib.hid (mi'.out i hin)
      have hml := Lib.hid (ml'.out i hin)
      have h2i := Lib.hid (h2'.out i hin)
      have hin' := Lib.hid hin
      rw [hmv] at d hmi
      generalize hv i = vh at *
      generalize hnM : (M i).length = n at *
      have hnM' := Lib.hid hnM
      generalize leastL (H i) = lst at *
      clear hnM hz hin hmv
      go_upto_region 6 with (go_at_call 25; refine hlst.out.mono ?_; rintro e w2 ⟨rfl, hw2⟩; subst hw2)
      generalize min z lst = z1 at *
      clear c hlst
      go_wp2
      go_loopw [5, 7] (fun s5 s7 wr => ∃ (k : Nat) (y : Int), k ≤ n ∧ s7 = .int .i64 k ∧ s5 = .int .i64 y ∧ Hid (b ≤ y) ∧ w = wr) (fun _ s7 _ => n - (intOf s7).toNat)
      case atStart => exact ⟨0, _, Nat.zero_le _, rfl, rfl, hm2, rfl⟩
      case round =>
        obtain ⟨k, y, hkn, rfl, rfl, hy, rfl⟩ := hrel
        have hwk : IntKind.i64.wrap ((k : Int) + 1) = (k : Int) + 1 := IntWalk.i64_in _ (by have := hml.out; omega)
        have hwi : IntKind.i64.wrap ((i : Int) + 1) = (i : Int) + 1 := IntWalk.i64_in _ (by omega)
        by_cases hk : k < n
        · have hkl : (k : Int) < (n : Int) := by omega
          obtain ⟨g, off, cap', hv', hR⟩ := hmi.out.form (by omega)
          simp only [Value.slice.injEq, true_and] at hv'
          obtain ⟨rfl, rfl⟩ := hv'
          have e0 := hR.cell (pcs_get0 (l := M i) (i := k) (by rw [hnM'.out]; exact hk))
          have hbm : b ≤ ((M i).getD k (0, false)).1 := h2i.out _ (by
            have hkk : k < (M i).length := by rw [hnM'.out]; exact hk
            rw [List.getD_eq_getElem?_getD, List.getElem?_eq_getElem hkk]
            exact List.getElem_mem hkk)
          generalize ((M i).getD k (0, false)).1 = t at *
          have hnx : Hid (b ≤ min y t) := by
            have := hy.out
            show _ ≤ _
            omega
          have hk' := Lib.hid hk
          clear hR hbm hy hk
          go_wp2
          go_roundw
          case rel => (repeat apply Exists.intro); first | exact ⟨⟨hk'.out, by go_num, rfl, hnx⟩, rfl⟩ | exact ⟨hk'.out, by go_num, rfl, hnx, trivial⟩ | exact ⟨hk'.out, by go_num, rfl, hnx, rfl⟩
          case measure => have := hk'.out; simp [intOf]; omega
        · obtain rfl : k = n := by omega
          have hkl : ¬ (k : Int) < (k : Int) := by omega
          clear hk
          go_wp2
          go_roundw
          case rel => (repeat apply Exists.intro); first | exact ⟨⟨hin'.out, by go_num, rfl, hy⟩, rfl⟩ | exact ⟨hin'.out, by go_num, rfl, hy, trivial⟩ | exact ⟨hin'.out, by go_num, rfl, hy, rfl⟩
          case measure => have := hin'.out; simp [intOf]; omega
    · obtain rfl : i = N := by omega
      have hlt : ¬ (i : Int) < (i : Int) := by omega
      clear hin
      go_wp2
      go_ret
      exact ⟨z, rfl, hz, rfl⟩
end Go.Proofs.Ytobfjfmaicmkdaa
