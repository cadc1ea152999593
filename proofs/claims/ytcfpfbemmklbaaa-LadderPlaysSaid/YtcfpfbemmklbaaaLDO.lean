/-
  Sorted, as a row of its own.
-/
import Derived.Test.YtcfpfbemmklbaaaSortedC
import Derived.Test.YtcfpfbemmklbaaaLDMH
namespace Go.Proofs.Ytcfpfbemmklbaaa
open Go.ChangeShapes Go.WideShapes Go.ChangeAt Go.Shelf Go.RowKit Go.Lib Go.Sort Go.Deep
set_option linter.unusedVariables false

/-- A row that is turned in its place. -/
theorem RowIn.sorted {w W : World} {g cap n : Nat} {ms T : List M} (h : RowIn w 34 7 g 0 n cap (flat ms)) (hT : T.length = ms.length) (hW : SWK encM 7 w g 0 T.toArray W) (hH : HoldsK encM 7 W g 0 T.toArray) : RowIn W 34 7 g 0 n cap (flat T) := by
  obtain ⟨cur, h1, h2, h3, h4, h5, h6⟩ := h
  have hg := (Array.getElem?_eq_some_iff.1 h1).1
  obtain ⟨k, os, rfl⟩ := hW
  have hblk : (sortWorldK encM 7 w g 0 k T.toArray os).heap[g]? = some (.cells (putCells id 0 (flatK encM 7 T.toArray) cur) 34 (0, 0)) := by
    show ((putRow id (Sort.ahead w k) g 0 (flatK encM 7 T.toArray)).heap ++ os)[g]? = _
    rw [Array.getElem?_append_left (by rw [Go.Sort.size_putRow]; exact hg)]
    show ((w.heap).modify g (onCells (putCells id 0 (flatK encM 7 T.toArray))))[g]? = _
    rw [Array.getElem?_modify, if_pos rfl, h1]
    rfl
  refine ⟨_, hblk, h2, h3, by simpa [putCells] using h4, by rw [flat_length, hT, ← flat_length]; exact h5, fun j u hj => ?_⟩
  have hlt : j < T.length * 7 := by
    have := (List.getElem?_eq_some_iff.1 hj).1
    rwa [flat_length] at this
  have := (hH j (by rw [size_flatK, List.size_toArray]; exact hlt)).1
  rw [get_flatK _ _ _ _ (by rw [List.size_toArray]; exact hlt)] at this
  have hd : T.toArray[j / 7]! = T.getD (j / 7) default := by
    have hlt : j / 7 < T.length := by omega
    rw [getElem!_pos _ _ (by rw [List.size_toArray]; exact hlt)]
    simp [List.getD_eq_getElem?_getD, hlt]
  have hf := flat_get T (j / 7) (j % 7) (by omega) (by omega)
  rw [show j / 7 * 7 + j % 7 = j by omega, hj] at hf
  have hv : (encM T.toArray[j / 7]!)[j % 7]! = u := by
    rw [hd, getElem!_pos _ _ (by rw [encM_length]; omega)]
    have := hf.symm
    rw [List.getElem?_eq_getElem (by rw [encM_length]; omega)] at this
    exact Option.some.inj this
  have hc : (sortWorldK encM 7 w g 0 k T.toArray os).cell? ⟨g, 0 + j, none⟩ = (putCells id 0 (flatK encM 7 T.toArray) cur)[0 + j]? := by simp [World.cell?, hblk]
  rw [← hc, this, id, hv]

theorem sortedBy_row {w : World} {v : Value} {ms : List M} (h : AtM w v ms) (h0 : 0 < ms.length) (hr : ms.length < 1000000) :
    Calls Try.prog 30 #[v, .func (.func 31) #[] #[]] w fun e w' => ∃ g cap', e = .returned (.slice (some ⟨g, 0, none⟩) ms.length cap') ∧ Hid (w.heap.size ≤ g) ∧ Hid (RowM w' g 0 cap' (stab ltM ms)) ∧ Hid (Below w.heap.size w w') := by
  obtain ⟨g0, off, cap, rfl, hR⟩ := AtM.form h h0
  have hc : Calls Try.prog 47 #[.slice (some ⟨g0, off, none⟩) ms.length cap] w fun e w' => ∃ g cap', e = .returned (.slice (some ⟨g, 0, none⟩) ms.length cap') ∧ Hid (w.heap.size ≤ g) ∧ Hid (RowIn w' 34 7 g 0 ms.length cap' (flat ms)) ∧ Hid (Below w.heap.size w w') := by
    refine (clone_some ⟨g0, off, none⟩ ms.length cap (flat ms) w (flat_length ms) (by unfold maxLen; omega) (by omega) (fun j u hj => RowIn.cellA hR 0 (by rw [Nat.zero_add]; exact hj)) (flat_one ms)).mono ?_
    rintro e w' ⟨v', rfl, hown, hb⟩
    rcases hown.2 with ⟨rfl, e⟩ | ⟨g, cap', cur, rfl, hg, hblk, hn, hm, hs, ht⟩
    · omega
    · exact ⟨g, cap', rfl, hg, RowIn.of_own hown, hb⟩
  have hs : ∀ g cap' w1, Hid (w.heap.size ≤ g) → Hid (RowIn w1 34 7 g 0 ms.length cap' (flat ms)) → Hid (Below w.heap.size w w1) → Calls Try.prog 48 #[.slice (some ⟨g, 0, none⟩) ms.length cap', .func (.func 31) #[] #[]] w1 fun e w' => e = .returned (.tuple #[]) ∧ Hid (RowM w' g 0 cap' (stab ltM ms)) ∧ Hid (Below w.heap.size w w') := by
    intro g cap' w1 hg hR1 hb
    have hR1' := hR1.out
    obtain ⟨cur, h1, h2, h3, h4, h5, h6⟩ := hR1'
    have hg1 := (Array.getElem?_eq_some_iff.1 h1).1
    have hH : HoldsK encM 7 w1 g 0 ms.toArray := by
      refine holds_of_block h1 rfl ?_
      apply List.ext_getElem?
      intro j
      rw [List.getElem?_take]
      split
      · rename_i hj
        have hj2 : j < (flat ms).length := by rw [flat_length]; exact hj
        have := h6 j _ (List.getElem?_eq_getElem hj2)
        rw [Nat.zero_add] at this
        rw [List.getElem?_eq_getElem hj2, ← this, Array.getElem?_toList]
      · rename_i hj
        rw [List.getElem?_eq_none (by rw [flat_length]; omega)]
    refine (sort_any w1 g 0 cap' ms hH hg1 (by omega)).mono ?_
    rintro e w' ⟨he, W⟩
    have hH' : HoldsK encM 7 w' g 0 (stab ltM ms).toArray := SWK.holds W hg1 hH (by simp [stab_length])
    refine ⟨he, ?_, SWK.belowM W hb.out hg.out hb.out.size⟩
    have := RowIn.sorted hR1.out (stab_length ms) W hH'
    unfold RowM
    rw [stab_length]
    exact this
  clear h hR hr h0
  generalize ms.length = n at *
  go_enter Try.func30, Try.ntmps30
  go_wp2_with (first | (go_at_call 47; refine hc.mono ?_; rintro e w1 ⟨g, cap', rfl, hg, hR1, hb⟩) | (go_at_call 48; refine (hs _ _ _ hg hR1 hb).mono ?_; rintro e w2 ⟨rfl, hR2, hb2⟩))
  go_ret
  exact ⟨g, cap', rfl, hg, hR2, hb2⟩
theorem sorted_row {w : World} {v : Value} {ms : List M} (h : AtM w v ms) (h0 : 0 < ms.length) (hr : ms.length < 1000000) :
    Calls Try.prog 16 #[v] w fun e w' => ∃ g cap', e = .returned (.slice (some ⟨g, 0, none⟩) ms.length cap') ∧ Hid (w.heap.size ≤ g) ∧ Hid (RowM w' g 0 cap' (stab ltM ms)) ∧ Hid (Below w.heap.size w w') := by
  have hc := sortedBy_row h h0 hr
  clear h hr h0
  generalize ms.length = n at *
  go_enter Try.func16, Try.ntmps16
  go_wp2_with (go_at_call 30; refine hc.mono ?_; rintro e w1 ⟨g, cap', rfl, hg, hR, hb⟩)
  go_ret
  exact ⟨g, cap', rfl, hg, hR, hb⟩
end Go.Proofs.Ytcfpfbemmklbaaa
