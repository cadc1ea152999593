/-
  Decode undoes Encode, and Encode Decode: in plain lists.
-/
import Derived.Test.YtpbmfhbcnllkaaaDoorCodeS
namespace Go.Proofs.YtpbmfhbcnllkaaaDoor
open Go.ChangeShapes Go.WideShapes Go.ChangeAt Go.RowKit Go.Sort
set_option linter.unusedVariables false

theorem encB_get : ∀ (is : List I) (k j : Nat), k < is.length → j < 9 → (encB is)[k * 9 + j]? = (enc9 (is.getD k default))[j]?
  | [], k, j, h, _ => by simp at h
  | m :: ms, 0, j, _, hj => by
    unfold encB
    rw [List.flatMap_cons, Nat.zero_mul, Nat.zero_add, List.getElem?_append_left (by rw [enc9_length]; exact hj)]
    rfl
  | m :: ms, k + 1, j, h, hj => by
    have ih := encB_get ms k j (by simpa using h) hj
    unfold encB at *
    rw [List.flatMap_cons, List.getElem?_append_right (by rw [enc9_length]; omega), enc9_length, show (k + 1) * 9 + j - 9 = k * 9 + j by omega, ih]
    rfl
theorem at9_enc {is : List I} {k : Nat} (hk : k < is.length) (j : Nat) (hj : j < 9) : at9 (encB is) k j = (enc9 (is.getD k default)).getD j 0 := by
  unfold at9
  rw [List.getD_eq_getElem?_getD, encB_get is k j hk hj, ← List.getD_eq_getElem?_getD]
theorem nine_of {l : List Int} {x0 x1 x2 x3 x4 x5 x6 x7 x8 : Int} (h : l = [x0, x1, x2, x3, x4, x5, x6, x7, x8]) : l.getD 0 0 = x0 ∧ l.getD 1 0 = x1 ∧ l.getD 2 0 = x2 ∧ l.getD 3 0 = x3 ∧ l.getD 4 0 = x4 ∧ l.getD 5 0 = x5 ∧ l.getD 6 0 = x6 ∧ l.getD 7 0 = x7 ∧ l.getD 8 0 = x8 := by
  subst h
  exact ⟨rfl, rfl, rfl, rfl, rfl, rfl, rfl, rfl, rfl⟩
theorem enc_at {is : List I} (hz : checkN is = 0) {k : Nat} (hk : k < is.length) : decAt (encB is) k = is.getD k default ∧ takeAt (encB is) k is.length = true := by
  have hm := checkN_may hz k hk
  have hs := checkN_small hz
  obtain ⟨x0, x1, x2, x3, x4, x5, x6, x7, x8, he, hd⟩ := dec_enc hm (by omega)
  obtain ⟨g0, g1, g2, g3, g4, g5, g6, g7, g8⟩ := nine_of he
  have q := fun j hj => at9_enc (is := is) hk j hj
  have e0 := q 0 (by omega); have e1 := q 1 (by omega); have e2 := q 2 (by omega); have e3 := q 3 (by omega); have e4 := q 4 (by omega); have e5 := q 5 (by omega); have e6 := q 6 (by omega); have e7 := q 7 (by omega); have e8 := q 8 (by omega)
  rw [g0] at e0; rw [g1] at e1; rw [g2] at e2; rw [g3] at e3; rw [g4] at e4; rw [g5] at e5; rw [g6] at e6; rw [g7] at e7; rw [g8] at e8
  unfold decAt takeAt take9
  rw [e0, e1, e2, e3, e4, e5, e6, e7, e8, hd, he, hm]
  exact ⟨rfl, by simp⟩
/-- Decode undoes Encode. -/
theorem dec_of_enc {is : List I} (hz : checkN is = 0) : DecP (encB is) is ((encB is).length : Nat) 0 := by
  have hs := checkN_small hz
  have hl := encB_length is
  have h9 : (encB is).length / 9 = is.length := by omega
  have hd : decL (encB is) ((encB is).length / 9) = is := by
    rw [h9]
    apply List.ext_getElem?
    intro k
    by_cases hk : k < is.length
    · have := (enc_at hz hk).1
      simp [decL, hk, this]
    · rw [List.getElem?_eq_none (by rw [decL_length]; omega), List.getElem?_eq_none (by omega)]
  have := DecP.ok (bs := encB is) (by omega) (by omega) (fun j hj => by
    rw [h9] at hj ⊢
    exact (enc_at hz hj).2)
  rw [hd] at this
  exact this
theorem take_nine {bs : List Int} {k : Nat} (h : k * 9 + 9 ≤ bs.length) : bs.take ((k + 1) * 9) = bs.take (k * 9) ++ [at9 bs k 0, at9 bs k 1, at9 bs k 2, at9 bs k 3, at9 bs k 4, at9 bs k 5, at9 bs k 6, at9 bs k 7, at9 bs k 8] := by
  have step : ∀ m, m < bs.length → bs.take (m + 1) = bs.take m ++ [bs.getD m 0] := fun m hm => by
    rw [List.take_succ_eq_append_getElem hm, List.getD_eq_getElem?_getD, List.getElem?_eq_getElem hm]; rfl
  rw [show (k + 1) * 9 = k * 9 + 1 + 1 + 1 + 1 + 1 + 1 + 1 + 1 + 1 by omega]
  rw [step _ (by omega), step _ (by omega), step _ (by omega), step _ (by omega), step _ (by omega), step _ (by omega), step _ (by omega), step _ (by omega), step _ (by omega)]
  simp [at9]
theorem taken_enc {bs : List Int} {k : Nat} {n : Int} (h : takeAt bs k n = true) : enc9 (decAt bs k) = [at9 bs k 0, at9 bs k 1, at9 bs k 2, at9 bs k 3, at9 bs k 4, at9 bs k 5, at9 bs k 6, at9 bs k 7, at9 bs k 8] ∧ mayB (decAt bs k) n = true := by
  unfold takeAt take9 at h
  simp only [Bool.and_eq_true, decide_eq_true_eq] at h
  exact ⟨h.2, h.1⟩
theorem encB_decL {bs : List Int} (hm : bs.length % 9 = 0) (ht : Taken bs (bs.length / 9)) : ∀ k, k ≤ bs.length / 9 → encB (decL bs k) = bs.take (k * 9)
  | 0, _ => by simp [decL, encB]
  | k + 1, hk => by
    have ih := encB_decL hm ht k (by omega)
    rw [decL_succ, take_nine (by omega), ← ih, ← (taken_enc (ht k (by omega))).1]
    simp [encB]
/-- Encode undoes Decode. -/
theorem enc_of_dec {bs : List Int} {is : List I} {p : Int} (h : DecP bs is p 0) : checkN is = 0 ∧ encB is = bs := by
  cases h with
  | ok h1 h2 h3 =>
    have hb := encB_decL h2 h3 (bs.length / 9) (Nat.le_refl _)
    rw [show bs.length / 9 * 9 = bs.length by omega, List.take_length] at hb
    refine ⟨checkN_ok (by rw [decL_length]; omega) fun k hk => ?_, hb⟩
    rw [decL_length] at hk ⊢
    have := (taken_enc (h3 k hk)).2
    simpa [decL, List.getD_eq_getElem?_getD, hk] using this

end Go.Proofs.YtpbmfhbcnllkaaaDoor
