
/-
  Places by halving: sort.Search over a list of messages, slices.BinarySearch over days; the day of a time.
-/
import Derived.Test.YtcfpfbemmklbaaaYC
namespace Go.Proofs.Ytcfpfbemmklbaaa
open Go.ChangeShapes Go.WideShapes Go.ChangeAt Go.Shelf Go.RowKit Go.Lib Go.Sort Go.Deep
set_option linter.unusedVariables false

/-- The middle of two, as the library computes it. -/
theorem half_u {i j : Nat} (h : i + j < 4611686018427387904) : IntKind.u64.wrap ((i : Int) + (j : Int)) = (i : Int) + (j : Int) := by rw [IntKind.wrap_u64]; omega

/-- A message of a row. -/
theorem RowM.at {w : World} {g off cap : Nat} {l : List M} (h : RowM w g off cap l) (i : Nat) (hi : i < l.length) : MsgAt w g (off + i * 7) (l.getD i default) := by
  have hc : ∀ c, c < 7 → ∀ u, (encM (l.getD i default))[c]? = some u → w.cell? ⟨g, off + i * 7 + c, none⟩ = some u := fun c hc u hu => by
    rw [Nat.add_assoc]
    exact RowIn.cell h (by rw [flat_get l i c hi hc]; exact hu)
  exact ⟨RowIn.lt h, hc 0 (by omega) _ rfl, hc 1 (by omega) _ rfl, hc 2 (by omega) _ rfl, hc 3 (by omega) _ rfl, hc 4 (by omega) _ rfl, hc 5 (by omega) _ rfl, hc 6 (by omega) _ rfl⟩
theorem AtM.form {w : World} {v : Value} {l : List M} (h : AtM w v l) (h0 : 0 < l.length) : ∃ g off cap, v = .slice (some ⟨g, off, none⟩) l.length cap ∧ RowM w g off cap l := RowAt.form h h0
theorem AtI.form {w : World} {v : Value} {l : List Int} (h : AtI w v l) (h0 : 0 < l.length) : ∃ g off cap, v = .slice (some ⟨g, off, none⟩) l.length cap ∧ RowI w g off cap l := RowAt.form h h0
theorem RowAt.below {w w' : World} {e : TypeId} {sz n : Nat} {v : Value} {xs : List Value} (h : RowAt w e sz v n xs) (hb : Below w.heap.size w w') : RowAt w' e sz v n xs := h.kept (S := fun _ => False) (.of_below hb) (fun _ _ e => e)

end Go.Proofs.Ytcfpfbemmklbaaa
