/-
  The document's running handler in memory, and how it turns.
-/
import Derived.Test.YtminfmjgmmkaoaaGreatDoorVmC
import Derived.OwnWalk
import Derived.Laws.AppendOwn
import Derived.Deep.Cut
import Derived.Deep.QuietTactic
import Derived.BigQuiet
namespace Go.Proofs.YtminfmjgmmkaoaaGreatDoor
open Go.ChangeShapes Go.WideShapes Go.ChangeAt Go.RowKit Go.Sort
set_option linter.unusedVariables false
set_option maxRecDepth 4000

theorem owns_below {w w' : World} {base : Nat} {e : TypeId} {size : Nat} {v : Value} {n : Nat} {xs : List Value} (h : w.ownsRow base e size v n xs) (hb : Below w.heap.size w w') : w'.ownsRow base e size v n xs :=
  h.kept (row := none) ⟨hb.os, hb.tape, hb.output, hb.size, fun k hk _ => hb.block k hk⟩ (by cases v.ownBlock <;> simp)
def flatO (os : List Ot) : List Value := (os.map fun o => o.cells.toList).flatten
theorem flatO_append (a b : List Ot) : flatO (a ++ b) = flatO a ++ flatO b := by simp [flatO]
theorem flatO_one (o : Ot) : flatO [o] = [.int .i64 o.link, .int .i64 o.delay, .int .i64 o.value] := rfl
theorem flatO_length (os : List Ot) : (flatO os).length = os.length * 3 := by
  induction os with
  | nil => rfl
  | cons o t ih =>
    have : flatO (o :: t) = flatO [o] ++ flatO t := flatO_append [o] t
    rw [this, List.length_append, ih, flatO_one, List.length_cons]
    simp only [List.length_cons, List.length_nil]
    omega
namespace DM
variable {b1 : Nat} {w w' : World} {x rb : Nat} {v : Wv} {W : Wd} {ev : M} {ov : Value} {m : Mc}
end DM
theorem InsAt.setCell_ne {w : World} {b o : Nat} {i : I} (h : InsAt w b o i) {p : Addr} {u : Value} (hne : b ≠ p.block) : InsAt (w.setCell p u) b o i := by
  obtain ⟨hlt, h0, h1, h2, h3⟩ := h
  have hc : ∀ k, (w.setCell p u).cell? ⟨b, k, none⟩ = w.cell? ⟨b, k, none⟩ := fun k => World.cell?_of_block (w := w) (Below.heap_setCell _ _ _ _ hne)
  exact ⟨by simpa [World.setCell] using hlt, by rw [hc]; exact h0, by rw [hc]; exact h1, by rw [hc]; exact h2, by rw [hc]; exact h3⟩
end Go.Proofs.YtminfmjgmmkaoaaGreatDoor
