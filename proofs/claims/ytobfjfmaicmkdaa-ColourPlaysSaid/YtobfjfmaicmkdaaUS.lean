
/-
  How long a script may be that came in; slices of small numbers.
-/
import Derived.Test.YtobfjfmaicmkdaaUO
namespace Go.Proofs.Ytobfjfmaicmkdaa
open Go.ChangeShapes Go.WideShapes Go.ChangeAt Go.Shelf Go.RowKit Go.Lib Go.Sort Go.Deep
set_option linter.unusedVariables false
set_option maxRecDepth 4000

theorem bytesO : Try.prog.bytesOf 38 = 32 := by kernel_rfl
theorem cellsU : Try.prog.cellsOf 5 = 1 := by kernel_rfl
section
variable {H : Type} {enc : TypeId × Value → H} {w : World} {base : Nat} {spare : Nat → Bool} {held : Bool}
theorem openOs_len {ts : List TypeId} {ds : List (DataW H)} (h : (DataW.weightsEach Try.prog ts ds).all (· ≤ reachBytes) = true) {j : Nat} {d : DataW H} {a : Option Addr} {len cap : Nat} {p : List MemPlace} (ht : ts[j]? = some 22) (hd : ds[j]? = some d)
    (hk : DataW.Trod enc Try.prog w base spare held 22 (.slice a len cap) d p) : len * 32 ≤ 140737488351232 := by
  obtain ⟨fuel, hf⟩ := hk
  simp [Value.cells] at hf
  rcases open_slice Try.underlying22 hf with ⟨hcs, _⟩ | ⟨y, l, c, m, n, D, Pl, hcs, _, hl, hm, hmm, hx, hi⟩
  · simp at hcs
    omega
  · simp at hcs
    obtain ⟨rfl, rfl, rfl⟩ := hcs
    simp only [Prod.mk.injEq] at hx
    have := sized_slice h ht (hd.trans (by rw [hx.1])) Try.underlying22
    rw [bytesO] at this
    simp only [List.length_map, List.length_range, reachBytes] at this
    omega
end
end Go.Proofs.Ytobfjfmaicmkdaa
