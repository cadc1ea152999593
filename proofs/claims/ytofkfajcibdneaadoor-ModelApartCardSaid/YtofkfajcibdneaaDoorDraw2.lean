
/-
  The program's Mix, for every number of 64 bits.
-/
import Derived.Test.YtofkfajcibdneaaDoorDraw1
import Derived.Laws.EntriesVeiled
import Derived.Laws.ByValue
import Derived.LoopN
import Derived.RegionCalls
import Derived.Below
import Derived.Lib.Hide
import Derived.Deep.Cut
import Derived.StillTailTactics
namespace Go.Proofs.YtofkfajcibdneaaDoor
open Go.ChangeShapes Go.WideShapes Go.ChangeAt Go.RowKit
set_option maxRecDepth 4000

theorem round_ends {w wr : World} {v v' : Value} {C : Array Value} {T : TypeId} (h0 : wr.cell? ⟨w.heap.size, 0, none⟩ = some v)
    (h1 : wr.frozen? ⟨w.heap.size, 0, none⟩ = false) (hb : Below w.heap.size w wr) (hs : w.heap.size < wr.heap.size) :
    ((wr.setCell ⟨w.heap.size, 0, none⟩ v').alloc (.cells C T)).cell? ⟨w.heap.size, 0, none⟩ = some v' ∧
    ((wr.setCell ⟨w.heap.size, 0, none⟩ v').alloc (.cells C T)).frozen? ⟨w.heap.size, 0, none⟩ = false ∧
    Below w.heap.size w ((wr.setCell ⟨w.heap.size, 0, none⟩ v').alloc (.cells C T)) ∧
    w.heap.size < ((wr.setCell ⟨w.heap.size, 0, none⟩ v').alloc (.cells C T)).heap.size := by
  refine ⟨?_, ?_, (hb.setCell (by simp) _).alloc (by simp; omega) _, by simp; omega⟩
  · rw [World.cell?_alloc_past _ _ _ (by simp; omega)]; exact World.cell?_setCell_same _ _ _ h0
  · rw [World.frozen?_alloc_past _ _ _ (by simp; omega)]; simp [h1]
/-- What is mixed behind k steps. -/
def stN (x k : Nat) : Nat :=
  if k = 0 then x else if k = 1 then (x + mixC) % two64 else if k = 2 then shx 30 ((x + mixC) % two64)
  else if k = 3 then shx 30 ((x + mixC) % two64) * mixA % two64
  else if k = 4 then shx 27 (shx 30 ((x + mixC) % two64) * mixA % two64)
  else if k = 5 then shx 27 (shx 30 ((x + mixC) % two64) * mixA % two64) * mixB % two64
  else mixN x
theorem stN_0 (x : Nat) : stN x 0 = x := by unfold stN; rw [if_pos (by decide)]
theorem stN_1 (x : Nat) : stN x 1 = (stN x 0 + mixC) % two64 := by rw [stN_0]; unfold stN; rw [if_neg (by decide), if_pos (by decide)]
theorem stN_2 (x : Nat) : stN x 2 = shx 30 (stN x 1) := by rw [stN_1, stN_0]; unfold stN; rw [if_neg (by decide), if_neg (by decide), if_pos (by decide)]
theorem stN_3 (x : Nat) : stN x 3 = stN x 2 * mixA % two64 := by rw [stN_2, stN_1, stN_0]; unfold stN; rw [if_neg (by decide), if_neg (by decide), if_neg (by decide), if_pos (by decide)]
theorem stN_4 (x : Nat) : stN x 4 = shx 27 (stN x 3) := by rw [stN_3, stN_2, stN_1, stN_0]; unfold stN; rw [if_neg (by decide), if_neg (by decide), if_neg (by decide), if_neg (by decide), if_pos (by decide)]
theorem stN_5 (x : Nat) : stN x 5 = stN x 4 * mixB % two64 := by rw [stN_4, stN_3, stN_2, stN_1, stN_0]; unfold stN; rw [if_neg (by decide), if_neg (by decide), if_neg (by decide), if_neg (by decide), if_neg (by decide), if_pos (by decide)]
theorem stN_end (x : Nat) : stN x 6 = mixN x := by unfold stN; rw [if_neg (by decide), if_neg (by decide), if_neg (by decide), if_neg (by decide), if_neg (by decide), if_neg (by decide)]
theorem stN_6 (x : Nat) : stN x 6 = shx 31 (stN x 5) := by rw [stN_end, stN_5, stN_4, stN_3, stN_2, stN_1, stN_0]; unfold mixN; rfl
theorem stN_six (x : Nat) : Ending.returned (.int .u64 (stN x 6 : Nat)) = .returned (.int .u64 (mixN x : Nat)) := by rw [stN_end]
theorem stN_lt {x : Nat} (hx : x < 18446744073709551616) (k : Nat) : stN x k < 18446744073709551616 := by
  unfold stN
  repeat' split
  · exact hx
  · exact Nat.mod_lt _ two64_pos
  · exact shx_lt (Nat.mod_lt _ two64_pos)
  · exact Nat.mod_lt _ two64_pos
  · exact shx_lt (Nat.mod_lt _ two64_pos)
  · exact Nat.mod_lt _ two64_pos
  · exact mixN_lt x
end Go.Proofs.YtofkfajcibdneaaDoor
