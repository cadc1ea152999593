/-
  How long a model's links are, by the reach of what comes in.
-/
import Derived.Test.YtofkfajcibdneaaDoorOM
namespace Go.Proofs.YtofkfajcibdneaaDoor
open Go.ChangeShapes Go.WideShapes Go.ChangeAt Go.RowKit Go.Sort Go.Deep
set_option linter.unusedVariables false
set_option maxRecDepth 100000

theorem bytesLk : Tryd.prog.bytesOf 43 = 32 := by kernel_rfl
section
variable {H : Type} {enc : TypeId × Value → H} {w : World} {base : Nat} {spare : Nat → Bool} {held : Bool}
theorem md_len {ts : List TypeId} {ds : List (DataW H)} (h : (DataW.weightsEach Tryd.prog ts ds).all (· ≤ reachBytes) = true) {j : Nat} {u : Mv} {M : Md} {d : DataW H} {p : List MemPlace} (ht : ts[j]? = some 27) (hd : ds[j]? = some d)
    (hk : DataW.Trod enc Tryd.prog w base spare held 27 (u.val M) d p) : u.ll * 32 ≤ 140737488351232 := by
  obtain ⟨fuel, hf⟩ := hk
  obtain ⟨xs, n, _, hx, hlen, hxl, hg⟩ := DataW.trod_struct Tryd.underlying27 hf
  match xs, hxl with
  | [y0, y1, y2, y3, y4, y5], _ =>
    have g1 := hg 1 _ rfl
    simp [cellsSk, Mv.val, Mv.cells, Value.cells] at g1
    simp only [Prod.mk.injEq] at hx
    rcases open_slice Tryd.underlying23 g1 with ⟨hcs, _⟩ | ⟨y, l, c, m, n, D, Pl, hcs, _, hl, hm, hmm, hy, hi⟩
    · simp at hcs
      omega
    · simp at hcs
      obtain ⟨-, h2, -⟩ := hcs
      have hmem : ∀ z, z ∈ (DataW.weights Tryd.prog 23 y1.1) → z ∈ DataW.weights Tryd.prog 27 d := fun z hz => by
        rw [hx.1]
        simp only [DataW.weights, Tryd.underlying27]
        exact DataW.weights_mem_each (j := 1) rfl rfl z hz
      rw [hy] at hmem
      have hin := hmem _ (by simp only [DataW.weights, Tryd.underlying23]; exact List.mem_cons_self)
      have := List.all_eq_true.1 h _ (DataW.weights_mem_each ht hd _ hin)
      rw [bytesLk] at this
      simp only [List.length_map, List.length_range, reachBytes, decide_eq_true_eq] at this
      rw [h2]
      omega
end
end Go.Proofs.YtofkfajcibdneaaDoor
