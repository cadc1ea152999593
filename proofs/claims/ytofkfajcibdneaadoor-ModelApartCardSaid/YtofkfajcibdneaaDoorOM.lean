/-
  What the condition on the listed variables gives; how long a model's slices are where its bulk is bounded.
-/
import Derived.Test.YtofkfajcibdneaaDoorNO
import Derived.Test.YtofkfajcibdneaaDoorOC
import Derived.Test.YtofkfajcibdneaaDoorCards
import Derived.Test.YtofkfajcibdneaaDoorTie
namespace Go.Proofs.YtofkfajcibdneaaDoor
open Go.ChangeShapes Go.WideShapes Go.ChangeAt Go.RowKit Go.Sort Go.Deep
set_option linter.unusedVariables false
set_option maxRecDepth 100000

theorem gErrNamed : Tryd.prog.globalNamed "isochron/code.errCannotBe" = some 1 := by kernel_rfl
theorem gCountNamed : Tryd.prog.globalNamed "isochron/model.errCount" = some 3 := by kernel_rfl
theorem gTimeNamed : Tryd.prog.globalNamed "isochron/model.errTime" = some 4 := by kernel_rfl
theorem gProcNamed : Tryd.prog.globalNamed "isochron/model.errProcess" = some 0 := by kernel_rfl
theorem gTwiceNamed : Tryd.prog.globalNamed "isochron/model.errTwice" = some 5 := by kernel_rfl
theorem gTypNamed : Tryd.prog.globalNamed "errors.errorType" = some 2 := by kernel_rfl
theorem tErrV : (Tryd.prog.globals[1]?).map (·.type) = some 60 := by kernel_rfl
theorem tCountV : (Tryd.prog.globals[3]?).map (·.type) = some 60 := by kernel_rfl
theorem tTimeV : (Tryd.prog.globals[4]?).map (·.type) = some 60 := by kernel_rfl
theorem tProcV : (Tryd.prog.globals[0]?).map (·.type) = some 60 := by kernel_rfl
theorem tTwiceV : (Tryd.prog.globals[5]?).map (·.type) = some 60 := by kernel_rfl
theorem rtypeT : (Tryd.prog.cutTypes.find? (·.1 == "internal/reflectlite.rtype")).map (·.2) = some 103 := by kernel_rfl
theorem nTypes : Tryd.prog.types.size = 157 := by kernel_rfl
theorem oneRow : ((List.range 157).filter fun t => Tryd.prog.rowNamed t [101, 114, 114, 111, 114]) = [60] := by kernel_rfl
theorem starE : "*" ++ "errors.errorString" = "*errors.errorString" := by decide
theorem rowE (u : TypeId) (h : Tryd.prog.typeName? 3 u = some "*errors.errorString") : u = 123 :=
  typeName_ptr_named (nm := "errors.errorString") (by rw [starE]; kernel_rfl) (by kernel_rfl) (by decide) u (by rw [starE]; exact h)
theorem cellsES : Tryd.prog.cellsOf 145 = 1 := by kernel_rfl
theorem cellsS : Tryd.prog.cellsOf 9 = 1 := by kernel_rfl
theorem sen_of {n : String} {text : List UInt8} {r : List (String × DataW Unit)} {W : World} {g : Nat} (h : laidMet Tryd.prog ((n, .iface "*errors.errorString" (.ptr (.agg [.lit (.string text)]))) :: r) W)
    (hg : Tryd.prog.globalNamed n = some g) (ht : (Tryd.prog.globals[g]?).map (·.type) = some 60) : ∃ b, Sen W g b := by
  obtain ⟨eb, s, hv, _⟩ := laid_sentinel h hg ht Tryd.underlying60 rowE Tryd.underlying123 Tryd.underlying145 rfl rfl Tryd.underlying9 cellsES cellsS
  have hc : W.cell? ⟨g, 0, none⟩ = some (.iface 123 (.pointer (some eb))) := by simpa using World.var?_cell hg hv 0
  exact ⟨eb, World.block_lt_of_cell? W _ hc, hc⟩
abbrev laid13 : List (String × DataW Unit) := Rows.modelChecksRow.laid
theorem of_laid13 {W : World} (h : laidMetH Tryd.prog laid13 W) : Laid13 W := by
  have h' : laidMet Tryd.prog [("isochron/code.errCannotBe", Rows.laid_isochron_code_errCannotBe), ("isochron/model.errCount", Rows.laid_isochron_model_errCount), ("isochron/model.errTime", Rows.laid_isochron_model_errTime), ("isochron/model.errProcess", Rows.laid_isochron_model_errProcess), ("isochron/model.errTwice", Rows.laid_isochron_model_errTwice)] W ∧ handlesMet Tryd.prog [("errors.errorType", Rows.laid_errors_errorType)] W := h
  obtain ⟨h1, h2⟩ := h'
  refine ⟨sen_of h1 gErrNamed tErrV, ?_, sen_of h1.tail gCountNamed tCountV, sen_of h1.tail.tail gTimeNamed tTimeV, sen_of h1.tail.tail.tail gProcNamed tProcV, sen_of h1.tail.tail.tail.tail gTwiceNamed tTwiceV⟩
  obtain ⟨name, u, ty, e1, e2, e3, e4, e5⟩ := h2 _ (List.mem_singleton.2 rfl)
  have en : name = [101, 114, 114, 111, 114] := (Option.some.inj e1).symm
  subst en
  obtain rfl := Option.some.inj (rtypeT.symm.trans e2)
  have hm : ty ∈ (List.range 157).filter fun t => Tryd.prog.rowNamed t [101, 114, 114, 111, 114] := List.mem_filter.2 ⟨List.mem_range.2 (by rw [← nTypes]; exact e3), e4⟩
  rw [oneRow] at hm
  obtain rfl := List.mem_singleton.1 hm
  have hh : typeHandle Tryd.prog 60 = .pointer (some ⟨6, 60, none⟩) := by kernel_rfl
  rw [hh] at e5
  have hc : W.cell? ⟨2, 0, none⟩ = some (.iface 103 (.agg #[.pointer (some ⟨6, 60, none⟩)])) := by simpa using World.var?_cell gTypNamed e5 0
  exact ⟨World.block_lt_of_cell? W _ hc, hc⟩
theorem door13 (os : Os) (args : Array Value) : laidMetH Tryd.prog laid13 ((World.doorLaid Tryd.prog 111 os).forCall (fun _ _ => 0) ⟨#[], args, []⟩).memory :=
  laidMetH_of_parts3 (fuel := 8) (laidMet_of_run' 8 (by kernel_rfl) (by kernel_rfl)) (by kernel_rfl) (by kernel_rfl)

/-! How long what comes in is, by its bulk. -/
theorem length_le13 {H : Type} (l : List (DataW H)) : l.length ≤ Rows.uptoBulkAll l := by
  induction l with
  | nil => simp [Rows.uptoBulkAll]
  | cons x r ih =>
    have h1 : 1 ≤ Rows.uptoBulk x := by
      cases x with
      | lit l => cases l <;> simp [Rows.uptoBulk]
      | nil => simp [Rows.uptoBulk]
      | ptr d => simp [Rows.uptoBulk]
      | slice elems spare => simp [Rows.uptoBulk]
      | agg parts => simp [Rows.uptoBulk]
      | iface t d => simp [Rows.uptoBulk]
      | map entries => simp [Rows.uptoBulk]
      | held h => simp [Rows.uptoBulk]
    simp only [Rows.uptoBulkAll, List.length_cons]
    omega
section
variable {H : Type} {enc : TypeId × Value → H} {w : World} {base : Nat} {spare : Nat → Bool} {held : Bool}
theorem slice_bulk13 {t e : TypeId} {fuel : Nat} {a : Option Addr} {len cap : Nat} {x : DataW H × List MemPlace} (ht : Tryd.prog.underlying t = some (.slice e)) (h : DataW.trod enc Tryd.prog w base spare held fuel t [.slice a len cap] = some x) : len ≤ Rows.uptoBulk x.1 := by
  rcases open_slice ht h with ⟨hcs, _⟩ | ⟨y, l, c, m, n, D, Pl, hcs, _, hl, hm, hmm, hx, hi⟩
  · simp at hcs
    omega
  · simp at hcs
    obtain ⟨rfl, rfl, rfl⟩ := hcs
    rw [hx]
    have := length_le13 ((List.range len).map D)
    simp only [List.length_map, List.length_range] at this
    simp only [Rows.uptoBulk]
    omega
theorem md_bulk {u : Mv} {M : Md} {d : DataW H} {p : List MemPlace} (h : DataW.Trod enc Tryd.prog w base spare held 27 (u.val M) d p) : u.ll ≤ Rows.uptoBulk d ∧ u.sl ≤ Rows.uptoBulk d := by
  obtain ⟨fuel, hf⟩ := h
  obtain ⟨xs, n, _, hx, hlen, hxl, hg⟩ := DataW.trod_struct Tryd.underlying27 hf
  match xs, hxl with
  | [y0, y1, y2, y3, y4, y5], _ =>
    have g1 := hg 1 _ rfl
    have g2 := hg 2 _ rfl
    simp [cellsSk, cellsSs, Mv.val, Mv.cells, Value.cells] at g1 g2
    have b1 := slice_bulk13 Tryd.underlying23 g1
    have b2 := slice_bulk13 Tryd.underlying24 g2
    simp only [Prod.mk.injEq] at hx
    rw [hx.1]
    simp only [List.map_cons, List.map_nil, Rows.uptoBulk, Rows.uptoBulkAll]
    omega
end
end Go.Proofs.YtofkfajcibdneaaDoor
