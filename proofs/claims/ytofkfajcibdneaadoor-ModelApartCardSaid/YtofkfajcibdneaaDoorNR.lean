/-
  The laws which models may be, and of the messages at the beginning.
-/
import Derived.Test.YtofkfajcibdneaaDoorNQ
namespace Go.Proofs.YtofkfajcibdneaaDoor
open Go.ChangeShapes Go.WideShapes Go.ChangeAt Go.Shelf Go.RowKit Go.Lib Go.Sort Go.Deep
set_option linter.unusedVariables false
set_option linter.unusedSimpArgs false
set_option maxRecDepth 4000

set_option maxHeartbeats 4000000 in
set_option maxRecDepth 100000 in
theorem lawModelChecks {w : World} {v : Mv} {M : Md} (h : Mds w v M) (hL : Laid13 w) : Calls Tryd.prog 3 #[v.val M] w fun e w' => e = .returned (.bool true) ∧ Below w.heap.size w w' := by
  have mixed := mixed
  have hb1 : Hid (Below w.heap.size w (w.alloc (.cells (v.cells M) 27))) := (Below.refl _ w).alloc (Nat.le_refl _) _
  have hbx := Lib.hid h.box
  have hL1 := Lib.hid (hL.below hb1.out)
  clear h hL
  simp only [Mv.val, Mv.cells] at hb1 hbx hL1 ⊢
  go_enter Tryd.func3, Tryd.ntmps3
  go_upto_region 1 with fail
  generalize w.heap.size = B at hbx ⊢
  generalize w.alloc (.cells #[.slice v.pa v.pl v.pc, .slice v.la v.ll v.lc, .slice v.sa v.sl v.sc, .int .u64 M.seed, .int .i64 M.last, .int .i64 M.bud] 27) = W at *
  have hW : ∀ z, MdBox (wide W z) B v M := fun z => hbx.out.below (wide_below W z)
  have hLW : ∀ z, Laid13 (wide W z) := fun z => hL1.out.below (wide_below W z)
  have d0 := fun z => (hW z).c0
  have d1 := fun z => (hW z).c1
  have d2 := fun z => (hW z).c2
  have d3 := fun z => (hW z).c3
  have d4 := fun z => (hW z).c4
  have d5 := fun z => (hW z).c5
  have k1 := fun z => mdCheck_any (hW z).2 (hLW z)
  have k2 := fun z => r13Check_any (hW z).2
  have k3 := fun z => awake_any13 (hLW z)
  simp only [Mv.val, Mv.cells] at k1 k2
  generalize checkM M = q at k1 k2
  clear hW hLW hL1 hbx
  refine wp_region_wide (by kernel_rfl) (by kernel_rfl) ?_
  repeat (first | go_big_quiet_step (with_reducible first | exact Calls.wide_of (k1 _) | exact Calls.wide_of (k2 _) | exact Calls.wide_of (k3 _)))
  refine wpQuiet_nil ?_
  refine wide_all fun W2 hb2 => ?_
  have hb3 := Lib.hid (hb1.out.trans (hb2.mono hb1.out.size))
  clear d0 d1 d2 d3 d4 d5 k1 k2 k3 hb2 hb1
  go_wp2
  go_ret
  exact ⟨rfl, hb3.out⟩
end Go.Proofs.YtofkfajcibdneaaDoor
