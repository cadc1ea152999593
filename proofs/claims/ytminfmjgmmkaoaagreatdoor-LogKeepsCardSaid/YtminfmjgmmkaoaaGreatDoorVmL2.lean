/-
  What the laws of package vm share, further on: states compared, sendings compared; three boxes. And the law on runs.
-/
import Derived.Test.YtminfmjgmmkaoaaGreatDoorVmE
import Derived.LoopTactic
import Derived.ChangeKeysEq
namespace Go.Proofs.YtminfmjgmmkaoaaGreatDoor
open Go.ChangeShapes Go.WideShapes Go.ChangeAt Go.RowKit Go.Sort
set_option linter.unusedVariables false
set_option maxRecDepth 4000

/-- A state is as itself. -/
theorem eqlS_refl (x0 x1 x2 x3 x4 x5 x6 x7 x8 x9 : Int) (w : World) : Sem.run Tryz.prog (binOp .eql 34 (.agg #[.int .i64 x0, .int .i64 x1, .int .i64 x2, .int .i64 x3, .int .i64 x4, .int .i64 x5, .int .i64 x6, .int .i64 x7, .int .i64 x8, .int .i64 x9]) (.agg #[.int .i64 x0, .int .i64 x1, .int .i64 x2, .int .i64 x3, .int .i64 x4, .int .i64 x5, .int .i64 x6, .int .i64 x7, .int .i64 x8, .int .i64 x9])) w = .ok (.bool true) w := by
  have u2 := Tryz.underlying2
  have u3 := Tryz.underlying3
  have a2 := Tryz.isAgg2
  have z2 := Tryz.sizeOf2
  have a3 := Tryz.isAgg3
  have z3 := Tryz.sizeOf3
  have aR := Tryz.isAgg32
  have zR := Tryz.sizeOf32
  have hS : Tryz.prog.underlying 34 = some (.struct (Tryz.prog.fieldsOf 34)) := by kernel_rfl
  have hp : Tryz.prog.stoodInHeld 34 = false := by kernel_rfl
  have hc : Tryz.prog.cellsOf 2 = 1 := by kernel_rfl
  have hA : ∀ (d : Nat) (w : World), Sem.run Tryz.prog (Op.equalIn (d + 2) 32 (.agg #[.int .i64 x0, .int .i64 x1, .int .i64 x2, .int .i64 x3, .int .i64 x4, .int .i64 x5, .int .i64 x6, .int .i64 x7]) (.agg #[.int .i64 x0, .int .i64 x1, .int .i64 x2, .int .i64 x3, .int .i64 x4, .int .i64 x5, .int .i64 x6, .int .i64 x7])) w = .ok true w := by
    intro d w
    obtain ⟨i, hi⟩ := info_of_underlying u2
    rw [run_equalIn_array w (d + 1) _ _ Tryz.underlying32 hi, hc, show List.range 8 = [0, 1, 2, 3, 4, 5, 6, 7] from rfl]
    go_simp
    simp [Op.eqItems]
    try go_simp
  rw [run_eql_struct, run_equalIn_agg w 9999 34 _ _ hS hp]
  simp only [Program.fieldsOf, Tryz.underlying34]
  go_simp
/-- Three blocks, as a law's boxes lie. -/
structure Tri (w w1 : World) (A S M : Obj) : Prop where
  a : w1.heap[w.heap.size]? = some A
  s : w1.heap[w.heap.size + 1]? = some S
  m : w1.heap[w.heap.size + 1 + 1]? = some M
  b : Below w.heap.size w w1
  sz : w.heap.size + 3 ≤ w1.heap.size
theorem Tri.mk3 (w : World) (A S M : Obj) : Tri w (((w.alloc A).alloc S).alloc M) A S M := by
  refine ⟨?_, ?_, ?_, (((Below.refl _ w).alloc (Nat.le_refl _) A).alloc (by simp) S).alloc (by simp; omega) M, by simp⟩
  · rw [Below.heap_alloc _ _ _ (by simp; omega), Below.heap_alloc _ _ _ (by simp)]; exact heap_alloc_new w A
  · rw [Below.heap_alloc _ _ _ (by simp)]; have := heap_alloc_new (w.alloc A) S; rwa [World.size_alloc] at this
  · have := heap_alloc_new ((w.alloc A).alloc S) M; rwa [World.size_alloc, World.size_alloc] at this
theorem Tri.below {w w1 w2 : World} {A S M : Obj} (h : Tri w w1 A S M) (hb : Below (w.heap.size + 3) w1 w2) : Tri w w2 A S M :=
  ⟨(hb.block _ (by omega)).trans h.a, (hb.block _ (by omega)).trans h.s, (hb.block _ (by omega)).trans h.m, h.b.trans (hb.mono (by omega)), Nat.le_trans h.sz hb.size⟩
end Go.Proofs.YtminfmjgmmkaoaaGreatDoor
