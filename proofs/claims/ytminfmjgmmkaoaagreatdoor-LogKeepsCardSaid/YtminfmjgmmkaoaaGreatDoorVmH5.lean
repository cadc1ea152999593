/-
  The number of a fault; the closure that a run defers, where the run panics and where it returns.
-/
import Derived.Test.YtminfmjgmmkaoaaGreatDoorVmH3
import Derived.Test.YtminfmjgmmkaoaaGreatDoorVmH4
import Derived.Recover
import Derived.Defers
namespace Go.Proofs.YtminfmjgmmkaoaaGreatDoor
open Go.ChangeShapes Go.WideShapes Go.ChangeAt Go.RowKit Go.Sort Go.Stop Go.Extern
set_option linter.unusedVariables false
set_option maxRecDepth 4000

theorem faultOf_any (k : Int) (w : World) (hg : ErrT w) :
    Calls Tryz.prog 82 #[.iface 167 (.agg #[.int .i64 k])] w fun e w' => e = .returned (.int .i64 k) ∧ Below w.heap.size w w' := by
  have hgA : ErrT (w.alloc (.cells #[.int .i64 0] 167)) := hg.below ((Below.refl _ w).alloc (Nat.le_refl _) _)
  have htA : (w.alloc (.cells #[.int .i64 0] 167)).cell? ⟨w.heap.size, 0, none⟩ = some (.int .i64 0) := by simp
  have hfA : (w.alloc (.cells #[.int .i64 0] 167)).frozen? ⟨w.heap.size, 0, none⟩ = false := by simp
  have hcall := as_fault ⟨w.heap.size, 0, none⟩ k (.int .i64 0) _ hgA htA hfA
  have hcon : Calls Tryz.prog 86 #[.iface 167 (.agg #[.int .i64 k]), .iface 169 (.pointer (some ⟨w.heap.size, 0, none⟩))] (w.alloc (.cells #[.int .i64 0] 167)) fun ev w' => ev = .returned (.bool true) ∧ Aside (w'.cell? ⟨w.heap.size, 0, none⟩ = some (.int .i64 k) ∧ Below w.heap.size w w') := by
    refine hcall.mono fun e w' ⟨he, hw⟩ => ⟨he, ?_⟩
    have hz := heap_alloc_new w (.cells #[.int .i64 0] 167)
    generalize hA : w.alloc (.cells #[.int .i64 0] 167) = A at hw hz
    have hsz : A.heap.size = w.heap.size + 1 := by rw [← hA]; simp
    have hbA : Below w.heap.size w A := by rw [← hA]; exact (Below.refl _ w).alloc (Nat.le_refl _) _
    have h1 : ∀ o1 o2 o3 o4, Below A.heap.size A ((((A.alloc o1).alloc o2).alloc o3).alloc o4) := fun o1 o2 o3 o4 => ((((Below.refl _ A).alloc (Nat.le_refl _) o1).alloc (by simp) o2).alloc (by simp; omega) o3).alloc (by simp; omega) o4
    rw [hw]
    refine ⟨?_, ?_⟩
    · exact hrow_cell (heap_put (j := 0) (u := .int .i64 k) (((h1 _ _ _ _).block w.heap.size (by omega)).trans hz)) 0 rfl
    · exact (hbA.trans ((h1 _ _ _ _).mono (by omega))).setCell (p := ⟨w.heap.size, 0, none⟩) (Nat.le_refl _) _
  clear hcall hgA htA hfA hg
  go_enter Tryz.func82, Tryz.ntmps82
  go_wp2_with fail
  refine hcon.mono ?_
  rintro e w1 ⟨rfl, hc, hb⟩
  clear hcon
  go_wp2
  go_ret
  exact ⟨rfl, hb⟩
theorem assertFault (v : Value) (xT : TypeId) (w : World) : (Instr.typeAssert (.iface 167 v) xT 88 true).run Tryz.prog w = .ok (.tuple #[.iface 167 v, .bool true]) w := run_typeAssert_hasB Tryz.underlying88 (by kernel_rfl) v xT w
theorem assertNil (xT : TypeId) (w : World) : (Instr.typeAssert .nilIface xT 88 true).run Tryz.prog w = .ok (.tuple #[.nilIface, .bool false]) w := by kernel_rfl
theorem catch_fault (p : Addr) (y k : Int) (older : List PanicEntry) (w : World) (hg : ErrT w) (hc : w.cell? p = some (.int .i64 y)) (hz : w.frozen? p = false) :
    CallsD Tryz.prog 81 #[.pointer (some p)] (.panicking ({ v := .iface 167 (.agg #[.int .i64 k]), recovered := false } :: older)) w fun e u' w' =>
      e = .returned (.tuple #[]) ∧ u' = .panicking ({ v := .iface 167 (.agg #[.int .i64 k]), recovered := true } :: older) ∧ ∃ w1, Below w.heap.size w w1 ∧ w' = w1.setCell p (.int .i64 k) := by
  have hcall := faultOf_any k w hg
  have hpb : p.block < w.heap.size := World.block_lt_of_cell? w p hc
  refine callsD_of_wpS Tryz.func81 rfl fun c₀ cs hu => ?_
  apply wpS_seq
  apply wpS_region
  simp [wpOpsS, go_sem, recoverD, hu, Tryz.ntmps81, Exit.thenS, assertFault]
  refine wpS_of_wp ?_
  generalize Value.iface 167 (.agg #[.int .i64 k]) = V at *
  have hfr : (#[.pointer (some p)] ++ (((((((Array.replicate 10 undef).setIfInBounds 3 V).setIfInBounds 4 (.tuple #[V, .bool true])).setIfInBounds 2 (.tuple #[V, .bool true])).setIfInBounds 5 V).setIfInBounds 6 (.bool true)).setIfInBounds 0 V).setIfInBounds 1 (.bool true) : Array Value) = #[.pointer (some p), V, .bool true, .tuple #[V, .bool true], V, .tuple #[V, .bool true], V, .bool true, undef, undef, undef] := by kernel_rfl
  rw [hfr]
  clear hfr
  go_wp2_with fail
  refine hcall.mono ?_
  rintro e w1 ⟨rfl, hb⟩
  have hc1 : w1.cell? p = some (.int .i64 y) := (hb.cell hpb).trans hc
  have hz1 : w1.frozen? p = false := (hb.frozen hpb).trans hz
  clear hcall hu hg hc hz
  go_wp2
  exact ⟨rfl, _, rfl, _, results_none rfl _ _ _, rfl, rfl, w1, hb, rfl⟩
theorem catch_idle (p : Addr) (w : World) :
    CallsD Tryz.prog 81 #[.pointer (some p)] .returning w fun e u' w' => e = .returned (.tuple #[]) ∧ u' = .returning ∧ w = w' := by
  refine callsD_of_wpS Tryz.func81 rfl fun c₀ cs hu => ?_
  apply wpS_seq
  apply wpS_region
  simp [wpOpsS, go_sem, recoverD, hu, Tryz.ntmps81, Exit.thenS, assertNil]
  refine wpS_of_wp ?_
  change Code.wp _ _ _ (Act.mk #[.pointer (some p), .nilIface, .bool false, .tuple #[.nilIface, .bool false], .nilIface, .tuple #[.nilIface, .bool false], .nilIface, .bool false, undef, undef, undef] []) _
  go_wp2
  cases c₀
  simp only at hu
  subst hu
  exact ⟨rfl, _, rfl, _, results_none rfl _ _ _, rfl, rfl, rfl⟩
end Go.Proofs.YtminfmjgmmkaoaaGreatDoor
