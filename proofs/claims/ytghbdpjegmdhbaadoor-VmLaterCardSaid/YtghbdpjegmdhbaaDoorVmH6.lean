/-
  The map of the instructions; which of them a number names, and what it does.
-/
import Derived.Test.YtghbdpjegmdhbaaDoorVmH5
import Derived.Test.YtghbdpjegmdhbaaDoorVmQ
import Derived.MapKept
import Derived.Carry
namespace Go.Proofs.YtghbdpjegmdhbaaDoor
open Go.ChangeShapes Go.WideShapes Go.ChangeAt Go.RowKit Go.Sort Go.MapKept
set_option linter.unusedVariables false
set_option maxRecDepth 4000

/-- A map that the call fills: at block r, these entries. -/
structure MapAt (w0 : World) (r : Nat) (w : World) (es : Array MapEntry) (n : Nat) : Prop where
  at_ : w.heap[r]? = some (.map es n)
  below : Below w0.heap.size w0 w
  new : w0.heap.size ≤ r
theorem wpList_insert_new {P : Program} (w : World) {ops : Array Oper} {rest : List Oper} {o : Oper} {a : Act} {Q : Exit → Act → World → Prop}
    (hg : o.guard = none) (m x y : Operand) (t : TypeId) (hop : o.op = Op.insert t m x y)
    (k e : TypeId) (ht : P.underlying t = some (.map k e)) (hk : P.underlying k = some (.int .i64)) (w0 : World) (r n : Nat) (es : Array MapEntry) (c : Int) (v : Value)
    (hm : a.eval m = .map (some r)) (hx : a.eval x = .int .i64 c) (hv : a.eval y = v) (hM : MapAt w0 r w es n) (hf : Instr.findNow (.int .i64) (.int .i64 c) es.toList 0 = some none)
    (hK : ∀ w', MapAt w0 r w' (es.push { key := .int .i64 c, val := v, born := n }) (n + 1) → wpList P ops Q rest (a.put o.dst undef) w') :
    wpList P ops Q (o :: rest) a w := by
  refine wpList_plain hg fun K' hK' => ?_
  obtain ⟨hb, hB, hn⟩ := hM
  have hc : (Instr.checkKey false 10000 k (.int .i64 c)).run P w = .ok () w := run_checkKey (k := .int .i64 c) hk (by simp [IsKey]) false 9999
  have hrun : (Instr.mapUpdate t (.map (some r)) (.int .i64 c) v).run P w = .ok () { w with heap := w.heap.setIfInBounds r (.map (es.push { key := .int .i64 c, val := v, born := n }) (n + 1)) } := by
    simp [Instr.mapUpdate, run_underlying ht, Go.MapKept.run_getObj_map hb, hc, run_findKey hk hf, Go.MapKept.run_setObj_map _ hb, Result.andThen]
  unfold Oper.wp
  simp [execOp, hop, hm, hx, hv, hrun, Result.andThen]
  refine hK' _ _ (hK _ ⟨(heap_set hb).1, hB.trans ⟨rfl, rfl, rfl, by simp, fun k hk => (heap_set hb).2 k (by omega)⟩, hn⟩)
def insV (f : FuncId) : Value := .func (.func f) #[] #[]
def insEnt : Array MapEntry := #[⟨.int .i64 0, insV 48, 0⟩, ⟨.int .i64 1, insV 49, 1⟩, ⟨.int .i64 2, insV 50, 2⟩, ⟨.int .i64 3, insV 51, 3⟩, ⟨.int .i64 4, insV 52, 4⟩, ⟨.int .i64 5, insV 53, 5⟩, ⟨.int .i64 6, insV 54, 6⟩, ⟨.int .i64 7, insV 55, 7⟩, ⟨.int .i64 8, insV 56, 8⟩, ⟨.int .i64 9, insV 57, 9⟩, ⟨.int .i64 10, insV 58, 10⟩, ⟨.int .i64 11, insV 59, 11⟩, ⟨.int .i64 12, insV 60, 12⟩, ⟨.int .i64 13, insV 61, 13⟩, ⟨.int .i64 14, insV 62, 14⟩, ⟨.int .i64 15, insV 63, 15⟩, ⟨.int .i64 16, insV 64, 16⟩]
theorem lookup_ins {w : World} {r i : Nat} {op : Int} {f : FuncId} (h : w.heap[r]? = some (.map insEnt 17)) (hf : Instr.findNow (.int .i64) (.int .i64 op) insEnt.toList 0 = some (some (i, insV f))) :
    (Instr.lookup 89 (.map (some r)) (.int .i64 op) false).run Tryd.prog w = .ok (.func (.func f) #[] #[]) w := by
  have hc : (Instr.checkKey insEnt.isEmpty 10000 3 (.int .i64 op)).run Tryd.prog w = .ok () w := run_checkKey (k := .int .i64 op) Tryd.underlying3 (by simp [IsKey]) _ 9999
  simp [Instr.lookup, run_underlying Tryd.underlying89, Go.MapKept.run_getObj_map h, hc, run_findKey Tryd.underlying3 hf, Result.andThen, insV]
set_option maxRecDepth 100000 in
set_option maxHeartbeats 4000000 in
theorem instructions_any (w : World) :
    Calls Tryd.prog 36 #[] w fun e w' => e = .returned (.map (some w.heap.size)) ∧ Aside (w'.heap[w.heap.size]? = some (.map insEnt 17) ∧ Below w.heap.size w w') := by
  have hmm := @run_makeMap Tryd.prog
  have hM : MapAt w w.heap.size (w.alloc (.map #[] 0)) #[] 0 := ⟨heap_alloc_new w _, (Below.refl _ w).alloc (Nat.le_refl _) _, Nat.le_refl _⟩
  go_enter Tryd.func36, Tryd.ntmps36
  go_wp2_with (refine wpList_insert_new _ rfl _ _ _ _ rfl 3 92 Tryd.underlying89 Tryd.underlying3 _ _ _ _ _ _ rfl rfl rfl hM (by rfl) ?_; clear hM; intro w' hM)
  go_ret
  exact ⟨rfl, hM.at_, hM.below⟩
end Go.Proofs.YtghbdpjegmdhbaaDoor
