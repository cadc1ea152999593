
/-
  The contracts of the functions of package event over messages, and of the document's own answers for them, each at every message.
-/
import Derived.Test.YtobfjfmaicmkdaaEvent2
namespace Go.Proofs.Ytobfjfmaicmkdaa
open Go.ChangeShapes Go.WideShapes Go.ChangeAt Go.RowKit Go.Sort

theorem ret_bool {a b : Bool} (h : a = b) : Ending.returned (.bool a) = .returned (.bool b) := by rw [h]
theorem mixed : Try.prog.follows .mixedOrders = true := by kernel_rfl

def M.cells (m : M) : Array Value := #[.int .i64 m.k.t, .int .i64 m.k.f, .int .i64 m.k.s, .int .i64 m.to, .int .i64 m.v, .int .i64 m.u, .bool m.anti]
/-- Where a message lies. -/
def MsgAt (w : World) (b o : Nat) (m : M) : Prop :=
  b < w.heap.size ∧ w.cell? ⟨b, o, none⟩ = some (.int .i64 m.k.t) ∧ w.cell? ⟨b, o + 1, none⟩ = some (.int .i64 m.k.f) ∧ w.cell? ⟨b, o + 2, none⟩ = some (.int .i64 m.k.s) ∧ w.cell? ⟨b, o + 3, none⟩ = some (.int .i64 m.to) ∧
    w.cell? ⟨b, o + 4, none⟩ = some (.int .i64 m.v) ∧ w.cell? ⟨b, o + 5, none⟩ = some (.int .i64 m.u) ∧ w.cell? ⟨b, o + 6, none⟩ = some (.bool m.anti)
theorem Read.cell {w w' : World} {a : Addr} {v : Value} (h : Read w w') (hb : a.block < w.heap.size) (hc : w.cell? a = some v) : w'.cell? a = some v := by
  obtain ⟨q, os, rfl⟩ := h
  exact cell_grown hb hc q os
theorem Read.size {w w' : World} (h : Read w w') : w.heap.size ≤ w'.heap.size := by
  obtain ⟨q, os, rfl⟩ := h
  rw [size_grow]
  exact Nat.le_add_right _ _
theorem MsgAt.read {w w' : World} {b o : Nat} {m : M} (h : MsgAt w b o m) (hr : Read w w') : MsgAt w' b o m := by
  obtain ⟨hb, h0, h1, h2, h3, h4, h5, h6⟩ := h
  exact ⟨Nat.lt_of_lt_of_le hb hr.size, hr.cell hb h0, hr.cell hb h1, hr.cell hb h2, hr.cell hb h3, hr.cell hb h4, hr.cell hb h5, hr.cell hb h6⟩
theorem Read.two (w : World) (o o' : Obj) : Read w ((w.alloc o).alloc o') := Read.alloc _ (Read.mk _ _)

theorem Calls.read_of {P : Program} {f : FuncId} {args : Array Value} {w : World} {n : Nat} {os : Array Obj} {v : Value}
    (h : Calls P f args (grow (w.drewN n) os) fun e w' => e = .returned v ∧ Read (grow (w.drewN n) os) w') : Calls P f args (grow (w.drewN n) os) fun e w'' => e = .returned v ∧ ∃ p : GrownBy, w'' = grow (w.drewN p.n) p.os :=
  Calls.grown_of h

end Go.Proofs.Ytobfjfmaicmkdaa
