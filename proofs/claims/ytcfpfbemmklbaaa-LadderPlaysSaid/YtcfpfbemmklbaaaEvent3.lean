
/-
  The contracts of the functions of package event over messages, and of the document's own answers for them, each at every message.
-/
import Derived.Test.YtcfpfbemmklbaaaEvent2
namespace Go.Proofs.Ytcfpfbemmklbaaa
open Go.ChangeShapes Go.WideShapes Go.ChangeAt Go.RowKit Go.Sort

theorem ret_bool {a b : Bool} (h : a = b) : Ending.returned (.bool a) = .returned (.bool b) := by rw [h]
theorem mixed : Try.prog.follows .mixedOrders = true := by kernel_rfl

def M.cells (m : M) : Array Value := #[.int .i64 m.k.t, .int .i64 m.k.f, .int .i64 m.k.s, .int .i64 m.to, .int .i64 m.v, .int .i64 m.u, .bool m.anti]
/-- Where a message lies. -/
def MsgAt (w : World) (b o : Nat) (m : M) : Prop :=
  b < w.heap.size ∧ w.cell? ⟨b, o, none⟩ = some (.int .i64 m.k.t) ∧ w.cell? ⟨b, o + 1, none⟩ = some (.int .i64 m.k.f) ∧ w.cell? ⟨b, o + 2, none⟩ = some (.int .i64 m.k.s) ∧ w.cell? ⟨b, o + 3, none⟩ = some (.int .i64 m.to) ∧
    w.cell? ⟨b, o + 4, none⟩ = some (.int .i64 m.v) ∧ w.cell? ⟨b, o + 5, none⟩ = some (.int .i64 m.u) ∧ w.cell? ⟨b, o + 6, none⟩ = some (.bool m.anti)
theorem Read.cell {w w' : World} {a : Addr} {v : Value} (h : Read w w') (hb : a.block < w.heap.size) (hc : w.cell? a = some v) : w'.cell? a = some v := by
  obtain ⟨q, os, rfl⟩ := h
  exact cell_grown hb hc q os
theorem Read.size {w w' : World} (h : Read w w') : w.heap.size ≤ w'.heap.size := by
  obtain ⟨q, os, rfl⟩ := h
  rw [size_grow]
  exact Nat.le_add_right _ _
theorem MsgAt.read {w w' : World} {b o : Nat} {m : M} (h : MsgAt w b o m) (hr : Read w w') : MsgAt w' b o m := by
  obtain ⟨hb, h0, h1, h2, h3, h4, h5, h6⟩ := h
  exact ⟨Nat.lt_of_lt_of_le hb hr.size, hr.cell hb h0, hr.cell hb h1, hr.cell hb h2, hr.cell hb h3, hr.cell hb h4, hr.cell hb h5, hr.cell hb h6⟩
theorem MsgAt.mk (w : World) (m : M) : MsgAt (w.alloc (.cells m.cells 34)) w.heap.size 0 m := by
  refine ⟨by simp, ?_, ?_, ?_, ?_, ?_, ?_, ?_⟩ <;> simp [M.cells]
theorem MsgAt.two (w : World) (m m' : M) : MsgAt ((w.alloc (.cells m.cells 34)).alloc (.cells m'.cells 34)) w.heap.size 0 m ∧ MsgAt ((w.alloc (.cells m.cells 34)).alloc (.cells m'.cells 34)) (w.heap.size + 1) 0 m' :=
  ⟨(MsgAt.mk w m).read (Read.mk _ _), by have := MsgAt.mk (w.alloc (.cells m.cells 34)) m'; simpa using this⟩
theorem Read.two (w : World) (o o' : Obj) : Read w ((w.alloc o).alloc o') := Read.alloc _ (Read.mk _ _)

theorem Calls.read_of {P : Program} {f : FuncId} {args : Array Value} {w : World} {n : Nat} {os : Array Obj} {v : Value}
    (h : Calls P f args (grow (w.drewN n) os) fun e w' => e = .returned v ∧ Read (grow (w.drewN n) os) w') : Calls P f args (grow (w.drewN n) os) fun e w'' => e = .returned v ∧ ∃ p : GrownBy, w'' = grow (w.drewN p.n) p.os :=
  Calls.grown_of h

theorem rBefore_any (a b : M) (w : World) : Calls Try.prog 51 #[a.val, b.val] w fun e w' => e = .returned (.bool (ltM a b)) ∧ Read w w' := by
  have hcon := fun w => rCompare_any a.k b.k w
  obtain ⟨hl, hr⟩ := MsgAt.two w a b
  have hz : Hid (ltM a b = (decide (cmpK a.k b.k < 0) || (decide (cmpK a.k b.k = 0) && decide (a.u < b.u)))) := by
    show ltM a b = _
    simp only [ltM]
    congr 1
  generalize ltM a b = z at hz ⊢
  by_cases h : cmpK a.k b.k < 0
  · obtain rfl : z = true := by rw [hz.out]; simp [h]
    clear hz
    generalize cmpK a.k b.k = r at hcon h ⊢
    obtain ⟨⟨t, f, s⟩, to, v, u, an⟩ := a
    obtain ⟨⟨t', f', s'⟩, to', v', u', an'⟩ := b
    simp only [K.val, M.val] at hcon ⊢
    go_enter Try.func51, Try.ntmps51
    go_wp2_with (go_at_call 59; refine (hcon _).mono ?_; rintro e w' ⟨rfl, hr⟩)
    go_ret
    exact ⟨rfl, (Read.two _ _ _).trans hr⟩
  · by_cases h' : cmpK a.k b.k = 0
    · obtain rfl : z = decide (a.u < b.u) := by rw [hz.out]; simp [h']
      clear hz h
      rw [h'] at hcon
      clear h'
      obtain ⟨⟨t, f, s⟩, to, v, u, an⟩ := a
      obtain ⟨⟨t', f', s'⟩, to', v', u', an'⟩ := b
      simp only [K.val, M.val] at hcon ⊢
      go_enter Try.func51, Try.ntmps51
      go_wp2_with (go_at_call 59; refine (hcon _).mono ?_; rintro e w' ⟨rfl, hrd⟩; obtain ⟨_, _, _, _, _, _, x5, _⟩ := hl.read hrd; obtain ⟨_, _, _, _, _, _, y5, _⟩ := hr.read hrd)
      go_ret
      exact ⟨rfl, (Read.two _ _ _).trans hrd⟩
    · obtain rfl : z = false := by rw [hz.out]; simp [h, h']
      clear hz
      generalize cmpK a.k b.k = r at hcon h h' ⊢
      obtain ⟨⟨t, f, s⟩, to, v, u, an⟩ := a
      obtain ⟨⟨t', f', s'⟩, to', v', u', an'⟩ := b
      simp only [K.val, M.val] at hcon ⊢
      go_enter Try.func51, Try.ntmps51
      go_wp2_with (go_at_call 59; refine (hcon _).mono ?_; rintro e w' ⟨rfl, hrd⟩)
      go_ret
      exact ⟨ret_bool (by simpa using h), (Read.two _ _ _).trans hrd⟩

end Go.Proofs.Ytcfpfbemmklbaaa
