
/-
  Both sides in one world: a visit on either side; what a look at tally x and at the tokens finds.
-/
import Derived.Test.YtobfjfmaicmkdaaUQ
namespace Go.Proofs.Ytobfjfmaicmkdaa
open Go.ChangeShapes Go.WideShapes Go.ChangeAt Go.Shelf Go.RowKit Go.Lib Go.Sort Go.Deep Col
set_option linter.unusedVariables false
set_option maxRecDepth 4000

section
variable {w wr w' : World} {v u : Value} {kb kd N : Nat} {ts : Nat → Ta} {k : Tk} {Bo : Nat} {o : Oc}
theorem Mb.visit (h : Mb w v u kb kd N ts ts k k Bo o wr) (hN : N ≤ 16) (hx : k.at' < N) (hok : k.ok) (hsm : Ta.small (ts k.at')) : ∃ g off cap p g2 off2 cap2 q : Nat, v = .slice (some ⟨g, off, none⟩) N cap ∧ u = .slice (some ⟨g2, off2, none⟩) N cap2 ∧ N ≤ cap ∧ N ≤ cap2 ∧ ∀ w0, Below wr.heap.size wr w0 →
    Cl g off g2 off2 k.at' p q Bo o w0 ∧ w0.cell? ⟨kd, 1, none⟩ = some (.int .i64 k.at') ∧ (Calls Try.prog 18 #[.pointer (some ⟨kb, 0, none⟩)] w0 fun e w' => e = .returned (.int .i64 k.at') ∧ Below w0.heap.size w0 w') ∧
    Calls Try.prog 19 #[.pointer (some ⟨kb, 0, none⟩), .pointer (some ⟨p, 0, none⟩), .int .i64 o.t] w0 fun e w' => e = .returned (.tuple #[.int .i64 (k.vis (ts k.at') o.t).2.2.1, .bool (k.vis (ts k.at') o.t).2.2.2, .int .i64 0]) ∧ Hid (∀ w1, Below w'.heap.size w' w1 → Cl g off g2 off2 k.at' p q Bo o w1 ∧
      Calls Try.prog 20 #[.pointer (some ⟨kd, 0, none⟩), .pointer (some ⟨q, 0, none⟩), .int .i64 o.t] w1 fun e w'' => e = .returned (.tuple #[.int .i64 (k.vis (ts k.at') o.t).2.2.1, .bool (k.vis (ts k.at') o.t).2.2.2]) ∧
        Hid (Mx w v u kb kd N N (upd ts k.at' (k.vis (ts k.at') o.t).2.1) (upd ts k.at' (k.vis (ts k.at') o.t).2.1) (k.vis (ts k.at') o.t).1 (k.vis (ts k.at') o.t).1 w'')) := by
  obtain ⟨σ, pa, qa, h1, h2, h3, h4, h5, h6, h7⟩ := h
  obtain ⟨g, off, cap, e1, e2, e3, e4⟩ := h2.cell (by omega)
  obtain ⟨g2, off2, cap2, f1, f2, f3, f4⟩ := h3.cell (by omega)
  refine ⟨g, off, cap, pa k.at', g2, off2, cap2, qa k.at', e1, f1, e4, f4, fun w0 hb => ?_⟩
  have hT0 : Turns σ σ (fun _ => False) wr w0 := Turns.below _ hb
  have k1 := h1.step hT0 (fun e => e)
  have k2 := h2.step hT0 (fun e => e) (fun _ _ e => e)
  have k3 := h3.step hT0 (fun e => e) (fun _ _ e => e)
  have k4 := h4.step hT0 (fun e => e)
  have k5 := h5.step hT0 (fun e => e)
  have k6 := Mb.boxT h6 h7 hT0 (fun e => e)
  have cl0 := Mb.cl e1 f1 k2 k3 k6.1 hx
  obtain ⟨S, hS1, hS2⟩ := k2.tas k.at' hx
  obtain ⟨X, hX1, hX2⟩ := k4
  have hY := k5
  obtain ⟨Y, hY1, hY2⟩ := hY
  refine ⟨cl0, hY1.c1, coAt_any hX1, ?_⟩
  refine (coVisit_any hX1 hS1 (fun j e e2 => by have := hX2 j e; have := hS2 j e2; omega) hok hsm o.t).mono ?_
  rintro e w2 ⟨he, hq⟩
  obtain ⟨S', X', q1, q2, q3⟩ := hq.out
  obtain ⟨σ', hT, r1, r2⟩ := TkO.turns hX2 hS2 q1 q2 q3
  have m1 := k1.step hT (by omega)
  have m2 := k2.turn hx hT (by omega) (fun j hj hne e => by omega) r1
  have m3 := k3.step hT (by omega) (fun j hj e => by omega)
  have m5 := k5.step hT (by omega)
  have m6 := Mb.boxT k6.1 k6.2 hT (by omega)
  refine ⟨he, Lib.hid fun w1 hb1 => ?_⟩
  have hT1 : Turns σ' σ' (fun _ => False) w2 w1 := Turns.below _ hb1
  have n1 := m1.step hT1 (fun e => e)
  have n2 := m2.step hT1 (fun e => e) (fun _ _ e => e)
  have n3 := m3.step hT1 (fun e => e) (fun _ _ e => e)
  have n4 := r2.step hT1 (fun e => e)
  have n5 := m5.step hT1 (fun e => e)
  have n6 := Mb.boxT m6.1 m6.2 hT1 (fun e => e)
  refine ⟨Mb.cl e1 f1 n2 n3 n6.1 hx, ?_⟩
  obtain ⟨SE, d1, d2⟩ := n3.tas k.at' hx
  obtain ⟨Z, hZ1, hZ2⟩ := n5
  refine (rcVisit_any hZ1 d1 (fun j e e2 => by have := hZ2 j e; have := d2 j e2; omega) hok hsm o.t).mono ?_
  rintro e w4 ⟨he4, hq4⟩
  obtain ⟨S4, X4, q4, q5, q6⟩ := hq4.out
  obtain ⟨σ2, hT2, s1, s2⟩ := DTkO.turns hZ2 d2 q4 q5 q6
  exact ⟨he4, σ2, pa, qa, n1.step hT2 (by omega), n2.step hT2 (by omega) (fun j hj e => by omega), n3.turn hx hT2 (by omega) (fun j hj hne e => by omega) s1, n4.step hT2 (by omega), s2⟩
/-- What a look at tally x finds. -/
def Look (kb kd g off g2 off2 x p q gd : Nat) (c n0 n1 rd a : Int) (b : Bool) (w0 : World) : Prop :=
  (w0.cell? ⟨g, off + x, none⟩ = some (.pointer (some ⟨p, 0, none⟩)) ∧ w0.cell? ⟨g2, off2 + x, none⟩ = some (.pointer (some ⟨q, 0, none⟩))) ∧
  (w0.cell? ⟨q, 0, none⟩ = some (.int .i64 c) ∧ w0.cell? ⟨q, 1, none⟩ = some (.slice (some ⟨gd, 0, none⟩) 2 2) ∧ w0.cell? ⟨q, 2, none⟩ = some (.int .i64 rd) ∧ w0.cell? ⟨gd, 0, none⟩ = some (.int .i64 n0) ∧ w0.cell? ⟨gd, 1, none⟩ = some (.int .i64 n1)) ∧
  (w0.cell? ⟨kd, 1, none⟩ = some (.int .i64 a) ∧ w0.cell? ⟨kd, 2, none⟩ = some (.bool b)) ∧
  (Calls Try.prog 21 #[.pointer (some ⟨p, 0, none⟩)] w0 fun e w' => e = .returned (.int .i64 c) ∧ Below w0.heap.size w0 w') ∧
  ((Calls Try.prog 22 #[.pointer (some ⟨p, 0, none⟩), .int .i64 0] w0 fun e w' => e = .returned (.int .i64 n0) ∧ Below w0.heap.size w0 w') ∧
  (Calls Try.prog 22 #[.pointer (some ⟨p, 0, none⟩), .int .i64 1] w0 fun e w' => e = .returned (.int .i64 n1) ∧ Below w0.heap.size w0 w') ∧
  (Calls Try.prog 22 #[.pointer (some ⟨p, 0, none⟩), .int .i64 2] w0 fun e w' => e = .returned (.int .i64 0) ∧ Below w0.heap.size w0 w')) ∧
  (Calls Try.prog 23 #[.pointer (some ⟨p, 0, none⟩)] w0 fun e w' => e = .returned (.int .i64 rd) ∧ Below w0.heap.size w0 w') ∧
  (Calls Try.prog 18 #[.pointer (some ⟨kb, 0, none⟩)] w0 fun e w' => e = .returned (.int .i64 a) ∧ Below w0.heap.size w0 w') ∧
  (Calls Try.prog 24 #[.pointer (some ⟨kb, 0, none⟩)] w0 fun e w' => e = .returned (.bool b) ∧ Below w0.heap.size w0 w')
theorem Mx.looks (h : Mx w v u kb kd N N ts ts k k wr) (hN : N ≤ 16) {x : Nat} (hx : x < N) : ∃ g off cap p g2 off2 cap2 q gd : Nat, ∃ c n0 n1 rd a : Int, ∃ b : Bool, v = .slice (some ⟨g, off, none⟩) N cap ∧ u = .slice (some ⟨g2, off2, none⟩) N cap2 ∧ N ≤ cap ∧ N ≤ cap2 ∧
    (∀ j, j = g ∨ j = g2 ∨ j = q ∨ j = gd ∨ j = kd → j < wr.heap.size) ∧ ∀ w0, Below wr.heap.size wr w0 → Look kb kd g off g2 off2 x p q gd c n0 n1 rd a b w0 := by
  obtain ⟨σ, pa, qa, h1, h2, h3, h4, h5⟩ := h
  obtain ⟨g, off, cap, e1, e2, e3, e4⟩ := h2.cell (by omega)
  obtain ⟨g2, off2, cap2, f1, f2, f3, f4⟩ := h3.cell (by omega)
  obtain ⟨S, hS1, hS2⟩ := h2.tas x hx
  obtain ⟨X, hX1, hX2⟩ := h4
  obtain ⟨SD, ⟨gd, hD1⟩, hD2⟩ := h3.tas x hx
  obtain ⟨Y, hY1, hY2⟩ := h5
  refine ⟨g, off, cap, pa x, g2, off2, cap2, qa x, gd, colI (ts x).c, (ts x).n0, (ts x).n1, (ts x).red, (k.at' : Int), k.cnt, e1, f1, e4, f4, ?_, fun w0 hb => ?_⟩
  · rintro j (rfl | rfl | rfl | rfl | rfl)
    · exact e2
    · exact f2
    · exact hD1.lt _ hD1.own
    · exact hD1.lt _ hD1.owng
    · exact hY1.lt hY1.2.1
  · have d := hD1.below hb
    have y := hY1.below hb
    have t := hS1.below hb
    have q := hX1.below hb
    exact ⟨⟨(hb.cell (p := ⟨g, _, none⟩) e2).trans (e3 x hx), (hb.cell (p := ⟨g2, _, none⟩) f2).trans (f3 x hx)⟩, ⟨d.c, d.v, d.r, d.n0, d.n1⟩, ⟨y.c1, y.c2⟩, coColour_any t, ⟨coNet_any t 0, coNet_any t 1, coNet_any t 2⟩, coRed_any t, coAt_any q, coCounting_any q⟩
end
end Go.Proofs.Ytobfjfmaicmkdaa
