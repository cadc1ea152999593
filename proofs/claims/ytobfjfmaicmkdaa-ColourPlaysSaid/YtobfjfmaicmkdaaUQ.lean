
/-
  Both sides and the call's box; a call of a tally on both sides, in either order.
-/
import Derived.Test.YtobfjfmaicmkdaaUN
namespace Go.Proofs.Ytobfjfmaicmkdaa
open Go.ChangeShapes Go.WideShapes Go.ChangeAt Go.Shelf Go.RowKit Go.Lib Go.Sort Go.Deep Col
set_option linter.unusedVariables false
set_option maxRecDepth 4000

/-- What stands in a round of the law of plays: the box is owner 0's. -/
def Mb (w : World) (v u : Value) (kb kd N : Nat) (ts ts2 : Nat → Ta) (k k2 : Tk) (Bo : Nat) (o : Oc) (wr : World) : Prop := ∃ σ pa qa, Wld w σ wr ∧ Tls σ wr v N pa ts ∧ DTls σ wr u N qa ts2 ∧ TkO σ wr 2 kb k ∧ DTkO σ wr 4 kd k2 ∧ BoxO wr Bo o ∧ σ Bo = 0
/-- The cells that a call of tally x reads. -/
def Cl (g off g2 off2 x p q Bo : Nat) (o : Oc) (w' : World) : Prop := w'.cell? ⟨g, off + x, none⟩ = some (.pointer (some ⟨p, 0, none⟩)) ∧ w'.cell? ⟨g2, off2 + x, none⟩ = some (.pointer (some ⟨q, 0, none⟩)) ∧ BoxO w' Bo o
section
variable {w wr w' : World} {v u : Value} {kb kd N : Nat} {ts ts2 : Nat → Ta} {k k2 : Tk} {Bo : Nat} {o : Oc}
theorem Mb.boxT {σ σ' : Nat → Nat} {D : Nat → Prop} (h : BoxO wr Bo o) (h0 : σ Bo = 0) (hT : Turns σ σ' D wr w') (hd : ¬ D 0) : BoxO w' Bo o ∧ σ' Bo = 0 :=
  ⟨h.kept hT.kept (fun e => hd (by rw [← h0]; exact e)), (hT.ext Bo (Array.getElem?_eq_some_iff.1 h).1).trans h0⟩
theorem Mb.cl {σ : Nat → Nat} {pa qa : Nat → Nat} {g off cap g2 off2 cap2 x : Nat} (e1 : v = .slice (some ⟨g, off, none⟩) N cap) (f1 : u = .slice (some ⟨g2, off2, none⟩) N cap2) (h2 : Tls σ w' v N pa ts) (h3 : DTls σ w' u N qa ts2) (h6 : BoxO w' Bo o) (hx : x < N) : Cl g off g2 off2 x (pa x) (qa x) Bo o w' := by
  subst e1 f1
  obtain ⟨a1, a2, a3, a4, a5, a6, _⟩ := h2.cell (by omega)
  obtain ⟨b1, b2, b3, b4, b5, b6, _⟩ := h3.cell (by omega)
  simp only [Value.slice.injEq, Option.some.injEq, Addr.mk.injEq, and_true, true_and] at a4 b4
  obtain ⟨⟨rfl, rfl⟩, rfl⟩ := a4
  obtain ⟨⟨rfl, rfl⟩, rfl⟩ := b4
  exact ⟨a6 x hx, b6 x hx, h6⟩
theorem Mx.box (h : Mx w v u kb kd N N ts ts2 k k2 wr) (o : Oc) : Mb w v u kb kd N ts ts2 k k2 wr.heap.size o (wr.alloc (.cells #[.int .i64 o.what, .int .i64 o.a, .int .i64 o.n, .int .i64 o.t] 38)) := by
  obtain ⟨σ, pa, qa, h1, h2, h3, h4, h5⟩ := h
  have hb := (Below.refl _ wr).alloc (Nat.le_refl _) (.cells #[.int .i64 o.what, .int .i64 o.a, .int .i64 o.n, .int .i64 o.t] 38)
  have hT : Turns σ (fun j => if j < wr.heap.size then σ j else 0) (fun _ => False) wr (wr.alloc (.cells #[.int .i64 o.what, .int .i64 o.a, .int .i64 o.n, .int .i64 o.t] 38)) := ⟨.of_below hb, fun j hj => if_pos hj⟩
  exact ⟨_, pa, qa, h1.step hT (fun e => e), h2.step hT (fun e => e) (fun _ _ e => e), h3.step hT (fun e => e) (fun _ _ e => e), h4.step hT (fun e => e), h5.step hT (fun e => e), heap_alloc_new wr _, if_neg (by omega)⟩
theorem Mb.mx (h : Mb w v u kb kd N ts ts2 k k2 Bo o wr) : Mx w v u kb kd N N ts ts2 k k2 wr := by
  obtain ⟨σ, pa, qa, h1, h2, h3, h4, h5, _⟩ := h
  exact ⟨σ, pa, qa, h1, h2, h3, h4, h5⟩
theorem Mb.twoP (h : Mb w v u kb kd N ts ts2 k k2 Bo o wr) (hN : N ≤ 16) {x : Nat} (hx : x < N) : ∃ g off cap p g2 off2 cap2 q : Nat, v = .slice (some ⟨g, off, none⟩) N cap ∧ u = .slice (some ⟨g2, off2, none⟩) N cap2 ∧ N ≤ cap ∧ N ≤ cap2 ∧ ∀ w0, Below wr.heap.size wr w0 → Cl g off g2 off2 x p q Bo o w0 ∧
    ∀ (fP fD : FuncId) (aP aD : Array Value) (eP eD : Ending) (tP tD : Ta), (∀ S wA, TaAt wA p S (ts x) → Calls Try.prog fP aP wA fun e w' => e = eP ∧ Hid (∃ S', TaAt w' p S' tP ∧ CStep wA w' S S')) → (∀ S wA, DTaAt wA q S (ts2 x) → Calls Try.prog fD aD wA fun e w' => e = eD ∧ Hid (∃ S', DTaAt w' q S' tD ∧ CStep wA w' S S')) →
      Calls Try.prog fP aP w0 fun e w' => e = eP ∧ Hid (Cl g off g2 off2 x p q Bo o w') ∧ Hid (Calls Try.prog fD aD w' fun e w'' => e = eD ∧ Hid (Cl g off g2 off2 x p q Bo o w'') ∧ Hid (Mb w v u kb kd N (upd ts x tP) (upd ts2 x tD) k k2 Bo o w'')) := by
  obtain ⟨σ, pa, qa, h1, h2, h3, h4, h5, h6, h7⟩ := h
  obtain ⟨g, off, cap, e1, e2, e3, e4⟩ := h2.cell (by omega)
  obtain ⟨g2, off2, cap2, f1, f2, f3, f4⟩ := h3.cell (by omega)
  refine ⟨g, off, cap, pa x, g2, off2, cap2, qa x, e1, f1, e4, f4, fun w0 hb => ?_⟩
  have hT0 : Turns σ σ (fun _ => False) wr w0 := Turns.below _ hb
  have k1 := h1.step hT0 (fun e => e)
  have k2 := h2.step hT0 (fun e => e) (fun _ _ e => e)
  have k3 := h3.step hT0 (fun e => e) (fun _ _ e => e)
  have k4 := h4.step hT0 (fun e => e)
  have k5 := h5.step hT0 (fun e => e)
  have k6 := Mb.boxT h6 h7 hT0 (fun e => e)
  have cl0 := Mb.cl e1 f1 k2 k3 k6.1 hx
  refine ⟨cl0, fun fP fD aP aD eP eD tP tD cP cD => ?_⟩
  obtain ⟨SP, p1, p2⟩ := k2.tas x hx
  obtain ⟨SD, d1, d2⟩ := k3.tas x hx
  refine (cP SP w0 p1).mono ?_
  rintro e w3 ⟨he, hq⟩
  obtain ⟨S', q1, q2⟩ := hq.out
  obtain ⟨σ', hT, r1⟩ := TaO.turns p1 p2 q1 q2
  have m1 := k1.step hT (by omega)
  have m2 := k2.turn hx hT (by omega) (fun j hj hne e => by omega) r1
  have m3 := k3.step hT (by omega) (fun j hj e => by omega)
  have m4 := k4.step hT (by omega)
  have m5 := k5.step hT (by omega)
  have m6 := Mb.boxT k6.1 k6.2 hT (by omega)
  refine ⟨he, Mb.cl e1 f1 m2 m3 m6.1 hx, Lib.hid ?_⟩
  obtain ⟨SE, d3, d4⟩ := m3.tas x hx
  refine (cD SE w3 d3).mono ?_
  rintro e w4 ⟨he4, hq4⟩
  obtain ⟨S4, q3, q4⟩ := hq4.out
  obtain ⟨σ2, hT2, r2⟩ := DTaO.turns d3 d4 q3 q4
  have n2 := m2.step hT2 (by omega) (fun j hj e => by omega)
  have n3 := m3.turn hx hT2 (by omega) (fun j hj hne e => by omega) r2
  have n6 := Mb.boxT m6.1 m6.2 hT2 (by omega)
  exact ⟨he4, Mb.cl e1 f1 n2 n3 n6.1 hx, σ2, pa, qa, m1.step hT2 (by omega), n2, n3, m4.step hT2 (by omega), m5.step hT2 (by omega), n6.1, n6.2⟩
theorem Mb.twoD (h : Mb w v u kb kd N ts ts2 k k2 Bo o wr) (hN : N ≤ 16) {x : Nat} (hx : x < N) : ∃ g off cap p g2 off2 cap2 q : Nat, v = .slice (some ⟨g, off, none⟩) N cap ∧ u = .slice (some ⟨g2, off2, none⟩) N cap2 ∧ N ≤ cap ∧ N ≤ cap2 ∧ ∀ w0, Below wr.heap.size wr w0 → Cl g off g2 off2 x p q Bo o w0 ∧
    ∀ (fP fD : FuncId) (aP aD : Array Value) (eP eD : Ending) (tP tD : Ta), (∀ S wA, TaAt wA p S (ts x) → Calls Try.prog fP aP wA fun e w' => e = eP ∧ Hid (∃ S', TaAt w' p S' tP ∧ CStep wA w' S S')) → (∀ S wA, DTaAt wA q S (ts2 x) → Calls Try.prog fD aD wA fun e w' => e = eD ∧ Hid (∃ S', DTaAt w' q S' tD ∧ CStep wA w' S S')) →
      Calls Try.prog fD aD w0 fun e w' => e = eD ∧ Hid (Cl g off g2 off2 x p q Bo o w') ∧ Hid (Calls Try.prog fP aP w' fun e w'' => e = eP ∧ Hid (Cl g off g2 off2 x p q Bo o w'') ∧ Hid (Mb w v u kb kd N (upd ts x tP) (upd ts2 x tD) k k2 Bo o w'')) := by
  obtain ⟨σ, pa, qa, h1, h2, h3, h4, h5, h6, h7⟩ := h
  obtain ⟨g, off, cap, e1, e2, e3, e4⟩ := h2.cell (by omega)
  obtain ⟨g2, off2, cap2, f1, f2, f3, f4⟩ := h3.cell (by omega)
  refine ⟨g, off, cap, pa x, g2, off2, cap2, qa x, e1, f1, e4, f4, fun w0 hb => ?_⟩
  have hT0 : Turns σ σ (fun _ => False) wr w0 := Turns.below _ hb
  have k1 := h1.step hT0 (fun e => e)
  have k2 := h2.step hT0 (fun e => e) (fun _ _ e => e)
  have k3 := h3.step hT0 (fun e => e) (fun _ _ e => e)
  have k4 := h4.step hT0 (fun e => e)
  have k5 := h5.step hT0 (fun e => e)
  have k6 := Mb.boxT h6 h7 hT0 (fun e => e)
  have cl0 := Mb.cl e1 f1 k2 k3 k6.1 hx
  refine ⟨cl0, fun fP fD aP aD eP eD tP tD cP cD => ?_⟩
  obtain ⟨SP, p1, p2⟩ := k2.tas x hx
  obtain ⟨SD, d1, d2⟩ := k3.tas x hx
  refine (cD SD w0 d1).mono ?_
  rintro e w3 ⟨he, hq⟩
  obtain ⟨S', q1, q2⟩ := hq.out
  obtain ⟨σ', hT, r1⟩ := DTaO.turns d1 d2 q1 q2
  have m1 := k1.step hT (by omega)
  have m2 := k2.step hT (by omega) (fun j hj e => by omega)
  have m3 := k3.turn hx hT (by omega) (fun j hj hne e => by omega) r1
  have m4 := k4.step hT (by omega)
  have m5 := k5.step hT (by omega)
  have m6 := Mb.boxT k6.1 k6.2 hT (by omega)
  refine ⟨he, Mb.cl e1 f1 m2 m3 m6.1 hx, Lib.hid ?_⟩
  obtain ⟨SE, p3, p4⟩ := m2.tas x hx
  refine (cP SE w3 p3).mono ?_
  rintro e w4 ⟨he4, hq4⟩
  obtain ⟨S4, q3, q4⟩ := hq4.out
  obtain ⟨σ2, hT2, r2⟩ := TaO.turns p3 p4 q3 q4
  have n2 := m2.turn hx hT2 (by omega) (fun j hj hne e => by omega) r2
  have n3 := m3.step hT2 (by omega) (fun j hj e => by omega)
  have n6 := Mb.boxT m6.1 m6.2 hT2 (by omega)
  exact ⟨he4, Mb.cl e1 f1 n2 n3 n6.1 hx, σ2, pa, qa, m1.step hT2 (by omega), n2, n3, m4.step hT2 (by omega), m5.step hT2 (by omega), n6.1, n6.2⟩
end
end Go.Proofs.Ytobfjfmaicmkdaa
