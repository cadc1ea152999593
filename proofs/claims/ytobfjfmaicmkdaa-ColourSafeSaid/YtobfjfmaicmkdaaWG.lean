
/-
  The law of two colours: a message that comes; a visit.
-/
import Derived.Test.YtobfjfmaicmkdaaWF
namespace Go.Proofs.Ytobfjfmaicmkdaa
open Go.ChangeShapes Go.WideShapes Go.ChangeAt Go.Shelf Go.RowKit Go.Lib Go.Sort Go.Deep Col
set_option linter.unusedVariables false
set_option linter.unusedSimpArgs false
set_option maxRecDepth 4000

section
variable {w wr w' : World} {σ : Nat → Nat} {vt : Value} {gh gm kb N gt ot ct i : Nat} {pa : Nat → Nat} {hv mv : Nat → Value} {s : WS} {x y : Nat} {g : Int}
theorem Sf.callGot' (h : Sf w σ vt gh gm kb N pa hv mv s wr) (hN : N ≤ 6) (hx : x < N) (hok : Ta.ok (s.ta x)) (c : Bool) : Calls Try.prog 14 #[.pointer (some ⟨pa x, 0, none⟩), .int .i64 (colI c)] wr fun e w' => e = .returned (.int .i64 0) ∧ Hid ((∃ σ', Sf w σ' vt gh gm kb N pa hv mv { s with ta := upd s.ta x ((s.ta x).got c) } w') ∧ ∀ b, b < wr.heap.size → σ b = 0 → w'.heap[b]? = wr.heap[b]?) := by
  obtain ⟨S, a1, a2⟩ := h.tl.tas x hx
  have hc := coGot_any a1 hok (colI c)
  rw [gotT_col, gotC_col] at hc
  refine hc.mono ?_
  rintro e w2 ⟨he, hq⟩
  obtain ⟨S', q1, q2⟩ := hq.out
  exact ⟨he, h.call hN hx a1 a2 q1 q2, fun b hb h0 => q2.1.block b hb (fun e => by have := a2 b e; omega)⟩
theorem SfI.at' (h : SfI w vt gh gm kb N pa i g wr) (hb : Below wr.heap.size wr w') : SfI w vt gh gm kb N pa i g w' := by
  obtain ⟨σ, hv, mv, s, c, h1, h2, h3, h4⟩ := h
  exact ⟨σ, hv, mv, s, c, h1.below hb, h2, h3, h4⟩
/-- What stands ahead of laying a time ahead of a row. -/
def GotTo (w : World) (vt : Value) (gh gm kb N : Nat) (pa : Nat → Nat) (i : Nat) (g : Int) (x Bp : Nat) (t0 : Int) (uh : Value) (nh : Nat) (lh : List Int) (W3 : World) : Prop :=
  ((W3.cell? ⟨Bp, 0, none⟩ = some (.int .i64 t0) ∧ W3.cell? ⟨gh, x, none⟩ = some uh) ∧ RowAt W3 2 1 uh nh (ints lh)) ∧ ∀ w4, Below W3.heap.size W3 w4 → ((w4.cell? ⟨Bp, 0, none⟩ = some (.int .i64 t0) ∧ w4.cell? ⟨gh, x, none⟩ = some uh) ∧ w4.frozen? ⟨gh, x, none⟩ = false) ∧
    ∀ g' cap, RowIn w4 2 1 g' 0 (1 + nh) cap (.int .i64 t0 :: ints lh) → W3.heap.size ≤ g' → SfI w vt gh gm kb N pa i g (w4.setCell ⟨gh, x, none⟩ (.slice (some ⟨g', 0, none⟩) (1 + nh) cap))
/-- A message comes: moving[x] is not empty. -/
theorem SfI.get (h : SfI w (.slice (some ⟨gt, ot, none⟩) N ct) gh gm kb N pa i g wr) (hN : N ≤ 6) (h9 : i < 1000) (hx : x < N) : ∃ (u : Value) (n : Nat), (∃ a cap, u = .slice a n cap ∧ n ≤ cap) ∧ Hid (∀ W, Below wr.heap.size wr W → W.cell? ⟨gm, x, none⟩ = some u) ∧
    ∀ n', n = n' + 1 → ∃ (mg off cap : Nat) (t0 : Int) (c : Bool) (uh : Value) (nh : Nat) (lh : List Int), u = .slice (some ⟨mg, off, none⟩) n cap ∧ n ≤ cap ∧ nh ≤ 2000 ∧ Hid (∀ W, Below wr.heap.size wr W → W.cell? ⟨mg, off, none⟩ = some (.int .i64 t0) ∧ W.cell? ⟨mg, off + 1, none⟩ = some (.int .i64 (colI c))) ∧
      Hid (∀ W0, Below wr.heap.size wr W0 → ∀ W, W = W0.alloc (.cells #[.int .i64 t0, .int .i64 (colI c)] 61) → (W.frozen? ⟨gm, x, none⟩ = false ∧ W.cell? ⟨gm, x, none⟩ = some u) ∧
        ∀ W2, Below (W.setCell ⟨gm, x, none⟩ (cutV 2 u)).heap.size (W.setCell ⟨gm, x, none⟩ (cutV 2 u)) W2 → (W2.cell? ⟨gt, ot + x, none⟩ = some (.pointer (some ⟨pa x, 0, none⟩)) ∧ W2.cell? ⟨W0.heap.size, 1, none⟩ = some (.int .i64 (colI c))) ∧
          Calls Try.prog 14 #[.pointer (some ⟨pa x, 0, none⟩), .int .i64 (colI c)] W2 fun e w3 => e = .returned (.int .i64 0) ∧ Hid (∀ W3, Below w3.heap.size w3 W3 → GotTo w (.slice (some ⟨gt, ot, none⟩) N ct) gh gm kb N pa (i + 1) g x W0.heap.size t0 uh nh lh W3)) := by
  obtain ⟨σ, hv, mv, s, c0, h1, h2, h3, h4⟩ := h
  refine ⟨mv x, (s.mov x).length, (h1.mi x hx).row.shape, Lib.hid fun W hb => ((h1.below hb).cellM hx).1, fun n' hn' => ?_⟩
  obtain ⟨m, ms, hm⟩ : ∃ m ms, s.mov x = m :: ms := by
    cases hq : s.mov x with
    | nil => rw [hq] at hn'; cases hn'
    | cons a l => exact ⟨a, l, rfl⟩
  obtain ⟨mg, off, cap, hu, hR⟩ := (h1.mi x hx).row.form (by omega)
  refine ⟨mg, off, cap, m.1, m.2, hv x, (s.held x).length, s.held x, hu, hR.bounds.1, by have := h3.hl x hx; omega, Lib.hid fun W hb => ?_, Lib.hid fun W0 hb0 W hW => ?_⟩
  · obtain ⟨hg', off', cap', hu', hR'⟩ := ((h1.below hb).mi x hx).row.form (by omega)
    rw [hu] at hu'
    simp only [Value.slice.injEq, Option.some.injEq, Addr.mk.injEq, and_true, true_and] at hu'
    obtain ⟨⟨rfl, rfl⟩, rfl⟩ := hu'
    exact ⟨hR'.cell (j := 0) (u := .int .i64 m.1) (by rw [hm]; rfl), hR'.cell (j := 1) (u := .int .i64 (colI m.2)) (by rw [hm]; rfl)⟩
  have hba := (Below.refl _ W0).alloc (Nat.le_refl _) (.cells #[.int .i64 m.1, .int .i64 (colI m.2)] 61)
  rw [← hW] at hba
  have h5 := (h1.below hb0).grow hba 0
  have hbox : W.heap[W0.heap.size]? = some (.cells #[.int .i64 m.1, .int .i64 (colI m.2)] 61 (0, 0)) := by rw [hW]; exact heap_alloc_new W0 _
  have hs0 : (fun j => if j < W0.heap.size then σ j else 0) W0.heap.size = 0 := if_neg (by omega)
  generalize (fun j => if j < W0.heap.size then σ j else 0) = σ1 at h5 hs0
  refine ⟨⟨(h5.cellM hx).2, (h5.cellM hx).1⟩, fun W2 hb2 => ?_⟩
  have hcut : InR σ1 W (x + 205) 61 2 (cutV 2 (mv x)) ms.length (pcs ms) := by
    have h6 := h5.mi x hx
    rw [hm] at h6
    exact ⟨h6.row.cut, fun j e => h6.own j (by rw [cutV_own] at e; exact e)⟩
  have h6 := h5.setM hN hx hcut
  have hne : W0.heap.size ≠ gm := fun e => by have := h5.mo.own; rw [← e, hs0] at this; cases this
  have hbox1 : (W.setCell ⟨gm, x, none⟩ (cutV 2 (mv x))).heap[W0.heap.size]? = some (.cells #[.int .i64 m.1, .int .i64 (colI m.2)] 61 (0, 0)) := ((KeptOff.set W ⟨gm, x, none⟩ _).block _ (Array.getElem?_eq_some_iff.1 hbox).1 hne).trans hbox
  have hbox2 := (hb2.block _ (Array.getElem?_eq_some_iff.1 hbox1).1).trans hbox1
  have h7 := h6.below hb2
  refine ⟨⟨h7.ptr hx, cell_of_block hbox2 rfl⟩, ?_⟩
  have hok : Ta.ok (s.ta x) := Bds.ok h3 (by omega) hx
  refine (h7.callGot' hN hx hok m.2).mono ?_
  rintro e w3 ⟨he, hq⟩
  obtain ⟨⟨σ3, h8⟩, hk3⟩ := hq.out
  have hbox3 := (hk3 _ (Array.getElem?_eq_some_iff.1 hbox2).1 hs0).trans hbox2
  refine ⟨he, Lib.hid fun W3 hb3 => ?_⟩
  have hbox4 := (hb3.block _ (Array.getElem?_eq_some_iff.1 hbox3).1).trans hbox3
  have h10 := h8.below hb3
  refine ⟨⟨⟨cell_of_block hbox4 rfl, (h10.cellH hx).1⟩, (h10.hi x hx).row⟩, fun w4 hb4 => ?_⟩
  have hbox5 := (hb4.block _ (Array.getElem?_eq_some_iff.1 hbox4).1).trans hbox4
  have h11 := h10.below hb4
  refine ⟨⟨⟨cell_of_block hbox5 rfl, (h11.cellH hx).1⟩, (h11.cellH hx).2⟩, fun g' cap' r1 r2 => ?_⟩
  obtain ⟨σ4, h12⟩ := h10.preH hN hx hb4 r1 r2
  exact ⟨σ4, _, _, s.get x m ms, c0, h12, h2.get hx hm, h3.get hx hm, h4⟩
/-- A visit. -/
theorem SfI.visit (h : SfI w (.slice (some ⟨gt, ot, none⟩) N ct) gh gm kb N pa i g wr) (hN : N ≤ 6) (h9 : i < 1000) : ∃ (at' : Nat) (u : Value) (lst told : Int) (over : Bool), at' < N ∧ Hid (∀ W, Below wr.heap.size wr W →
    (Calls Try.prog 18 #[.pointer (some ⟨kb, 0, none⟩)] W fun e w' => e = .returned (.int .i64 at') ∧ Below W.heap.size W w') ∧ (W.cell? ⟨gt, ot + at', none⟩ = some (.pointer (some ⟨pa at', 0, none⟩)) ∧ W.cell? ⟨gh, at', none⟩ = some u) ∧
    (Calls Try.prog 25 #[u] W fun e w' => e = .returned (.int .i64 lst) ∧ W = w') ∧
    Calls Try.prog 19 #[.pointer (some ⟨kb, 0, none⟩), .pointer (some ⟨pa at', 0, none⟩), .int .i64 lst] W fun e w3 => e = .returned (.tuple #[.int .i64 told, .bool over, .int .i64 0]) ∧ Hid (((w3.cell? ⟨gt, ot + at', none⟩ = some (.pointer (some ⟨pa at', 0, none⟩)) ∧ w3.cell? ⟨gh, at', none⟩ = some u)) ∧
      (over = false → SfI w (.slice (some ⟨gt, ot, none⟩) N ct) gh gm kb N pa (i + 1) g w3) ∧ (over = true → g ≤ told ∧ SfI w (.slice (some ⟨gt, ot, none⟩) N ct) gh gm kb N pa (i + 1) told w3 ∧
        Calls Try.prog 26 #[.slice (some ⟨gh, 0, none⟩) N N, .slice (some ⟨gm, 0, none⟩) N N] w3 fun e w' => ∃ z, e = .returned (.int .i64 z) ∧ Hid (told ≤ z) ∧ w3 = w'))) := by
  obtain ⟨σ, hv, mv, s, c0, h1, h2, h3, h4⟩ := h
  have hat := h2.at_lt
  obtain ⟨gg, hV⟩ := visited_of (N := N) (s := s) hat
  obtain ⟨v1, v2, v3, v4, v5, v6⟩ := h2.visited h3 (by omega) hV
  refine ⟨s.at', hv s.at', leastL (s.held s.at'), ((tok N s).vis (s.ta s.at') (leastL (s.held s.at'))).2.2.1, ((tok N s).vis (s.ta s.at') (leastL (s.held s.at'))).2.2.2, hat, Lib.hid fun W hb => ?_⟩
  have h5 := h1.below hb
  refine ⟨?_, ⟨h5.ptr hat, (h5.cellH hat).1⟩, least12_any (h5.hi s.at' hat).row (by have := h3.hl s.at' hat; omega), ?_⟩
  · obtain ⟨X, hX1, hX2⟩ := h5.tk
    exact coAt_any hX1
  refine (h5.callVisit hN hat (Bds.tok h3 hN hat) (Bds.small h3 (by omega) hat) (leastL (s.held s.at'))).mono ?_
  rintro e w3 ⟨he, hq⟩
  obtain ⟨σ3, h6⟩ := hq.out gg
  have hcell : w3.cell? ⟨gt, ot + s.at', none⟩ = some (.pointer (some ⟨pa s.at', 0, none⟩)) ∧ w3.cell? ⟨gh, s.at', none⟩ = some (hv s.at') := ⟨h6.ptr hat, (h6.cellH hat).1⟩
  refine ⟨he, Lib.hid ⟨hcell, fun ho => ?_, fun ho => ?_⟩⟩
  · obtain ⟨c1, hi⟩ := v1
    exact ⟨σ3, hv, mv, _, c1, h6, hi, v2, (v4 ho).trans h4⟩
  · obtain ⟨c1, hi⟩ := v1
    obtain ⟨u1, u2, u3, u4⟩ := v3 ho
    refine ⟨by rw [← h4]; exact u1, ⟨σ3, hv, mv, _, c1, h6, hi, v2, u2⟩, ?_⟩
    exact floor12_any (H := s.held) (M := s.mov) hN h6.ho.row h6.mo.row (fun j hj => (h6.hi j hj).row) (fun j hj => (h6.mi j hj).row) (fun j hj => by have := h3.hl j hj; omega) (fun j hj => by have := h3.ml j hj; omega) _ (by rw [← u2]; exact hi.gN) u3 u4
end
end Go.Proofs.Ytobfjfmaicmkdaa
