/-
  The program's checks of a model's bounds and of its programs.
-/
import Derived.Test.YtofkfajcibdneaaDoorNE
import Derived.Test.YtofkfajcibdneaaDoorOA
namespace Go.Proofs.YtofkfajcibdneaaDoor
open Go.ChangeShapes Go.WideShapes Go.ChangeAt Go.Shelf Go.RowKit Go.Lib Go.Sort Go.Deep
set_option linter.unusedVariables false
set_option linter.unusedSimpArgs false
set_option maxRecDepth 4000

/-- An error's variable holds a pointer. -/
def Sen (w : World) (g : Nat) (b : Addr) : Prop := g < w.heap.size ∧ w.cell? ⟨g, 0, none⟩ = some (.iface 123 (.pointer (some b)))
theorem Sen.below {w w' : World} {g : Nat} {b : Addr} (h : Sen w g b) (hb : Below w.heap.size w w') : Sen w' g b := ⟨Nat.lt_of_lt_of_le h.1 hb.size, by rw [hb.cell h.1]; exact h.2⟩
/-- The variable of package errors that holds the handle of the type error. -/
def ErrT (w : World) : Prop := 2 < w.heap.size ∧ w.cell? ⟨2, 0, none⟩ = some (.iface 103 (.agg #[.pointer (some ⟨6, 60, none⟩)]))
theorem ErrT.below {w w' : World} (h : ErrT w) (hb : Below w.heap.size w w') : ErrT w' := ⟨Nat.lt_of_lt_of_le h.1 hb.size, by rw [hb.cell h.1]; exact h.2⟩
/-- What the condition on the listed variables gives. -/
def Laid13 (w : World) : Prop := (∃ eb, ErrIs w eb) ∧ ErrT w ∧ (∃ b, Sen w 3 b) ∧ (∃ b, Sen w 4 b) ∧ (∃ b, Sen w 0 b) ∧ ∃ b, Sen w 5 b
theorem Laid13.below {w w' : World} (h : Laid13 w) (hb : Below w.heap.size w w') : Laid13 w' := by
  obtain ⟨⟨eb, h1⟩, h2, ⟨b3, h3⟩, ⟨b4, h4⟩, ⟨b5, h5⟩, b6, h6⟩ := h
  exact ⟨⟨eb, h1.below hb⟩, h2.below hb, ⟨b3, h3.below hb⟩, ⟨b4, h4.below hb⟩, ⟨b5, h5.below hb⟩, b6, h6.below hb⟩
/-- No error where it may be, else some error. -/
def Says (p : Prop) (u : Value) : Prop := (p ∧ u = .nilIface) ∨ (¬ p ∧ ∃ t x, u = .iface t x)
theorem vValid13 (t : Int) (w : World) : Calls Tryd.prog 60 #[.int .i64 t] w fun e w' => e = .returned (.bool (boolOf (validT t))) ∧ w = w' := by
  have h : boolOf (validT t) = decide (0 ≤ t ∧ t ≤ 4611686018427387903) := by
    by_cases h : validT t
    · rw [boolOf_true h]; exact (decide_eq_true (show 0 ≤ t ∧ t ≤ 4611686018427387903 from h)).symm
    · rw [boolOf_false h]; exact (decide_eq_false (show ¬ (0 ≤ t ∧ t ≤ 4611686018427387903) from h)).symm
  rw [h]
  exact vValid_any t w
set_option maxHeartbeats 8000000 in
set_option maxRecDepth 100000 in
theorem mdBounds_any {w : World} {v : Mv} {M : Md} (h : Mds w v M) (hL : Laid13 w) : Calls Tryd.prog 49 #[v.val M] w fun e w' => ∃ u, e = .returned u ∧ Says (okArg M) u ∧ Hid (Below w.heap.size w w') := by
  have mixed := mixed
  obtain ⟨pa, pl, pc, la, ll, lc, sa, sl, sc⟩ := v
  have hbx := Lib.hid h.box
  have hbW : Hid (Below w.heap.size w (w.alloc (.cells (Mv.cells ⟨pa, pl, pc, la, ll, lc, sa, sl, sc⟩ M) 27))) := (Below.refl _ w).alloc (Nat.le_refl _) _
  have hpl : Hid (M.progs.length = pl) := h.1.1
  have hmp : pl ≤ 9223372036854775807 := by have := h.1.2.1; have := h.1.2.2.1; unfold maxLen at *; dsimp only at *; omega
  obtain ⟨-, -, ⟨b3, hc⟩, ⟨b4, ht⟩, -⟩ := hL.below hbW.out
  have hc' := hc.2
  have ht' := ht.2
  have hvt := Lib.hid (vValid13 M.last)
  clear h hL hc ht
  obtain ⟨q, hq⟩ : ∃ q, Hid (q = Says (okArg M)) := ⟨_, Lib.hid rfl⟩
  rw [← hq.out]
  have hno : Hid (¬ okArg M → ∀ t x, q (.iface t x)) := Lib.hid (fun hn t x => by rw [hq.out]; exact .inr ⟨hn, t, x, rfl⟩)
  have hyes : Hid (okArg M → q .nilIface) := Lib.hid (fun hy => by rw [hq.out]; exact .inl ⟨hy, rfl⟩)
  clear hq
  simp only [Mv.val, Mv.cells] at hbx hbW hc' ht' ⊢
  go_enter Tryd.func49, Tryd.ntmps49
  go_upto_region 1 with fail
  generalize w.heap.size = B at hbx ⊢
  generalize w.alloc _ = W at *
  have c0 := hbx.out.c0
  have c4 := hbx.out.c4
  have c5 := hbx.out.c5
  dsimp only at c0
  by_cases g1 : pl = 0
  · subst g1
    have hfin := Lib.hid (hno.out (fun e => by have := e.1.1; have := hpl.out; omega))
    clear hno hyes
    go_wp2
    go_ret
    exact ⟨_, rfl, hfin.out _ _, hbW⟩
  have g1z : ((pl : Int) == 0) = false := by simp [g1]
  by_cases g2 : 16 < pl
  · have g2z : (16 : Int) < (pl : Int) := by omega
    have hfin := Lib.hid (hno.out (fun e => by have := e.1.2; have := hpl.out; omega))
    clear hno hyes
    go_wp2
    go_ret
    exact ⟨_, rfl, hfin.out _ _, hbW⟩
  have g2z : ¬ (16 : Int) < (pl : Int) := by omega
  have hvW := Lib.hid (hvt.out W)
  by_cases g3 : validT M.last
  · have g3' := Lib.hid g3
    rw [boolOf_true g3] at hvW
    clear g3
    by_cases g4 : M.bud < 0
    · have hfin := Lib.hid (hno.out (fun e => by have := e.2.2.1; omega))
      clear hno hyes
      go_wp2_with (go_at_call 60; refine hvW.out.mono ?_; rintro e w2 ⟨rfl, hw2⟩; subst hw2)
      go_ret
      exact ⟨_, rfl, hfin.out _ _, hbW⟩
    by_cases g5 : 4096 < M.bud
    · have hfin := Lib.hid (hno.out (fun e => by have := e.2.2.2; omega))
      clear hno hyes
      go_wp2_with (go_at_call 60; refine hvW.out.mono ?_; rintro e w2 ⟨rfl, hw2⟩; subst hw2)
      go_ret
      exact ⟨_, rfl, hfin.out _ _, hbW⟩
    have hfin := Lib.hid (hyes.out ⟨⟨by have := hpl.out; omega, by have := hpl.out; omega⟩, g3'.out, by omega, by omega⟩)
    clear hno hyes
    go_wp2_with (go_at_call 60; refine hvW.out.mono ?_; rintro e w2 ⟨rfl, hw2⟩; subst hw2)
    go_ret
    exact ⟨_, rfl, hfin.out, hbW⟩
  · rw [boolOf_false g3] at hvW
    have hfin := Lib.hid (hno.out (fun e => g3 e.2.1))
    clear hno hyes g3
    go_wp2_with (go_at_call 60; refine hvW.out.mono ?_; rintro e w2 ⟨rfl, hw2⟩; subst hw2)
    go_ret
    exact ⟨_, rfl, hfin.out _ _, hbW⟩
set_option maxHeartbeats 8000000 in
set_option maxRecDepth 100000 in
theorem mdProgs_any {w : World} {v : Mv} {M : Md} (h : Mds w v M) (hL : Laid13 w) : Calls Tryd.prog 50 #[v.val M] w fun e w' => ∃ u, e = .returned u ∧ Says (okProgs M) u ∧ Hid (Below w.heap.size w w') := by
  have mixed := mixed
  obtain ⟨pa, pl, pc, la, ll, lc, sa, sl, sc⟩ := v
  have hbx := Lib.hid h.box
  have hbW : Hid (Below w.heap.size w (w.alloc (.cells (Mv.cells ⟨pa, pl, pc, la, ll, lc, sa, sl, sc⟩ M) 27))) := (Below.refl _ w).alloc (Nat.le_refl _) _
  have hpl : Hid (M.progs.length = pl) := h.1.1
  have hmp : pl ≤ 9223372036854775807 := by have := h.1.2.1; have := h.1.2.2.1; unfold maxLen at *; dsimp only at *; omega
  obtain ⟨⟨eb, hE0⟩, -⟩ := hL.below hbW.out
  have hE := Lib.hid hE0
  clear h hL hE0
  obtain ⟨q, hq⟩ : ∃ q, Hid (q = Says (okProgs M)) := ⟨_, Lib.hid rfl⟩
  rw [← hq.out]
  have hno : Hid (¬ okProgs M → ∀ t x, q (.iface t x)) := Lib.hid (fun hn t x => by rw [hq.out]; exact .inr ⟨hn, t, x, rfl⟩)
  have hyes : Hid (okProgs M → q .nilIface) := Lib.hid (fun hy => by rw [hq.out]; exact .inl ⟨hy, rfl⟩)
  clear hq
  simp only [Mv.val, Mv.cells] at hbx hbW hE ⊢
  go_enter Tryd.func50, Tryd.ntmps50
  go_upto_region 1 with fail
  generalize w.heap.size = B at hbx ⊢
  generalize w.alloc _ = W at *
  have c0 := hbx.out.c0
  dsimp only at c0
  go_wp2
  clear c0
  go_loopw [9] (fun s9 wr => ∃ i : Nat, i ≤ pl ∧ s9 = .int .i64 i ∧ Hid (Below W.heap.size W wr) ∧ Hid (∀ j, j < i → checkN (M.progs.getD j []) = 0)) (fun s9 _ => pl - (intOf s9).toNat)
  case atStart => exact ⟨0, Nat.zero_le _, rfl, Below.refl _ _, Lib.hid (fun j hj => by omega)⟩
  case round =>
    obtain ⟨i, hil, rfl, hbr, hup⟩ := hrel
    by_cases hi : i < pl
    · have hiz : (i : Int) < (pl : Int) := by omega
      have hi' := Lib.hid hi
      have hwi : IntKind.i64.wrap ((i : Int) + 1) = (i : Int) + 1 := IntWalk.i64_in _ (by omega)
      obtain ⟨b, off, a', l', c', hpa, hpr⟩ := (hbx.out.below hbr.out).2.1.get hi
      dsimp only at hpa
      subst hpa
      have hcall := Lib.hid (cCheck_any hpr.2.2 (hE.out.below hbr.out))
      have e0 := hpr.2.1
      clear hpr hi
      by_cases hz : checkN (M.progs.getD i []) = 0
      · have hup2 : Hid (∀ j, j < i + 1 → checkN (M.progs.getD j []) = 0) := Lib.hid (fun j hj => by
          by_cases e : j = i
          · subst e; exact hz
          · exact hup.out j (by omega))
        rw [hz] at hcall
        clear hz
        go_wp2_with (go_at_call 27; refine hcall.out.mono ?_; rintro e w2 ⟨rfl, hr2⟩; have hb2 : Hid (Below W.heap.size W w2) := hbr.out.trans (hr2.below.mono hbr.out.size); clear hr2)
        go_roundw
        case rel => (repeat apply Exists.intro); first | exact ⟨hi'.out, by go_num, hup2⟩ | exact ⟨hi'.out, by go_num, hb2, hup2⟩ | exact ⟨⟨hi'.out, by go_num, hb2, hup2⟩, rfl⟩
        case measure => have := hi'.out; simp [intOf]; omega
      · have hfin := Lib.hid (hno.out (fun e => hz (e i (by rw [hpl.out]; exact hi'.out))))
        generalize checkN (M.progs.getD i []) = z at *
        have hz1 : (z == 0) = false := by simp [hz]
        have hz2 : (z != 0) = true := by simp [hz]
        clear hno hyes
        go_wp2_with (go_at_call 27; refine hcall.out.mono ?_; rintro e w2 ⟨rfl, hr2⟩; have hb2 : Hid (Below w.heap.size w w2) := (by (have h1 := hbW.out.trans (hbr.out.mono hbW.out.size); exact h1.trans (hr2.below.mono h1.size))); clear hr2)
        go_ret
        exact ⟨_, rfl, hfin.out _ _, hb2⟩
    · obtain rfl : pl = i := by omega
      have hiz : ¬ (pl : Int) < (pl : Int) := by omega
      have hfin := Lib.hid (hyes.out (fun j hj => hup.out j (by rw [hpl.out] at hj; exact hj)))
      have hb5 : Hid (Below w.heap.size w wr) := hbW.out.trans (hbr.out.mono hbW.out.size)
      clear hi hno hyes
      go_wp2
      go_ret
      exact ⟨_, rfl, hfin.out, hb5⟩
end Go.Proofs.YtofkfajcibdneaaDoor
