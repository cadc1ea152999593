
/-
  The law of a tally's counts.
-/
import Derived.Test.YtobfjfmaicmkdaaUO
import Derived.Deep.CutBlock
namespace Go.Proofs.Ytobfjfmaicmkdaa
open Go.ChangeShapes Go.WideShapes Go.ChangeAt Go.Shelf Go.RowKit Go.Lib Go.Sort Go.Deep Col
set_option linter.unusedVariables false
set_option linter.unusedSimpArgs false
set_option maxRecDepth 4000

/-- A tally and the law's own counts. -/
structure Cn (w wr : World) (b nb : Nat) (S : Nat → Prop) (t : Ta) (n0 n1 : Int) : Prop where
  ta : TaAt wr b S t
  row : wr.heap[nb]? = some (.cells #[.int .i64 n0, .int .i64 n1] 3 (0, 0))
  nw : ∀ k, S k → w.heap.size ≤ k
  off : ¬ S nb
  base : w.heap.size ≤ nb
  b : Below w.heap.size w wr
section
variable {w wr w' : World} {b nb : Nat} {S S' : Nat → Prop} {t t' : Ta} {n0 n1 : Int}
theorem Cn.lt (h : Cn w wr b nb S t n0 n1) : nb < wr.heap.size := (Array.getElem?_eq_some_iff.1 h.row).1
theorem Cn.below (h : Cn w wr b nb S t n0 n1) (hb : Below wr.heap.size wr w') : Cn w w' b nb S t n0 n1 :=
  ⟨h.ta.below hb, (hb.block nb h.lt).trans h.row, h.nw, h.off, h.base, h.b.trans (hb.mono h.b.size)⟩
theorem Cn.step (h : Cn w wr b nb S t n0 n1) (h2 : TaAt w' b S' t') (hc : CStep wr w' S S') : Cn w w' b nb S' t' n0 n1 :=
  ⟨h2, (hc.1.block nb h.lt h.off).trans h.row, fun k e => (hc.2 k e).elim (h.nw k) (fun e => Nat.le_trans h.b.size e), fun e => (hc.2 nb e).elim h.off (fun e => by have := h.lt; omega), h.base, h.b.trans (hc.1.below (fun k _ e => h.nw k e) h.b.size)⟩
theorem Cn.set (h : Cn w wr b nb S t n0 n1) (o : Nat) (v : Value) {m0 m1 : Int} (e : (#[.int .i64 n0, .int .i64 n1] : Array Value).setIfInBounds o v = #[.int .i64 m0, .int .i64 m1]) : Cn w (wr.setCell ⟨nb, o, none⟩ v) b nb S t m0 m1 := by
  have hk := KeptOff.set wr ⟨nb, o, none⟩ v
  refine ⟨h.ta.kept hk (fun k e e2 => h.off (by rw [show k = nb from e2] at e; exact e)), ?_, h.nw, h.off, h.base, h.b.trans (hk.below (fun k _ e => by rw [show k = nb from e]; exact h.base) h.b.size)⟩
  have := Go.heap_setCell_same wr nb o _ _ v h.row
  rw [e] at this
  exact this
theorem Cn.cell0 (h : Cn w wr b nb S t n0 n1) : wr.cell? ⟨nb, 0, none⟩ = some (.int .i64 n0) := cell_of_block h.row rfl
theorem Cn.cell1 (h : Cn w wr b nb S t n0 n1) : wr.cell? ⟨nb, 1, none⟩ = some (.int .i64 n1) := cell_of_block h.row rfl
theorem Cn.fz (h : Cn w wr b nb S t n0 n1) (o : Nat) : wr.frozen? ⟨nb, o, none⟩ = false := frozen_of_cells h.row
end
/-- What stands between two rounds: the law's counts are the tally's. -/
def CnI (w : World) (b nb i : Nat) (c red : Int) (wr : World) : Prop := ∃ S t, Cn w wr b nb S t t.n0 t.n1 ∧ c = colI t.c ∧ red = t.red ∧ (-(i : Int) ≤ t.n0 ∧ t.n0 ≤ i) ∧ -(i : Int) ≤ t.n1 ∧ t.n1 ≤ i
theorem CnI.look {w wr : World} {b nb i : Nat} {c red : Int} (h : CnI w b nb i c red wr) : ∃ n0 n1 : Int, ∀ w', Below wr.heap.size wr w' → w'.cell? ⟨nb, 0, none⟩ = some (.int .i64 n0) ∧ w'.cell? ⟨nb, 1, none⟩ = some (.int .i64 n1) ∧
    (Calls Try.prog 21 #[.pointer (some ⟨b, 0, none⟩)] w' fun e w'' => e = .returned (.int .i64 c) ∧ Below w'.heap.size w' w'') ∧ (Calls Try.prog 22 #[.pointer (some ⟨b, 0, none⟩), .int .i64 0] w' fun e w'' => e = .returned (.int .i64 n0) ∧ Below w'.heap.size w' w'') ∧
    (Calls Try.prog 22 #[.pointer (some ⟨b, 0, none⟩), .int .i64 1] w' fun e w'' => e = .returned (.int .i64 n1) ∧ Below w'.heap.size w' w'') ∧ (Calls Try.prog 23 #[.pointer (some ⟨b, 0, none⟩)] w' fun e w'' => e = .returned (.int .i64 red) ∧ Below w'.heap.size w' w'') ∧ CnI w b nb i c red w' := by
  obtain ⟨S, t, h1, rfl, rfl, h2, h3⟩ := h
  refine ⟨t.n0, t.n1, fun w' hb => ?_⟩
  have h4 := h1.below hb
  exact ⟨h4.cell0, h4.cell1, coColour_any h4.ta, coNet_any h4.ta 0, coNet_any h4.ta 1, coRed_any h4.ta, S, t, h4, rfl, rfl, h2, h3⟩

/-- The same, with the call in its box. -/
def CnS (w : World) (b nb Bo i : Nat) (c red : Int) (o : Oc) (wr : World) : Prop := ∃ S t, Cn w wr b nb S t t.n0 t.n1 ∧ c = colI t.c ∧ red = t.red ∧ ((-(i : Int) ≤ t.n0 ∧ t.n0 ≤ i) ∧ -(i : Int) ≤ t.n1 ∧ t.n1 ≤ i) ∧ BoxO wr Bo o ∧ ¬ S Bo ∧ Bo ≠ nb
theorem CnI.box {w wr : World} {b nb i : Nat} {c red : Int} (h : CnI w b nb i c red wr) (o : Oc) : CnS w b nb wr.heap.size i c red o (wr.alloc (.cells #[.int .i64 o.what, .int .i64 o.a, .int .i64 o.n, .int .i64 o.t] 38)) := by
  obtain ⟨S, t, h1, h2, h3, h4⟩ := h
  have hb := (Below.refl _ wr).alloc (Nat.le_refl _) (.cells #[.int .i64 o.what, .int .i64 o.a, .int .i64 o.n, .int .i64 o.t] 38)
  exact ⟨S, t, h1.below hb, h2, h3, h4, heap_alloc_new wr _, fun e => by have := h1.ta.lt e; omega, by have := h1.lt; omega⟩
theorem CnI.b {w wr : World} {b nb i : Nat} {c red : Int} (h : CnI w b nb i c red wr) : Below w.heap.size w wr := by
  obtain ⟨S, t, h1, _⟩ := h
  exact h1.b
theorem CnS.bo {w wr : World} {b nb Bo i : Nat} {c red : Int} {o : Oc} (h : CnS w b nb Bo i c red o wr) : BoxO wr Bo o := by
  obtain ⟨S, t, h1, _, _, _, h2, _⟩ := h
  exact h2
theorem CnS.col {w wr : World} {b nb Bo i : Nat} {c red : Int} {o : Oc} (h : CnS w b nb Bo i c red o wr) : c = 0 ∨ c = 1 := by
  obtain ⟨S, t, h1, h2, _⟩ := h
  rw [h2]
  cases t.c
  · exact .inl rfl
  · exact .inr rfl
theorem CnS.sent {w wr : World} {b nb Bo i : Nat} {q : Bool} {red : Int} {o : Oc} (h : CnS w b nb Bo i (colI q) red o wr) (hi : i < 1000) :
    Calls Try.prog 12 #[.pointer (some ⟨b, 0, none⟩), .int .i64 o.t] wr fun e w2 => e = .returned (.int .i64 (colI q)) ∧ ∃ n : Int, Hid (IntKind.i64.wrap (n + 1) = n + 1) ∧ Hid (w2.cell? ⟨nb, (colI q).toNat, none⟩ = some (.int .i64 n)) ∧ Hid (w2.frozen? ⟨nb, (colI q).toNat, none⟩ = false) ∧ Hid (BoxO (w2.setCell ⟨nb, (colI q).toNat, none⟩ (.int .i64 (n + 1))) Bo o) ∧ Hid (CnI w b nb (i + 1) (colI q) (min red o.t) (w2.setCell ⟨nb, (colI q).toNat, none⟩ (.int .i64 (n + 1)))) := by
  obtain ⟨S, t, h1, h2, rfl, ⟨⟨h3, h4⟩, h5, h6⟩, hbo, hns, hne⟩ := h
  have hq : q = t.c := by cases q <;> cases hc : t.c <;> rw [hc] at h2 <;> first | rfl | (exact absurd h2 (by decide))
  subst hq
  refine (coSent_any h1.ta ⟨⟨by omega, by omega⟩, by omega, by omega⟩ o.t).mono ?_
  rintro e w2 ⟨rfl, hx⟩
  obtain ⟨S', hT, hC⟩ := hx.out
  have h7 := h1.step hT hC
  have hbo2 : BoxO w2 Bo o := hbo.kept hC.1 hns
  refine ⟨rfl, ?_⟩
  cases hc : t.c with
  | false =>
    refine ⟨t.n0, IntWalk.i64_in _ (by omega), h7.cell0, h7.fz 0, hbo2.kept (KeptOff.set w2 ⟨nb, 0, none⟩ _) (fun e => hne e), S', t.sent o.t, ?_, ?_, rfl, ⟨?_, ?_⟩, ?_, ?_⟩
    · have h8 := h7.set 0 (.int .i64 (t.n0 + 1)) (m0 := t.n0 + 1) (m1 := t.n1) rfl
      have e0 : (t.sent o.t).n0 = t.n0 + 1 := by simp [Ta.sent, hc]
      have e1 : (t.sent o.t).n1 = t.n1 := by simp [Ta.sent, hc]
      rw [e0, e1]; exact h8
    · simp [Ta.sent, hc]
    all_goals (simp only [Ta.sent, hc]; simp; omega)
  | true =>
    refine ⟨t.n1, IntWalk.i64_in _ (by omega), h7.cell1, h7.fz 1, hbo2.kept (KeptOff.set w2 ⟨nb, 1, none⟩ _) (fun e => hne e), S', t.sent o.t, ?_, ?_, rfl, ⟨?_, ?_⟩, ?_, ?_⟩
    · have h8 := h7.set 1 (.int .i64 (t.n1 + 1)) (m0 := t.n0) (m1 := t.n1 + 1) rfl
      have e0 : (t.sent o.t).n0 = t.n0 := by simp [Ta.sent, hc]
      have e1 : (t.sent o.t).n1 = t.n1 + 1 := by simp [Ta.sent, hc]
      rw [e0, e1]; exact h8
    · simp [Ta.sent, hc]
    all_goals (simp only [Ta.sent, hc]; simp; omega)
theorem CnS.got {w wr : World} {b nb Bo i : Nat} {c red : Int} {o : Oc} (h : CnS w b nb Bo i c red o wr) (hi : i < 1000) (q : Bool) (hq : o.n = colI q) :
    Calls Try.prog 14 #[.pointer (some ⟨b, 0, none⟩), .int .i64 (colI q)] wr fun e w2 => e = .returned (.int .i64 0) ∧ ∃ n : Int, Hid (BoxO w2 Bo o) ∧ Hid (IntKind.i64.wrap (n - 1) = n - 1) ∧ Hid (w2.cell? ⟨nb, (colI q).toNat, none⟩ = some (.int .i64 n)) ∧ Hid (w2.frozen? ⟨nb, (colI q).toNat, none⟩ = false) ∧ Hid (CnI w b nb (i + 1) c red (w2.setCell ⟨nb, (colI q).toNat, none⟩ (.int .i64 (n - 1)))) := by
  obtain ⟨S, t, h1, rfl, rfl, ⟨⟨h3, h4⟩, h5, h6⟩, hbo, hns, hne⟩ := h
  have hg : gotC (colI q) = 0 := by cases q <;> rfl
  have hgt : gotT t (colI q) = t.got q := by cases q <;> rfl
  have hC := coGot_any h1.ta ⟨⟨by omega, by omega⟩, by omega, by omega⟩ (colI q)
  rw [hg, hgt] at hC
  refine hC.mono ?_
  rintro e w2 ⟨rfl, hx⟩
  obtain ⟨S', hT, hC⟩ := hx.out
  have h7 := h1.step hT hC
  have hbo2 : BoxO w2 Bo o := hbo.kept hC.1 hns
  refine ⟨rfl, ?_⟩
  cases q with
  | false =>
    refine ⟨t.n0, hbo2, IntWalk.i64_in _ (by omega), h7.cell0, h7.fz 0, S', t.got false, h7.set 0 (.int .i64 (t.n0 - 1)) (m0 := t.n0 - 1) (m1 := t.n1) rfl, rfl, rfl, ⟨?_, ?_⟩, ?_, ?_⟩
    all_goals (simp only [Ta.got]; simp; omega)
  | true =>
    refine ⟨t.n1, hbo2, IntWalk.i64_in _ (by omega), h7.cell1, h7.fz 1, S', t.got true, h7.set 1 (.int .i64 (t.n1 - 1)) (m0 := t.n0) (m1 := t.n1 - 1) rfl, rfl, rfl, ⟨?_, ?_⟩, ?_, ?_⟩
    all_goals (simp only [Ta.got]; simp; omega)
theorem CnS.gotNo {w wr : World} {b nb Bo i : Nat} {c red : Int} {o : Oc} (h : CnS w b nb Bo i c red o wr) (hi : i < 1000) (h0 : o.n ≠ 0) (h1' : o.n ≠ 1) :
    Calls Try.prog 14 #[.pointer (some ⟨b, 0, none⟩), .int .i64 o.n] wr fun e w2 => e = .returned (.int .i64 1) ∧ Hid (CnI w b nb (i + 1) c red w2) := by
  obtain ⟨S, t, h1, rfl, rfl, ⟨⟨h3, h4⟩, h5, h6⟩, hbo, hns, hne⟩ := h
  have hC := coGot_any h1.ta ⟨⟨by omega, by omega⟩, by omega, by omega⟩ o.n
  rw [show gotC o.n = 1 by unfold gotC; rw [if_neg (by omega)], show gotT t o.n = t by unfold gotT; rw [if_neg h0, if_neg h1']] at hC
  refine hC.mono ?_
  rintro e w2 ⟨rfl, hx⟩
  obtain ⟨S', hT, hC⟩ := hx.out
  exact ⟨rfl, S', t, h1.step hT hC, rfl, rfl, ⟨by omega, by omega⟩, by omega, by omega⟩
theorem CnS.flip {w wr : World} {b nb Bo i : Nat} {q : Bool} {red : Int} {o : Oc} (h : CnS w b nb Bo i (colI q) red o wr) :
    Calls Try.prog 17 #[.pointer (some ⟨b, 0, none⟩)] wr fun e w2 => e = .returned (.int .i64 0) ∧ Hid (CnI w b nb (i + 1) (colI (!q)) 4611686018427387904 w2) := by
  obtain ⟨S, t, h1, h2, rfl, ⟨⟨h3, h4⟩, h5, h6⟩, hbo, hns, hne⟩ := h
  have hq : q = t.c := by cases q <;> cases hc : t.c <;> rw [hc] at h2 <;> first | rfl | (exact absurd h2 (by decide))
  subst hq
  refine (coFlip_any h1.ta).mono ?_
  rintro e w2 ⟨rfl, hx⟩
  obtain ⟨S', hT, hC⟩ := hx.out
  exact ⟨rfl, S', t.flip, h1.step hT hC, rfl, rfl, ⟨by show _ ≤ t.n0; omega, by show t.n0 ≤ _; omega⟩, by show _ ≤ t.n1; omega, by show t.n1 ≤ _; omega⟩

set_option maxHeartbeats 16000000 in
set_option maxRecDepth 100000 in
theorem lawColourCounts {w : World} {a : Option Addr} {len cap : Nat} (h : Ops w a len cap) : Calls Try.prog 6 #[.slice a len cap] w fun e w' => e = .returned (.bool true) ∧ Below w.heap.size w w' := by
  have mixed := mixed
  obtain ⟨hcap1, hcap2, hops⟩ := h
  have hmx : len ≤ 9223372036854775807 ∧ cap ≤ 9223372036854775807 := by unfold maxLen at hcap2; omega
  obtain ⟨hmx, hcm⟩ := hmx
  have hops' := Lib.hid hops
  clear hops hcap1 hcap2
  have hst : Hid (∀ b S w1, Hid (TaAt w1 b S Ta.new ∧ (∀ k, S k → w.heap.size ≤ k) ∧ Below w.heap.size w w1) → CnI w b w1.heap.size 0 0 4611686018427387904 (w1.alloc (.cells #[.int .i64 0, .int .i64 0] 3))) := Lib.hid (fun b S w1 h => by
    obtain ⟨h1, h2, h3⟩ := h.out
    have hb := (Below.refl _ w1).alloc (Nat.le_refl _) (.cells #[.int .i64 0, .int .i64 0] 3)
    exact ⟨S, Ta.new, ⟨h1.below hb, heap_alloc_new w1 _, h2, fun e => by have := h1.lt e; omega, h3.size, h3.trans (hb.mono h3.size)⟩, rfl, rfl, ⟨by decide, by decide⟩, by decide, by decide⟩)
  go_enter Try.func6, Try.ntmps6
  go_upto_region 8 with (go_at_call 10; refine (coNew_any w).mono ?_; rintro e w1 ⟨tb, S0, rfl, hM⟩; have hI0 := Lib.hid (hst.out tb S0 w1 hM); clear hM)
  go_wp2_with fail
  go_loopw [5, 6, 7] (fun s5 s6 s7 wr => ∃ (i : Nat) (c red : Int), i ≤ len ∧ s7 = .int .i64 i ∧ s5 = .int .i64 c ∧ s6 = .int .i64 red ∧ Hid (i ≤ 1000) ∧ Hid (CnI w tb w1.heap.size i c red wr)) (fun _ _ s7 _ => len - (intOf s7).toNat)
  case atStart => exact ⟨0, 0, 4611686018427387904, Nat.zero_le _, rfl, rfl, rfl, Nat.zero_le _, hI0⟩
  case round =>
    obtain ⟨i, c, red, hi, rfl, rfl, rfl, hik, hM⟩ := hrel
    clear hI0 hst
    generalize w1.heap.size = nb at *
    by_cases hgo : i < len ∧ i < 1000
    · obtain ⟨hil, h1k⟩ := hgo
      have hz : (i : Int) < (len : Int) := by omega
      have hz2 : (i : Int) < 1000 := by omega
      obtain ⟨bb, off, rfl, hbw, hop⟩ : ∃ b off, a = some ⟨b, off, none⟩ ∧ b < w.heap.size ∧ ∀ i, i < len → ∃ x : Oc, x.fits ∧ OpC w b (off + i * 4) x := by
        rcases hops'.out with h0 | hx
        · omega
        · exact hx
      obtain ⟨⟨what, oa, n, t⟩, hf, hc⟩ := hop i hil
      have hB := hM.out.b
      obtain ⟨k0, k1, k2, k3⟩ := hc
      dsimp only at k0 k1 k2 k3
      have hcell : ∀ {o : Nat} {v : Value}, w.cell? ⟨bb, o, none⟩ = some v → wr.cell? ⟨bb, o, none⟩ = some v := fun h => (hB.cell (p := ⟨bb, _, none⟩) hbw).trans h
      have x0 := hcell k0
      have x1 := hcell k1
      have x2 := hcell k2
      have x3 := hcell k3
      have hMo := Lib.hid (hM.out.box ⟨what, oa, n, t⟩)
      dsimp only at hMo
      have hil' := Lib.hid hil
      have h1k' := Lib.hid h1k
      clear k0 k1 k2 k3 hcell hop hM hB hf hil h1k hik
      have hw1 : IntKind.i64.wrap ((i : Int) + 1) = (i : Int) + 1 := IntWalk.i64_in _ (by omega)
      go_upto_region 11 with fail
      generalize wr.heap.size = Bo at *
      generalize wr.alloc (.cells #[.int .i64 what, .int .i64 oa, .int .i64 n, .int .i64 t] 38) = W1 at *
      clear x0 x1 x2 x3
      have hbo := Lib.hid hMo.out.bo
      have hcol := Lib.hid hMo.out.col
      have c0 := hbo.out.c0
      have c2 := hbo.out.c2
      have c3 := hbo.out.c3
      dsimp only at c0 c2 c3
      go_upto_block 2 with fail
      go_cut [5, 6] from 13 to 103 (fun s5 s6 wx => ∃ c' red' : Int, s5 = .int .i64 c' ∧ s6 = .int .i64 red' ∧ Hid (CnI w tb nb (i + 1) c' red' wx))
      case first =>
        by_cases hwh0 : what = 0
        · subst hwh0
          rcases hcol.out with rfl | rfl
          · clear hcol
            have hS := CnS.sent (q := false) hMo.out h1k'.out
            simp only [colI, Bool.false_eq_true, if_false, if_true, Int.toNat_zero, Int.toNat_one] at hS
            have hS' := Lib.hid hS
            clear hS hMo hbo c2
            go_upto_region 18 with (go_at_call 12; refine hS'.out.mono ?_; rintro e w2 ⟨rfl, m, hw2, hm0, hm1, hbo2, hrel2⟩)
            have y0 := hm0.out
            have y1 := hm1.out
            have hw3 := hw2.out
            have c3' := hbo2.out.c3
            dsimp only at c3' hrel2
            clear c0 c3 hm0 hm1 hw2 hbo2 hS'
            go_wp2_with fail
            go_meet
            case rel => exact ⟨_, _, rfl, rfl, hrel2⟩
          · clear hcol
            have hS := CnS.sent (q := true) hMo.out h1k'.out
            simp only [colI, Bool.false_eq_true, if_false, if_true, Int.toNat_zero, Int.toNat_one] at hS
            have hS' := Lib.hid hS
            clear hS hMo hbo c2
            go_upto_region 18 with (go_at_call 12; refine hS'.out.mono ?_; rintro e w2 ⟨rfl, m, hw2, hm0, hm1, hbo2, hrel2⟩)
            have y0 := hm0.out
            have y1 := hm1.out
            have hw3 := hw2.out
            have c3' := hbo2.out.c3
            dsimp only at c3' hrel2
            clear c0 c3 hm0 hm1 hw2 hbo2 hS'
            go_wp2_with fail
            go_meet
            case rel => exact ⟨_, _, rfl, rfl, hrel2⟩
        · by_cases hwh1 : what = 1
          · subst hwh1
            by_cases h0 : n = 0
            · subst h0
              have hS := hMo.out.got h1k'.out false rfl
              simp only [colI, Bool.false_eq_true, if_false, if_true, Int.toNat_zero, Int.toNat_one] at hS
              have hS' := Lib.hid hS
              clear hS hMo hbo c3 hcol
              go_upto_region 26 with (go_at_call 14; refine hS'.out.mono ?_; rintro e w2 ⟨rfl, m, hbo2, hw2, hm0, hm1, hrel2⟩)
              have y0 := hm0.out
              have y1 := hm1.out
              have hw3 := hw2.out
              have c2' := hbo2.out.c2
              dsimp only at c2'
              clear c0 c2 hm0 hm1 hw2 hbo2 hS'
              go_wp2_with fail
              go_meet
              case rel => exact ⟨_, _, rfl, rfl, hrel2⟩
            · by_cases h1 : n = 1
              · subst h1
                have hS := hMo.out.got h1k'.out true rfl
                simp only [colI, Bool.false_eq_true, if_false, if_true, Int.toNat_zero, Int.toNat_one] at hS
                have hS' := Lib.hid hS
                clear hS hMo hbo c3 hcol
                go_upto_region 26 with (go_at_call 14; refine hS'.out.mono ?_; rintro e w2 ⟨rfl, m, hbo2, hw2, hm0, hm1, hrel2⟩)
                have y0 := hm0.out
                have y1 := hm1.out
                have hw3 := hw2.out
                have c2' := hbo2.out.c2
                dsimp only at c2'
                clear c0 c2 hm0 hm1 hw2 hbo2 hS'
                go_wp2_with fail
                go_meet
                case rel => exact ⟨_, _, rfl, rfl, hrel2⟩
              · skip
                have hS' := Lib.hid (hMo.out.gotNo h1k'.out h0 h1)
                dsimp only at hS'
                have hz0 : (n != 0) = true := by simp [h0]
                have hz1 : (n != 1) = true := by simp [h1]
                clear hMo hbo c3 hcol
                go_wp2_with (go_at_call 14; refine hS'.out.mono ?_; rintro e w2 ⟨rfl, hrel2⟩)
                go_meet
                case rel => exact ⟨_, _, rfl, rfl, hrel2⟩
          · skip
            rcases hcol.out with rfl | rfl
            · clear hcol
              have hS := CnS.flip (q := false) hMo.out
              simp only [colI, Bool.not_false, Bool.not_true, Bool.false_eq_true, if_false, if_true] at hS
              have hS' := Lib.hid hS
              clear hS hMo hbo c2 c3
              go_wp2_with (go_at_call 17; refine hS'.out.mono ?_; rintro e w2 ⟨rfl, hrel2⟩)
              go_meet
              case rel => exact ⟨_, _, rfl, rfl, hrel2⟩
            · clear hcol
              have hS := CnS.flip (q := true) hMo.out
              simp only [colI, Bool.not_false, Bool.not_true, Bool.false_eq_true, if_false, if_true] at hS
              have hS' := Lib.hid hS
              clear hS hMo hbo c2 c3
              go_wp2_with (go_at_call 17; refine hS'.out.mono ?_; rintro e w2 ⟨rfl, hrel2⟩)
              go_meet
              case rel => exact ⟨_, _, rfl, rfl, hrel2⟩
      case rest =>
        obtain ⟨c', red', rfl, rfl, hM2⟩ := hcut
        obtain ⟨n0, n1, hlk⟩ := hM2.out.look
        have hlook := Lib.hid hlk
        clear hM2 hlk hMo hbo c0 c2 c3 hcol
        go_upto_region 27 with fail
        refine wp_region_held_drew (S := fun w' => Below wc.heap.size wc w') (by kernel_rfl) ((Below.refl _ wc).drew) (fun hHeld => ?_)
        clear hHeld
        have hHd : Below wc.heap.size wc wc.drew := (Below.refl _ wc).drew
        refine wpAnyH_take (i := 0) (oi := { dst := some 78, op := Op.move (Operand.tmp 3), type := 33, pos := "law.go:248", after := #[], guard := none }) (v := ?vv0_1) rfl (by kernel_rfl) (by kernel_rfl) (by kernel_rfl) (fun _ _ _ h => h) (Or.inl ⟨by rfl, ?hy0_1⟩) hHd ?rest0_1
        case hy0_1 =>
          intro w hSw
          go_simp
          try with_reducible rfl
        try simp only [Act.put, List.setIfInBounds_toArray, List.set_cons_zero, List.set_cons_succ]
        refine wpAnyH_take (i := 2) (oi := { dst := some 80, op := Op.move (Operand.tmp 5), type := 3, pos := "law.go:248", after := #[], guard := none }) (v := ?vv2_2) rfl (by kernel_rfl) (by kernel_rfl) (by kernel_rfl) (fun _ _ _ h => h) (Or.inl ⟨by rfl, ?hy2_2⟩) hHd ?rest2_2
        case hy2_2 =>
          intro w hSw
          go_simp
          try with_reducible rfl
        try simp only [Act.put, List.setIfInBounds_toArray, List.set_cons_zero, List.set_cons_succ]
        refine wpAnyH_ready (rs := [1]) (by kernel_rfl) (by simp) ?_
        refine AllReadyH.cons (o := { dst := some 79, op := Op.call { callee := Callee.value (Operand.func 21), args := #[Operand.tmp 78], argTypes := #[33] }, type := 3, pos := "law.go:248", after := #[{ on := 0, ground := Ground.data }], guard := none }) rfl (fun K hK => ?_) AllReadyH.nil
        go_simp
        refine (hlook.out _ hHd).2.2.1.mono ?_
        rintro x w1 ⟨rfl, hbw1⟩
        have hH1 := hHd.trans (hbw1.mono hHd.size)
        refine hK.out _ _ hH1 (fun hHeld => ?_)
        clear hHeld hK K
        try simp only [Act.put, List.setIfInBounds_toArray, List.set_cons_zero, List.set_cons_succ]
        refine wpAnyH_take (i := 3) (oi := { dst := some 81, op := Op.binOp BinOp.neq 3 (Operand.tmp 79) (Operand.tmp 80) 3, type := 4, pos := "law.go:248", after := #[{ on := 1, ground := Ground.data }, { on := 2, ground := Ground.data }], guard := none }) (v := ?vv3_3) rfl (by kernel_rfl) (by kernel_rfl) (by kernel_rfl) (fun _ _ _ h => h) (Or.inl ⟨by rfl, ?hy3_3⟩) hH1 ?rest3_3
        case hy3_3 =>
          intro w hSw
          go_simp
          try with_reducible rfl
        try simp only [Act.put, List.setIfInBounds_toArray, List.set_cons_zero, List.set_cons_succ]
        refine wpAnyH_take (i := 4) (oi := { dst := some 82, op := Op.move (Operand.tmp 81), type := 4, pos := "law.go:248", after := #[{ on := 3, ground := Ground.data }, { on := 1, ground := Ground.chain }], guard := none }) (v := ?vv4_4) rfl (by kernel_rfl) (by kernel_rfl) (by kernel_rfl) (fun _ _ _ h => h) (Or.inl ⟨by rfl, ?hy4_4⟩) hH1 ?rest4_4
        case hy4_4 =>
          intro w hSw
          go_simp
          try with_reducible rfl
        try simp only [Act.put, List.setIfInBounds_toArray, List.set_cons_zero, List.set_cons_succ]
        refine wpAnyH_take (i := 5) (oi := { dst := some 83, op := Op.move (Operand.tmp 3), type := 33, pos := "law.go:248", after := #[{ on := 4, ground := Ground.guard }], guard := some (4, false) }) (v := ?vv5_5) rfl (by kernel_rfl) (by kernel_rfl) (by kernel_rfl) (fun _ _ _ h => h) (Or.inl ⟨by rfl, ?hy5_5⟩) hH1 ?rest5_5
        case hy5_5 =>
          intro w hSw
          go_simp
          try with_reducible rfl
        try simp only [Act.put, List.setIfInBounds_toArray, List.set_cons_zero, List.set_cons_succ]
        refine wpAnyH_take (i := 7) (oi := { dst := some 85, op := Op.move (Operand.tmp 4), type := 50, pos := "law.go:248", after := #[{ on := 4, ground := Ground.guard }], guard := some (4, false) }) (v := ?vv7_6) rfl (by kernel_rfl) (by kernel_rfl) (by kernel_rfl) (fun _ _ _ h => h) (Or.inl ⟨by rfl, ?hy7_6⟩) hH1 ?rest7_6
        case hy7_6 =>
          intro w hSw
          go_simp
          try with_reducible rfl
        try simp only [Act.put, List.setIfInBounds_toArray, List.set_cons_zero, List.set_cons_succ]
        refine wpAnyH_take (i := 8) (oi := { dst := some 86, op := Op.indexAddr 50 (Operand.tmp 85) (Operand.const (Value.int IntKind.i64 0)), type := 0, pos := "law.go:248", after := #[{ on := 7, ground := Ground.data }, { on := 4, ground := Ground.guard }], guard := some (4, false) }) (v := ?vv8_7) rfl (by kernel_rfl) (by kernel_rfl) (by kernel_rfl) (fun _ _ _ h => h) (Or.inl ⟨by rfl, ?hy8_7⟩) hH1 ?rest8_7
        case hy8_7 =>
          intro w hSw
          go_simp
          try with_reducible rfl
        try simp only [Act.put, List.setIfInBounds_toArray, List.set_cons_zero, List.set_cons_succ]
        refine wpAnyH_take (i := 9) (oi := { dst := some 87, op := Op.load 3 (Operand.tmp 86), type := 3, pos := "law.go:248", after := #[{ on := 8, ground := Ground.data }, { on := 4, ground := Ground.guard }], guard := some (4, false) }) (v := ?vv9_8) rfl (by kernel_rfl) (by kernel_rfl) (by kernel_rfl) (fun _ _ _ h => h) (Or.inl ⟨by rfl, ?hy9_8⟩) hH1 ?rest9_8
        case hy9_8 =>
          intro w hSw
          have y := (hlook.out w hSw).1
          go_simp
          try with_reducible rfl
        try simp only [Act.put, List.setIfInBounds_toArray, List.set_cons_zero, List.set_cons_succ]
        refine wpAnyH_ready (rs := [6]) (by kernel_rfl) (by simp) ?_
        refine AllReadyH.cons (o := { dst := some 84, op := Op.call { callee := Callee.value (Operand.func 22), args := #[Operand.tmp 83, Operand.const (Value.int IntKind.i64 0)], argTypes := #[33, 3] }, type := 3, pos := "law.go:248", after := #[{ on := 5, ground := Ground.data }, { on := 4, ground := Ground.chain }, { on := 4, ground := Ground.guard }], guard := some (4, false) }) rfl (fun K hK => ?_) AllReadyH.nil
        go_simp
        refine (hlook.out _ hH1).2.2.2.1.mono ?_
        rintro x w2 ⟨rfl, hbw2⟩
        have hH2 := hH1.trans (hbw2.mono hH1.size)
        refine hK.out _ _ hH2 (fun hHeld => ?_)
        clear hHeld hK K
        try simp only [Act.put, List.setIfInBounds_toArray, List.set_cons_zero, List.set_cons_succ]
        refine wpAnyH_take (i := 10) (oi := { dst := some 88, op := Op.binOp BinOp.neq 3 (Operand.tmp 84) (Operand.tmp 87) 3, type := 4, pos := "law.go:248", after := #[{ on := 6, ground := Ground.data }, { on := 9, ground := Ground.data }, { on := 4, ground := Ground.guard }], guard := some (4, false) }) (v := ?vv10_9) rfl (by kernel_rfl) (by kernel_rfl) (by kernel_rfl) (fun _ _ _ h => h) (Or.inl ⟨by rfl, ?hy10_9⟩) hH2 ?rest10_9
        case hy10_9 =>
          intro w hSw
          go_simp
          try with_reducible rfl
        try simp only [Act.put, List.setIfInBounds_toArray, List.set_cons_zero, List.set_cons_succ]
        refine wpAnyH_take (i := 11) (oi := { dst := some 89, op := Op.pick (Operand.tmp 82) (Operand.const (Value.bool true)) (Operand.tmp 88), type := 4, pos := "law.go:248", after := #[{ on := 4, ground := Ground.data }, { on := 10, ground := Ground.data }], guard := none }) (v := ?vv11_10) rfl (by kernel_rfl) (by kernel_rfl) (by kernel_rfl) (fun _ _ _ h => h) (Or.inl ⟨by rfl, ?hy11_10⟩) hH2 ?rest11_10
        case hy11_10 =>
          intro w hSw
          go_simp
          try with_reducible rfl
        try simp only [Act.put, List.setIfInBounds_toArray, List.set_cons_zero, List.set_cons_succ]
        refine wpAnyH_take (i := 12) (oi := { dst := some 90, op := Op.move (Operand.tmp 89), type := 4, pos := "law.go:248", after := #[{ on := 11, ground := Ground.data }, { on := 6, ground := Ground.chain }], guard := none }) (v := ?vv12_11) rfl (by kernel_rfl) (by kernel_rfl) (by kernel_rfl) (fun _ _ _ h => h) (Or.inl ⟨by rfl, ?hy12_11⟩) hH2 ?rest12_11
        case hy12_11 =>
          intro w hSw
          go_simp
          try with_reducible rfl
        try simp only [Act.put, List.setIfInBounds_toArray, List.set_cons_zero, List.set_cons_succ]
        refine wpAnyH_take (i := 13) (oi := { dst := some 91, op := Op.move (Operand.tmp 3), type := 33, pos := "law.go:248", after := #[{ on := 12, ground := Ground.guard }], guard := some (12, false) }) (v := ?vv13_12) rfl (by kernel_rfl) (by kernel_rfl) (by kernel_rfl) (fun _ _ _ h => h) (Or.inl ⟨by rfl, ?hy13_12⟩) hH2 ?rest13_12
        case hy13_12 =>
          intro w hSw
          go_simp
          try with_reducible rfl
        try simp only [Act.put, List.setIfInBounds_toArray, List.set_cons_zero, List.set_cons_succ]
        refine wpAnyH_take (i := 15) (oi := { dst := some 93, op := Op.move (Operand.tmp 4), type := 50, pos := "law.go:248", after := #[{ on := 12, ground := Ground.guard }], guard := some (12, false) }) (v := ?vv15_13) rfl (by kernel_rfl) (by kernel_rfl) (by kernel_rfl) (fun _ _ _ h => h) (Or.inl ⟨by rfl, ?hy15_13⟩) hH2 ?rest15_13
        case hy15_13 =>
          intro w hSw
          go_simp
          try with_reducible rfl
        try simp only [Act.put, List.setIfInBounds_toArray, List.set_cons_zero, List.set_cons_succ]
        refine wpAnyH_take (i := 16) (oi := { dst := some 94, op := Op.indexAddr 50 (Operand.tmp 93) (Operand.const (Value.int IntKind.i64 1)), type := 0, pos := "law.go:248", after := #[{ on := 15, ground := Ground.data }, { on := 12, ground := Ground.guard }], guard := some (12, false) }) (v := ?vv16_14) rfl (by kernel_rfl) (by kernel_rfl) (by kernel_rfl) (fun _ _ _ h => h) (Or.inl ⟨by rfl, ?hy16_14⟩) hH2 ?rest16_14
        case hy16_14 =>
          intro w hSw
          go_simp
          try with_reducible rfl
        try simp only [Act.put, List.setIfInBounds_toArray, List.set_cons_zero, List.set_cons_succ]
        refine wpAnyH_take (i := 17) (oi := { dst := some 95, op := Op.load 3 (Operand.tmp 94), type := 3, pos := "law.go:248", after := #[{ on := 16, ground := Ground.data }, { on := 12, ground := Ground.guard }], guard := some (12, false) }) (v := ?vv17_15) rfl (by kernel_rfl) (by kernel_rfl) (by kernel_rfl) (fun _ _ _ h => h) (Or.inl ⟨by rfl, ?hy17_15⟩) hH2 ?rest17_15
        case hy17_15 =>
          intro w hSw
          have y := (hlook.out w hSw).2.1
          go_simp
          try with_reducible rfl
        try simp only [Act.put, List.setIfInBounds_toArray, List.set_cons_zero, List.set_cons_succ]
        refine wpAnyH_ready (rs := [14]) (by kernel_rfl) (by simp) ?_
        refine AllReadyH.cons (o := { dst := some 92, op := Op.call { callee := Callee.value (Operand.func 22), args := #[Operand.tmp 91, Operand.const (Value.int IntKind.i64 1)], argTypes := #[33, 3] }, type := 3, pos := "law.go:248", after := #[{ on := 13, ground := Ground.data }, { on := 12, ground := Ground.chain }, { on := 12, ground := Ground.guard }], guard := some (12, false) }) rfl (fun K hK => ?_) AllReadyH.nil
        go_simp
        refine (hlook.out _ hH2).2.2.2.2.1.mono ?_
        rintro x w3 ⟨rfl, hbw3⟩
        have hH3 := hH2.trans (hbw3.mono hH2.size)
        refine hK.out _ _ hH3 (fun hHeld => ?_)
        clear hHeld hK K
        try simp only [Act.put, List.setIfInBounds_toArray, List.set_cons_zero, List.set_cons_succ]
        refine wpAnyH_take (i := 18) (oi := { dst := some 96, op := Op.binOp BinOp.neq 3 (Operand.tmp 92) (Operand.tmp 95) 3, type := 4, pos := "law.go:248", after := #[{ on := 14, ground := Ground.data }, { on := 17, ground := Ground.data }, { on := 12, ground := Ground.guard }], guard := some (12, false) }) (v := ?vv18_16) rfl (by kernel_rfl) (by kernel_rfl) (by kernel_rfl) (fun _ _ _ h => h) (Or.inl ⟨by rfl, ?hy18_16⟩) hH3 ?rest18_16
        case hy18_16 =>
          intro w hSw
          go_simp
          try with_reducible rfl
        try simp only [Act.put, List.setIfInBounds_toArray, List.set_cons_zero, List.set_cons_succ]
        refine wpAnyH_take (i := 19) (oi := { dst := some 97, op := Op.pick (Operand.tmp 90) (Operand.const (Value.bool true)) (Operand.tmp 96), type := 4, pos := "law.go:248", after := #[{ on := 12, ground := Ground.data }, { on := 18, ground := Ground.data }], guard := none }) (v := ?vv19_17) rfl (by kernel_rfl) (by kernel_rfl) (by kernel_rfl) (fun _ _ _ h => h) (Or.inl ⟨by rfl, ?hy19_17⟩) hH3 ?rest19_17
        case hy19_17 =>
          intro w hSw
          go_simp
          try with_reducible rfl
        try simp only [Act.put, List.setIfInBounds_toArray, List.set_cons_zero, List.set_cons_succ]
        refine wpAnyH_take (i := 20) (oi := { dst := some 98, op := Op.move (Operand.tmp 97), type := 4, pos := "law.go:248", after := #[{ on := 19, ground := Ground.data }, { on := 14, ground := Ground.chain }], guard := none }) (v := ?vv20_18) rfl (by kernel_rfl) (by kernel_rfl) (by kernel_rfl) (fun _ _ _ h => h) (Or.inl ⟨by rfl, ?hy20_18⟩) hH3 ?rest20_18
        case hy20_18 =>
          intro w hSw
          go_simp
          try with_reducible rfl
        try simp only [Act.put, List.setIfInBounds_toArray, List.set_cons_zero, List.set_cons_succ]
        refine wpAnyH_take (i := 21) (oi := { dst := some 99, op := Op.move (Operand.tmp 3), type := 33, pos := "law.go:248", after := #[{ on := 20, ground := Ground.guard }], guard := some (20, false) }) (v := ?vv21_19) rfl (by kernel_rfl) (by kernel_rfl) (by kernel_rfl) (fun _ _ _ h => h) (Or.inl ⟨by rfl, ?hy21_19⟩) hH3 ?rest21_19
        case hy21_19 =>
          intro w hSw
          go_simp
          try with_reducible rfl
        try simp only [Act.put, List.setIfInBounds_toArray, List.set_cons_zero, List.set_cons_succ]
        refine wpAnyH_take (i := 23) (oi := { dst := some 101, op := Op.move (Operand.tmp 6), type := 2, pos := "law.go:248", after := #[{ on := 20, ground := Ground.guard }], guard := some (20, false) }) (v := ?vv23_20) rfl (by kernel_rfl) (by kernel_rfl) (by kernel_rfl) (fun _ _ _ h => h) (Or.inl ⟨by rfl, ?hy23_20⟩) hH3 ?rest23_20
        case hy23_20 =>
          intro w hSw
          go_simp
          try with_reducible rfl
        try simp only [Act.put, List.setIfInBounds_toArray, List.set_cons_zero, List.set_cons_succ]
        refine wpAnyH_ready (rs := [22]) (by kernel_rfl) (by simp) ?_
        refine AllReadyH.cons (o := { dst := some 100, op := Op.call { callee := Callee.value (Operand.func 23), args := #[Operand.tmp 99], argTypes := #[33] }, type := 2, pos := "law.go:248", after := #[{ on := 21, ground := Ground.data }, { on := 20, ground := Ground.chain }, { on := 20, ground := Ground.guard }], guard := some (20, false) }) rfl (fun K hK => ?_) AllReadyH.nil
        go_simp
        refine (hlook.out _ hH3).2.2.2.2.2.1.mono ?_
        rintro x w4 ⟨rfl, hbw4⟩
        have hH4 := hH3.trans (hbw4.mono hH3.size)
        refine hK.out _ _ hH4 (fun hHeld => ?_)
        clear hHeld hK K
        try simp only [Act.put, List.setIfInBounds_toArray, List.set_cons_zero, List.set_cons_succ]
        refine wpAnyH_take (i := 24) (oi := { dst := some 102, op := Op.binOp BinOp.neq 2 (Operand.tmp 100) (Operand.tmp 101) 2, type := 4, pos := "law.go:248", after := #[{ on := 22, ground := Ground.data }, { on := 23, ground := Ground.data }, { on := 20, ground := Ground.guard }], guard := some (20, false) }) (v := ?vv24_21) rfl (by kernel_rfl) (by kernel_rfl) (by kernel_rfl) (fun _ _ _ h => h) (Or.inl ⟨by rfl, ?hy24_21⟩) hH4 ?rest24_21
        case hy24_21 =>
          intro w hSw
          go_simp
          try with_reducible rfl
        try simp only [Act.put, List.setIfInBounds_toArray, List.set_cons_zero, List.set_cons_succ]
        refine wpAnyH_take (i := 25) (oi := { dst := some 103, op := Op.pick (Operand.tmp 98) (Operand.const (Value.bool true)) (Operand.tmp 102), type := 4, pos := "law.go:248", after := #[{ on := 20, ground := Ground.data }, { on := 24, ground := Ground.data }], guard := none }) (v := ?vv25_22) rfl (by kernel_rfl) (by kernel_rfl) (by kernel_rfl) (fun _ _ _ h => h) (Or.inl ⟨by rfl, ?hy25_22⟩) hH4 ?rest25_22
        case hy25_22 =>
          intro w hSw
          go_simp
          try with_reducible rfl
        try simp only [Act.put, List.setIfInBounds_toArray, List.set_cons_zero, List.set_cons_succ]
        refine wpAnyH_done (by kernel_rfl) ?_ _
        have hnx := Lib.hid (hlook.out _ hH4).2.2.2.2.2.2
        clear hlook hHd hH1 hH2 hH3 hH4
        go_wp2_with fail
        go_roundw
        case rel => (repeat apply Exists.intro); first | exact ⟨⟨hil'.out, by go_num, rfl, rfl, h1k'.out, hnx⟩, rfl⟩ | exact ⟨hil'.out, by go_num, rfl, rfl, h1k'.out, hnx, rfl⟩ | exact ⟨hil'.out, by go_num, rfl, rfl, h1k'.out, hnx⟩
        case measure => have := hil'.out; simp [intOf]; omega
    · have hnz : ¬ ((i : Int) < (len : Int) ∧ (i : Int) < 1000) := by omega
      have haw : Hid (Calls Try.prog 9 #[] wr fun e w' => e = .returned (.bool true) ∧ Below w.heap.size w w') := by
        have hb := hM.out.b
        exact (awake_any12 wr).mono fun e w' hh => ⟨hh.1, hb.trans (hh.2.mono hb.size)⟩
      clear hM
      by_cases hil : i < len
      · have hz : (i : Int) < (len : Int) := by omega
        have hz2 : ¬ (i : Int) < 1000 := by omega
        clear hnz hgo
        go_wp2_with (go_at_call 9; refine haw.out.mono ?_; rintro e w' ⟨rfl, hb5⟩; have hb5' := Lib.hid hb5; clear hb5)
        go_ret
        exact ⟨rfl, hb5'.out⟩
      · have hz : ¬ (i : Int) < (len : Int) := by omega
        clear hnz hgo
        go_wp2_with (go_at_call 9; refine haw.out.mono ?_; rintro e w' ⟨rfl, hb5⟩; have hb5' := Lib.hid hb5; clear hb5)
        go_ret
        exact ⟨rfl, hb5'.out⟩
end Go.Proofs.Ytobfjfmaicmkdaa
