/-
  The program's checks of a model's starts.
-/
import Derived.Test.YtofkfajcibdneaaDoorOC
namespace Go.Proofs.YtofkfajcibdneaaDoor
open Go.ChangeShapes Go.WideShapes Go.ChangeAt Go.Shelf Go.RowKit Go.Lib Go.Sort Go.Deep
set_option linter.unusedVariables false
set_option linter.unusedSimpArgs false
set_option maxRecDepth 4000

set_option maxHeartbeats 8000000 in
set_option maxRecDepth 100000 in
theorem mdStartsC_any {w : World} {v : Mv} {M : Md} (h : Mds w v M) (hL : Laid13 w) : Calls Tryd.prog 52 #[v.val M] w fun e w' => ∃ u, e = .returned u ∧ Says (okStarts M) u ∧ Hid (Below w.heap.size w w') := by
  have mixed := mixed
  obtain ⟨pa, pl, pc, la, ll, lc, sa, sl, sc⟩ := v
  have hbx := Lib.hid h.box
  have hbW : Hid (Below w.heap.size w (w.alloc (.cells (Mv.cells ⟨pa, pl, pc, la, ll, lc, sa, sl, sc⟩ M) 27))) := (Below.refl _ w).alloc (Nat.le_refl _) _
  have hpl : Hid (M.progs.length = pl) := h.1.1
  have hsl : Hid (M.starts.length = sl) := h.2.2.1.1
  have hms : sl ≤ 9223372036854775807 := by have := h.2.2.1.2.1; have := h.2.2.1.2.2.1; unfold maxLen at *; dsimp only at *; omega
  obtain ⟨-, -, ⟨b3, hc0⟩, ⟨b4, ht0⟩, ⟨b5, hp0⟩, -⟩ := hL.below hbW.out
  have hc := Lib.hid hc0
  have ht := Lib.hid ht0
  have hp := Lib.hid hp0
  clear h hL hc0 ht0 hp0
  obtain ⟨q, hq⟩ : ∃ q, Hid (q = Says (okStarts M)) := ⟨_, Lib.hid rfl⟩
  rw [← hq.out]
  have hno : Hid (¬ okStarts M → ∀ t x, q (.iface t x)) := Lib.hid (fun hn t x => by rw [hq.out]; exact .inr ⟨hn, t, x, rfl⟩)
  have hyes : Hid (okStarts M → q .nilIface) := Lib.hid (fun hy => by rw [hq.out]; exact .inl ⟨hy, rfl⟩)
  clear hq
  simp only [Mv.val, Mv.cells] at hbx hbW hc ht hp ⊢
  go_enter Tryd.func52, Tryd.ntmps52
  go_upto_region 1 with fail
  generalize w.heap.size = B at hbx ⊢
  generalize w.alloc _ = W at *
  have c2 := hbx.out.c2
  dsimp only at c2
  by_cases g6 : 4096 < sl
  · have g6z : (4096 : Int) < (sl : Int) := by omega
    have hfin := Lib.hid (hno.out (fun e => by have := e.1; have := hsl.out; omega))
    have e3 := hc.out.2
    clear hno hyes
    go_wp2
    go_ret
    exact ⟨_, rfl, hfin.out _ _, hbW⟩
  have g6z : ¬ (4096 : Int) < (sl : Int) := by omega
  go_wp2
  clear c2
  go_loopw [13] (fun s13 wr => ∃ i : Nat, i ≤ sl ∧ s13 = .int .i64 i ∧ Hid (Below W.heap.size W wr) ∧ Hid (∀ j, j < i → sttMay M.progs.length (M.starts.getD j default))) (fun s13 _ => sl - (intOf s13).toNat)
  case atStart => exact ⟨0, Nat.zero_le _, rfl, Below.refl _ _, Lib.hid (fun j hj => by omega)⟩
  case round =>
    obtain ⟨k, hkl, rfl, hbr, hup⟩ := hrel
    by_cases hk : k < sl
    · have hkz : (k : Int) < (sl : Int) := by omega
      have hk' := Lib.hid hk
      have hwk : IntKind.i64.wrap ((k : Int) + 1) = (k : Int) + 1 := IntWalk.i64_in _ (by omega)
      obtain ⟨b, off, hsa, hst⟩ := (hbx.out.below hbr.out).2.2.2.1.get hk
      dsimp only at hsa
      subst hsa
      obtain ⟨s, hs⟩ : ∃ s, Hid (M.starts.getD k default = s) := ⟨_, Lib.hid rfl⟩
      rw [hs.out] at hst
      obtain ⟨hbl, x0, x1, x2⟩ := hst
      obtain ⟨dst, t, sv⟩ := s
      dsimp only at x0 x1 x2
      clear hk
      go_upto_region 6 with fail
      have hbox := Lib.hid (heap_alloc_new wr (.cells #[.int .i64 dst, .int .i64 t, .int .i64 sv] 56))
      have hb1 : Hid (Below W.heap.size W (wr.alloc (.cells #[.int .i64 dst, .int .i64 t, .int .i64 sv] 56))) := hbr.out.alloc hbr.out.size _
      generalize wr.heap.size = Bl at *
      generalize wr.alloc _ = W1 at *
      clear x0 x1 x2
      have hbx1 := Lib.hid (hbx.out.below hb1.out)
      have y0 := cell_of_block (o := 0) hbox.out rfl
      have y1 := cell_of_block (o := 1) hbox.out rfl
      have d0 := hbx1.out.c0
      have d1 := hbx1.out.c1
      have d2 := hbx1.out.c2
      have d3 := hbx1.out.c3
      have d4 := hbx1.out.c4
      have d5 := hbx1.out.c5
      dsimp only at d0 d1 d2
      have hip := Lib.hid (mdIsProc_any hbx1.out.2 dst)
      simp only [Mv.val, Mv.cells] at hip
      have hfb : Hid (Below w.heap.size w W1) := hbW.out.trans (hb1.out.mono hbW.out.size)
      by_cases g7 : 0 ≤ dst ∧ dst < (pl : Int)
      · rw [boolOf_true g7] at hip
        have g7' := Lib.hid g7
        clear g7
        go_upto_region 8 with (go_at_call 40; refine hip.out.mono ?_; rintro e w2 ⟨rfl, hb2⟩)
        have y3 := cell_of_block (o := 1) ((hb2.out.block Bl (Array.getElem?_eq_some_iff.1 hbox.out).1).trans hbox.out) rfl
        have hb3 : Hid (Below W.heap.size W w2) := hb1.out.trans (hb2.out.mono hb1.out.size)
        have hfb2 : Hid (Below w.heap.size w w2) := hbW.out.trans (hb3.out.mono hbW.out.size)
        have hvs := Lib.hid (vValid13 t w2)
        clear y0 y1 d0 d1 d2 d3 d4 d5 hip hbox hbx1
        by_cases g9 : validT t
        · rw [boolOf_true g9] at hvs
          have hup2 : Hid (∀ j, j < k + 1 → sttMay M.progs.length (M.starts.getD j default)) := Lib.hid (fun j hj => by
            by_cases e : j = k
            · subst e; rw [hs.out, hpl.out]; exact ⟨g7'.out, g9⟩
            · exact hup.out j (by omega))
          clear g9
          go_wp2_with (go_at_call 60; refine hvs.out.mono ?_; rintro e w3 ⟨rfl, hw3⟩; subst hw3)
          go_roundw
          case rel => (repeat apply Exists.intro); first | exact ⟨hk'.out, by go_num, hup2⟩ | exact ⟨hk'.out, by go_num, hb3, hup2⟩ | exact ⟨⟨hk'.out, by go_num, hb3, hup2⟩, rfl⟩
          case measure => have := hk'.out; simp [intOf]; omega
        · rw [boolOf_false g9] at hvs
          have hfin := Lib.hid (hno.out (fun ho => g9 (by
            have h2 := ho.2 k (by rw [hsl.out]; exact hk'.out)
            rw [hs.out] at h2
            exact h2.2)))
          have e4 := (ht.out.below hb3.out).2
          clear hno hyes g9
          go_wp2_with (go_at_call 60; refine hvs.out.mono ?_; rintro e w3 ⟨rfl, hw3⟩; subst hw3)
          go_ret
          exact ⟨_, rfl, hfin.out _ _, hfb2⟩
      · rw [boolOf_false g7] at hip
        have hfin := Lib.hid (hno.out (fun ho => g7 (by
          have h2 := ho.2 k (by rw [hsl.out]; exact hk'.out)
          rw [hs.out, hpl.out] at h2
          exact h2.1)))
        clear hno hyes g7
        go_wp2_with (go_at_call 40; refine hip.out.mono ?_; rintro e w2 ⟨rfl, hb2⟩; have e5 := ((hp.out.below hb1.out).below hb2.out).2; have hfb2 : Hid (Below w.heap.size w w2) := hfb.out.trans (hb2.out.mono hfb.out.size))
        go_ret
        exact ⟨_, rfl, hfin.out _ _, hfb2⟩
    · obtain rfl : sl = k := by omega
      have hkz : ¬ (sl : Int) < (sl : Int) := by omega
      have hfin := Lib.hid (hyes.out ⟨by rw [hsl.out]; omega, fun j hj => hup.out j (by rw [hsl.out] at hj; exact hj)⟩)
      have hb5 : Hid (Below w.heap.size w wr) := hbW.out.trans (hbr.out.mono hbW.out.size)
      clear hk hno hyes
      go_wp2
      go_ret
      exact ⟨_, rfl, hfin.out, hb5⟩
end Go.Proofs.YtofkfajcibdneaaDoor
