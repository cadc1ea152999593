/-
  The program's checks of a model's links.
-/
import Derived.Test.YtofkfajcibdneaaDoorOD
namespace Go.Proofs.YtofkfajcibdneaaDoor
open Go.ChangeShapes Go.WideShapes Go.ChangeAt Go.Shelf Go.RowKit Go.Lib Go.Sort Go.Deep
set_option linter.unusedVariables false
set_option linter.unusedSimpArgs false
set_option maxRecDepth 4000

theorem wayU_ge {ls : List Lk} {a b : Int} : ∀ i, wayU ls a b i = -1 ∨ ∃ k : Nat, k < i ∧ wayU ls a b i = k ∧ (ls.getD k default).src = a ∧ (ls.getD k default).dst = b
  | 0 => .inl rfl
  | i + 1 => by
    rw [wayU]
    split
    · next h => exact .inr ⟨i, by omega, rfl, h.2⟩
    · rcases wayU_ge (ls := ls) (a := a) (b := b) i with h | ⟨k, hk, h1, h2⟩
      · exact .inl h
      · exact .inr ⟨k, by omega, h1, h2⟩
theorem wayU_none {ls : List Lk} {a b : Int} {k : Nat} (h : ∀ j, j < k → ¬ ((ls.getD j default).src = a ∧ (ls.getD j default).dst = b)) : wayU ls a b k = -1 := by
  rcases wayU_ge (ls := ls) (a := a) (b := b) k with h1 | ⟨j, hj, -, h2⟩
  · exact h1
  · exact absurd h2 (h j hj)
/-- Link k's own pair is first met ahead of it, or at it. -/
theorem wayU_lt {ls : List Lk} {k : Nat} (hk : k < ls.length) : wayU ls (ls.getD k default).src (ls.getD k default).dst ls.length < (k : Int) ↔ ∃ j, j < k ∧ (ls.getD j default).src = (ls.getD k default).src ∧ (ls.getD j default).dst = (ls.getD k default).dst := by
  constructor
  · intro h
    rcases wayU_ge (ls := ls) (a := (ls.getD k default).src) (b := (ls.getD k default).dst) k with h1 | ⟨j, hj, -, h2⟩
    · rw [wayU_hit h1 hk rfl rfl] at h
      omega
    · exact ⟨j, hj, h2⟩
  · rintro ⟨j, hj, h2⟩
    rcases wayU_ge (ls := ls) (a := (ls.getD k default).src) (b := (ls.getD k default).dst) k with h1 | ⟨m, hm, h3, -⟩
    · exfalso
      rcases wayU_ge (ls := ls) (a := (ls.getD k default).src) (b := (ls.getD k default).dst) j with h4 | ⟨m, hm, h3, -⟩
      · have := wayU_hit h4 hj h2.1 h2.2
        omega
      · have := wayU_stay (ls := ls) (a := (ls.getD k default).src) (b := (ls.getD k default).dst) (i := j) (by omega) (k - j)
        rw [show j + (k - j) = k by omega] at this
        omega
    · have := wayU_stay (ls := ls) (a := (ls.getD k default).src) (b := (ls.getD k default).dst) (i := k) (by omega) (ls.length - k)
      rw [show k + (ls.length - k) = ls.length by omega] at this
      omega
set_option maxHeartbeats 8000000 in
set_option maxRecDepth 100000 in
theorem mdLinks_any {w : World} {v : Mv} {M : Md} (h : Mds w v M) (hL : Laid13 w) : Calls Tryd.prog 51 #[v.val M] w fun e w' => ∃ u, e = .returned u ∧ Says (okLinks M) u ∧ Hid (Below w.heap.size w w') := by
  have mixed := mixed
  obtain ⟨pa, pl, pc, la, ll, lc, sa, sl, sc⟩ := v
  have hbx := Lib.hid h.box
  have hbW : Hid (Below w.heap.size w (w.alloc (.cells (Mv.cells ⟨pa, pl, pc, la, ll, lc, sa, sl, sc⟩ M) 27))) := (Below.refl _ w).alloc (Nat.le_refl _) _
  have hpl : Hid (M.progs.length = pl) := h.1.1
  have hll : Hid (M.links.length = ll) := h.2.1.1
  have hml : ll ≤ 9223372036854775807 := by have := h.2.1.2.1; have := h.2.1.2.2.1; unfold maxLen at *; dsimp only at *; omega
  have hL1 := Lib.hid (hL.below hbW.out)
  clear h hL
  obtain ⟨q, hq⟩ : ∃ q, Hid (q = Says (okLinks M)) := ⟨_, Lib.hid rfl⟩
  rw [← hq.out]
  have hno : Hid (¬ okLinks M → ∀ t x, q (.iface t x)) := Lib.hid (fun hn t x => by rw [hq.out]; exact .inr ⟨hn, t, x, rfl⟩)
  have hyes : Hid (okLinks M → q .nilIface) := Lib.hid (fun hy => by rw [hq.out]; exact .inl ⟨hy, rfl⟩)
  clear hq
  simp only [Mv.val, Mv.cells] at hbx hbW hL1 ⊢
  go_enter Tryd.func51, Tryd.ntmps51
  go_upto_region 1 with fail
  generalize w.heap.size = B at hbx ⊢
  generalize w.alloc _ = W at *
  have c1 := hbx.out.c1
  dsimp only at c1
  by_cases g6 : 1024 < ll
  · have g6z : (1024 : Int) < (ll : Int) := by omega
    have hfin := Lib.hid (hno.out (fun e => by have := e.1; have := hll.out; omega))
    obtain ⟨-, -, ⟨b3, hc⟩, -⟩ := hL1.out
    have e3 := hc.2
    clear hno hyes hc
    go_wp2
    go_ret
    exact ⟨_, rfl, hfin.out _ _, hbW⟩
  have g6z : ¬ (1024 : Int) < (ll : Int) := by omega
  go_wp2
  clear c1
  go_loopw [13] (fun s13 wr => ∃ i : Nat, i ≤ ll ∧ s13 = .int .i64 i ∧ Hid (Below W.heap.size W wr) ∧ Hid (lksUpto M i)) (fun s13 _ => ll - (intOf s13).toNat)
  case atStart => exact ⟨0, Nat.zero_le _, rfl, Below.refl _ _, Lib.hid (fun j hj => by omega)⟩
  case round =>
    obtain ⟨k, hkl, rfl, hbr, hup⟩ := hrel
    by_cases hk : k < ll
    · have hkz : (k : Int) < (ll : Int) := by omega
      have hk' := Lib.hid hk
      have hwk : IntKind.i64.wrap ((k : Int) + 1) = (k : Int) + 1 := IntWalk.i64_in _ (by omega)
      obtain ⟨b, off, hla, hlk⟩ := (hbx.out.below hbr.out).2.2.1.get hk
      dsimp only at hla
      subst hla
      obtain ⟨l, hl⟩ : ∃ l, Hid (M.links.getD k default = l) := ⟨_, Lib.hid rfl⟩
      rw [hl.out] at hlk
      obtain ⟨hbl, x0, x1, x2, x3⟩ := hlk
      obtain ⟨src, dst, look, loose⟩ := l
      dsimp only at x0 x1 x2 x3
      clear hk
      go_upto_region 6 with fail
      have hbox := Lib.hid (heap_alloc_new wr (.cells #[.int .i64 src, .int .i64 dst, .int .i64 look, .bool loose] 43))
      have hb1 : Hid (Below W.heap.size W (wr.alloc (.cells #[.int .i64 src, .int .i64 dst, .int .i64 look, .bool loose] 43))) := hbr.out.alloc hbr.out.size _
      generalize wr.heap.size = Bl at *
      generalize wr.alloc _ = W1 at *
      clear x0 x1 x2 x3
      have hbad : Hid (∀ p : Prop, (lkMay pl ⟨src, dst, look, loose⟩ ∧ (∀ j, j < k → ¬ ((M.links.getD j default).src = src ∧ (M.links.getD j default).dst = dst)) → p) → (¬ p) → ∀ t x, q (.iface t x)) := Lib.hid (fun p h1 h2 => hno.out (fun ho => h2 (h1 (by
        have h3 := ho.2 k (by rw [hll.out]; exact hk'.out)
        rw [hl.out, hpl.out] at h3
        exact h3))))
      have hat : Hid (∀ w2, Below W1.heap.size W1 w2 → (MdBox w2 B ⟨pa, pl, pc, some ⟨b, off, none⟩, ll, lc, sa, sl, sc⟩ M ∧ w2.heap[Bl]? = some (.cells #[.int .i64 src, .int .i64 dst, .int .i64 look, .bool loose] 43 (0, 0))) ∧ Below W.heap.size W w2 ∧ Below w.heap.size w w2 ∧ Laid13 w2) := Lib.hid (fun w2 hb => by
        have h1 := hb1.out.trans (hb.mono hb1.out.size)
        exact ⟨⟨hbx.out.below h1, (hb.block Bl (Array.getElem?_eq_some_iff.1 hbox.out).1).trans hbox.out⟩, h1, hbW.out.trans (h1.mono hbW.out.size), hL1.out.below h1⟩)
      have hq1 := Lib.hid (hat.out W1 (Below.refl _ _))
      have y0 := cell_of_block (o := 0) hbox.out rfl
      have y1 := cell_of_block (o := 1) hbox.out rfl
      have d0 := hq1.out.1.1.c0
      have d1 := hq1.out.1.1.c1
      have d2 := hq1.out.1.1.c2
      have d3 := hq1.out.1.1.c3
      have d4 := hq1.out.1.1.c4
      have d5 := hq1.out.1.1.c5
      dsimp only at d0 d1 d2
      have hip := Lib.hid (mdIsProc_any hq1.out.1.1.2 src)
      simp only [Mv.val, Mv.cells] at hip
      by_cases g7 : 0 ≤ src ∧ src < (pl : Int)
      · rw [boolOf_true g7] at hip
        have g7' := Lib.hid g7
        clear g7
        have hip2 : Hid (∀ w2, Below W1.heap.size W1 w2 → Calls Tryd.prog 40 #[.agg #[.slice pa pl pc, .slice (some ⟨b, off, none⟩) ll lc, .slice sa sl sc, .int .u64 M.seed, .int .i64 M.last, .int .i64 M.bud], .int .i64 dst] w2 fun e w' => e = .returned (.bool (boolOf (0 ≤ dst ∧ dst < (pl : Int)))) ∧ Hid (Below w2.heap.size w2 w')) := Lib.hid (fun w2 hb => by
          have := mdIsProc_any (hat.out w2 hb).1.1.2 dst
          simpa only [Mv.val, Mv.cells] using this)
        by_cases g8 : 0 ≤ dst ∧ dst < (pl : Int)
        · rw [boolOf_true g8] at hip2
          have g8' := Lib.hid g8
          clear g8
          go_upto_region 8 with (go_at_call 40; first | (refine (hip2.out _ hb2.out).mono ?_; rintro e w3 ⟨rfl, hb3⟩) | (refine hip.out.mono ?_; rintro e w2 ⟨rfl, hb2⟩; have hq2 := Lib.hid (hat.out w2 hb2.out); have z0 := hq2.out.1.1.c0; have z1 := hq2.out.1.1.c1; have z2 := hq2.out.1.1.c2; have z3 := hq2.out.1.1.c3; have z4 := hq2.out.1.1.c4; have z5 := hq2.out.1.1.c5; dsimp only at z0 z1 z2; have u1 := cell_of_block (o := 1) hq2.out.1.2 rfl))
          have hb4 : Hid (Below W1.heap.size W1 w3) := hb2.out.trans (hb3.out.mono hb2.out.size)
          have hq3 := Lib.hid (hat.out w3 hb4.out)
          clear y0 y1 d0 d1 d2 d3 d4 d5 hip hip2 hq1 hq2 z0 z1 z2 z3 z4 z5 u1
          have y2 := cell_of_block (o := 2) hq3.out.1.2 rfl
          have hvs := Lib.hid (vValid13 look w3)
          have e4 : ∃ b4, w3.cell? ⟨4, 0, none⟩ = some (.iface 123 (.pointer (some b4))) := by obtain ⟨-, -, -, ⟨b4, ht⟩, -⟩ := hq3.out.2.2.2; exact ⟨b4, ht.2⟩
          obtain ⟨b4, e4⟩ := e4
          have hfb : Hid (Below w.heap.size w w3) := hq3.out.2.2.1
          by_cases g9 : look < 1
          · have hfin := Lib.hid (hbad.out (1 ≤ look) (fun hm => hm.1.2.2.1) (by omega))
            clear hno hyes hbad hvs
            go_wp2
            go_ret
            exact ⟨_, rfl, hfin.out _ _, hfb⟩
          by_cases g10 : validT look
          · rw [boolOf_true g10] at hvs
            have g10' := Lib.hid g10
            clear g10
            go_upto_region 10 with (go_at_call 60; refine hvs.out.mono ?_; rintro e w4 ⟨rfl, hw4⟩; subst hw4)
            have y0 := cell_of_block (o := 0) hq3.out.1.2 rfl
            have y1 := cell_of_block (o := 1) hq3.out.1.2 rfl
            have d0 := hq3.out.1.1.c0
            have d1 := hq3.out.1.1.c1
            have d2 := hq3.out.1.1.c2
            have d3 := hq3.out.1.1.c3
            have d4 := hq3.out.1.1.c4
            have d5 := hq3.out.1.1.c5
            dsimp only at d0 d1 d2
            have hway := Lib.hid (mdWay_any hq3.out.1.1.2 src dst)
            simp only [Mv.val, Mv.cells] at hway
            have hmay : Hid (lkMay pl ⟨src, dst, look, loose⟩) := Lib.hid ⟨g7'.out, g8'.out, by omega, g10'.out.2⟩
            have hlt2 := @wayU_lt M.links k (by rw [hll.out]; exact hk'.out)
            rw [hl.out] at hlt2
            have hlt3 := Lib.hid hlt2
            clear y2 e4 hvs g9 hlt2
            by_cases g11 : wayU M.links src dst M.links.length < (k : Int)
            · have hfin := Lib.hid (hbad.out (∀ j, j < k → ¬ ((M.links.getD j default).src = src ∧ (M.links.getD j default).dst = dst)) (fun hm => hm.2) (fun hn => by obtain ⟨j, hj, h2⟩ := hlt3.out.1 g11; exact hn j hj h2))
              generalize wayU M.links src dst M.links.length = z at *
              clear hno hyes hbad hlt3
              go_wp2_with (go_at_call 19; refine hway.out.mono ?_; rintro e w4 ⟨rfl, hb5⟩; have hq4 := Lib.hid (hat.out w4 (hb4.out.trans (hb5.out.mono hb4.out.size))); have e6 : ∃ b6, w4.cell? ⟨5, 0, none⟩ = some (.iface 123 (.pointer (some b6))) := (by obtain ⟨-, -, -, -, -, b6, ht⟩ := hq4.out.2.2.2; exact ⟨b6, ht.2⟩); obtain ⟨b6, e6⟩ := e6)
              go_ret
              exact ⟨_, rfl, hfin.out _ _, hq4.out.2.2.1⟩
            · have hup2 : Hid (lksUpto M (k + 1)) := Lib.hid (fun j hj => by
                by_cases e : j = k
                · subst e
                  rw [hl.out, hpl.out]
                  exact ⟨hmay.out, fun m hm h2 => g11 (hlt3.out.2 ⟨m, hm, h2⟩)⟩
                · exact hup.out j (by omega))
              generalize wayU M.links src dst M.links.length = z at *
              clear hno hyes hbad hlt3
              go_wp2_with (go_at_call 19; refine hway.out.mono ?_; rintro e w4 ⟨rfl, hb5⟩; have hb6 : Hid (Below W.heap.size W w4) := (hat.out w4 (hb4.out.trans (hb5.out.mono hb4.out.size))).2.1)
              go_roundw
              case rel => (repeat apply Exists.intro); first | exact ⟨hk'.out, by go_num, hup2⟩ | exact ⟨hk'.out, by go_num, hb6, hup2⟩ | exact ⟨⟨hk'.out, by go_num, hb6, hup2⟩, rfl⟩
              case measure => have := hk'.out; simp [intOf]; omega
          · rw [boolOf_false g10] at hvs
            have hfin := Lib.hid (hbad.out (validT look) (fun hm => ⟨by have := hm.1.2.2.1; dsimp only at this; omega, hm.1.2.2.2⟩) g10)
            clear hno hyes hbad g10
            go_wp2_with (go_at_call 60; refine hvs.out.mono ?_; rintro e w4 ⟨rfl, hw4⟩; subst hw4)
            go_ret
            exact ⟨_, rfl, hfin.out _ _, hfb⟩
        · rw [boolOf_false g8] at hip2
          have hfin := Lib.hid (hbad.out (0 ≤ dst ∧ dst < (pl : Int)) (fun hm => hm.1.2.1) g8)
          clear hno hyes hbad g8
          go_wp2_with (go_at_call 40; first | (refine (hip2.out _ hb2.out).mono ?_; rintro e w3 ⟨rfl, hb3⟩; have hq4 := Lib.hid (hat.out w3 (hb2.out.trans (hb3.out.mono hb2.out.size))); have e6 : ∃ b6, w3.cell? ⟨0, 0, none⟩ = some (.iface 123 (.pointer (some b6))) := (by obtain ⟨-, -, -, -, ⟨b6, ht⟩, -⟩ := hq4.out.2.2.2; exact ⟨b6, ht.2⟩); obtain ⟨b6, e6⟩ := e6) | (refine hip.out.mono ?_; rintro e w2 ⟨rfl, hb2⟩; have hq2 := Lib.hid (hat.out w2 hb2.out); have z0 := hq2.out.1.1.c0; have z1 := hq2.out.1.1.c1; have z2 := hq2.out.1.1.c2; have z3 := hq2.out.1.1.c3; have z4 := hq2.out.1.1.c4; have z5 := hq2.out.1.1.c5; dsimp only at z0 z1 z2; have u1 := cell_of_block (o := 1) hq2.out.1.2 rfl))
          go_ret
          exact ⟨_, rfl, hfin.out _ _, hq4.out.2.2.1⟩
      · rw [boolOf_false g7] at hip
        have hfin := Lib.hid (hbad.out (0 ≤ src ∧ src < (pl : Int)) (fun hm => hm.1.1) g7)
        clear hno hyes hbad g7
        go_wp2_with (go_at_call 40; refine hip.out.mono ?_; rintro e w2 ⟨rfl, hb2⟩; have hq4 := Lib.hid (hat.out w2 hb2.out); have e6 : ∃ b6, w2.cell? ⟨0, 0, none⟩ = some (.iface 123 (.pointer (some b6))) := (by obtain ⟨-, -, -, -, ⟨b6, ht⟩, -⟩ := hq4.out.2.2.2; exact ⟨b6, ht.2⟩); obtain ⟨b6, e6⟩ := e6)
        go_ret
        exact ⟨_, rfl, hfin.out _ _, hq4.out.2.2.1⟩
    · obtain rfl : ll = k := by omega
      have hkz : ¬ (ll : Int) < (ll : Int) := by omega
      have hfin := Lib.hid (hyes.out ⟨by rw [hll.out]; omega, fun j hj => hup.out j (by rw [hll.out] at hj; exact hj)⟩)
      have hb5 : Hid (Below w.heap.size w wr) := hbW.out.trans (hbr.out.mono hbW.out.size)
      clear hk hno hyes
      go_wp2
      go_ret
      exact ⟨_, rfl, hfin.out, hb5⟩
end Go.Proofs.YtofkfajcibdneaaDoor
