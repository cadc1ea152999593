/-
  The law of the first fault (tools/genor.py).
-/
import Derived.Test.YtofkfajcibdneaaDoorOQ
namespace Go.Proofs.YtofkfajcibdneaaDoor
open Go.ChangeShapes Go.WideShapes Go.ChangeAt Go.Shelf Go.RowKit Go.Lib Go.Sort Go.Deep
set_option linter.unusedVariables false
set_option linter.unusedSimpArgs false
set_option maxRecDepth 4000

theorem infoStt13 : (Tryd.prog.info? 56).map (fun i => (i.zero, i.size, i.bytes)) = some (some (.agg #[.int .i64 0, .int .i64 0, .int .i64 0]), 3, 24) := by kernel_rfl
theorem infoPr13 : (Tryd.prog.info? 33).map (fun i => (i.zero, i.size, i.bytes)) = some (some (.slice none 0 0), 1, 24) := by kernel_rfl
theorem lit_nil13 (w : World) : (Instr.buildSlice 23 0 #[]).run Tryd.prog w = .ok (.slice (some ⟨w.heap.size, 0, none⟩) 0 0) (w.alloc (.cells #[] 43)) := by kernel_rfl
section
variable {w w' : World} {e : TypeId} {base k l : Nat} {v : Value}
theorem Holds13.below {x : Option Addr} {m : Nat} {news : List Value} (h : Holds13 w x m news) (hb : Below w.heap.size w w') : Holds13 w' x m news :=
  ⟨h.1, fun ad e j u hj => by have h1 := h.2 ad e j u hj; rw [hb.cell (World.block_lt_of_cell? w _ h1)]; exact h1⟩
theorem own_snoc {α : Type} {f : α → List Value} {xs : List α} {x : α} (h : w.ownsRow base e k v (0 + l + 1) (([] ++ flatG f xs) ++ f x)) : w.ownsRow base e k v (l + 1) (flatG f (xs ++ [x])) := by
  rw [Nat.zero_add, List.nil_append] at h
  rw [flatG_append]
  have e1 : flatG f [x] = f x := by simp [flatG]
  rw [e1]
  exact h
theorem shape13 {n : Nat} {xs : List Value} (h : w.ownsRow base e k v n xs) : ∃ a c, v = .slice a n c := by
  rcases h.2 with ⟨rfl, rfl⟩ | ⟨g, cap, cur, rfl, -⟩
  · exact ⟨_, _, rfl⟩
  · exact ⟨_, _, rfl⟩
variable {a : Option Addr} {n c : Nat}
theorem Lks.of_row13 {ls : List Lk} (h : w.ownsRow base 43 4 (.slice a n c) n (flatG lkC ls)) : Lks w a n c ls := by
  obtain ⟨a2, c2, e1, h2⟩ := Lks.of_own h
  cases e1; exact h2
theorem Stts.of_row13 {ls : List Stt} (h : w.ownsRow base 56 3 (.slice a n c) n (flatG sttC ls)) : Stts w a n c ls := by
  obtain ⟨a2, c2, e1, h2⟩ := Stts.of_own h
  cases e1; exact h2
theorem Prs.of_row13 {hs : List Hd} {ps : List (List I)} (h : w.ownsRow base 33 1 (.slice a n c) n (flatG hdC hs)) (hh : Hds w hs ps) : Prs w a n c ps := by
  obtain ⟨a2, c2, e1, h2⟩ := Prs.of_own h hh
  cases e1; exact h2
end
theorem inss_99 {w : World} {g : Nat} (h : w.heap[g]? = some (.cells #[.int .i64 99, .int .i64 0, .int .i64 0, .int .i64 0] 41 (0, 0))) : Inss w (some ⟨g, 0, none⟩) 1 1 [⟨99, 0, 0, 0⟩] := by
  refine ⟨rfl, Nat.le_refl _, by unfold maxLen; omega, fun i hi => ?_, .inr ⟨g, 0, rfl, fun k hk => ?_⟩⟩
  · simp only [List.mem_cons, List.not_mem_nil, or_false] at hi
    subst hi
    exact ⟨by decide, by decide, by decide, by decide⟩
  · obtain rfl : k = 0 := by omega
    exact ⟨(Array.getElem?_eq_some_iff.1 h).1, cell_of_block h rfl, cell_of_block h rfl, cell_of_block h rfl, cell_of_block h rfl⟩
theorem head_new (w : World) (cs : Array Value) : ∀ j u, (hdC ⟨some ⟨w.heap.size, 0, none⟩, 1, 1⟩)[j]? = some u → ((w.alloc (.cells cs 41)).alloc (.cells #[.slice (some ⟨w.heap.size, 0, none⟩) 1 1] 33)).cell? ((⟨w.heap.size + 1, 0, none⟩ : Addr).add j) = some u := by
  intro j u hj
  have h := heap_alloc_new (w.alloc (.cells cs 41)) (.cells (hdC ⟨some ⟨w.heap.size, 0, none⟩, 1, 1⟩).toArray 33)
  rw [World.size_alloc] at h
  exact news_of13 h j u hj
set_option maxHeartbeats 16000000 in
set_option maxRecDepth 100000 in
theorem lawModelFaults {w : World} {v : Mv} {M : Md} (h : Mds w v M) (hL : Laid13 w) (a : Int) (ha : (Lit.int .u8 a).wf = true) : Calls Tryd.prog 7 #[v.val M, .int .u8 a] w fun e w' => e = .returned (.bool true) ∧ Below w.heap.size w w' := by
  have mixed := mixed
  obtain ⟨pa, pl, pc, la, ll, lc, sa, sl, sc⟩ := v
  have hb1 : Hid (Below w.heap.size w (w.alloc (.cells (Mv.cells ⟨pa, pl, pc, la, ll, lc, sa, sl, sc⟩ M) 27))) := (Below.refl _ w).alloc (Nat.le_refl _) _
  have hbx := Lib.hid h.box
  have hL1 := Lib.hid (hL.below hb1.out)
  have hmd := Lib.hid h
  have hL0 := Lib.hid hL
  have ha2 : 0 ≤ a ∧ a ≤ 255 := by simp [Lit.wf] at ha; exact ha
  clear h hL ha
  generalize hzz : checkM M = z
  have hz' := Lib.hid hzz
  clear hzz
  simp only [Mv.val, Mv.cells] at hb1 hbx hL1 ⊢
  go_enter Tryd.func7, Tryd.ntmps7
  go_upto_region 1 with fail
  generalize w.heap.size = B at hbx ⊢
  generalize w.alloc _ = W at *
  have d0 := hbx.out.c0
  have d1 := hbx.out.c1
  have d2 := hbx.out.c2
  have d3 := hbx.out.c3
  have d4 := hbx.out.c4
  have d5 := hbx.out.c5
  dsimp only at d0 d1 d2
  have k1 := Lib.hid (mdCheck_any hbx.out.2 hL1.out)
  simp only [Mv.val, Mv.cells] at k1
  rw [hz'.out] at k1
  by_cases hz : z = 0
  · subst hz
    go_upto_region 3 with (go_at_call 9; refine k1.out.mono ?_; rintro e w2 ⟨rfl, hb2⟩)
    have hbx2 := Lib.hid (hbx.out.below hb2.out)
    have hb20 := Lib.hid (hb1.out.trans (hb2.out.mono hb1.out.size))
    clear d0 d1 d2 d3 d4 d5 k1 hbx hb1 hb2 hL1
    have d0 := hbx2.out.c0
    have d1 := hbx2.out.c1
    have d2 := hbx2.out.c2
    have d3 := hbx2.out.c3
    have d4 := hbx2.out.c4
    have d5 := hbx2.out.c5
    dsimp only at d0 d1 d2
    go_upto_region 8 with fail
    have hX := Lib.hid (heap_alloc_new w2 (.cells #[.slice pa pl pc, .slice la ll lc, .slice sa sl sc, .int .u64 M.seed, .int .i64 M.last, .int .i64 M.bud] 27))
    have hb3 := Lib.hid (hb20.out.alloc hb20.out.size (.cells #[.slice pa pl pc, .slice la ll lc, .slice sa sl sc, .int .u64 M.seed, .int .i64 M.last, .int .i64 M.bud] 27))
    have hbx3 := Lib.hid (hbx2.out.below ((Below.refl _ w2).alloc (Nat.le_refl _) (.cells #[.slice pa pl pc, .slice la ll lc, .slice sa sl sc, .int .u64 M.seed, .int .i64 M.last, .int .i64 M.bud] 27)))
    have hwX := Lib.hid hb20.out.size
    clear d0 d1 d2 d3 d4 d5 hbx2 hb20
    generalize w2.alloc _ = W3 at *
    generalize w2.heap.size = X at hX hwX ⊢
    have hX3 : Hid (X < W3.heap.size) := Lib.hid (Array.getElem?_eq_some_iff.1 hX.out).1
    rcases (by omega : a % 6 = 0 ∨ a % 6 = 1 ∨ a % 6 = 2 ∨ a % 6 = 3 ∨ a % 6 = 4 ∨ a % 6 = 5) with hr | hr | hr | hr | hr | hr
    · rw [hr]
      have hfz : W3.frozen? ⟨X, 4, none⟩ = false := frozen_of_cells13 hX.out
      have hold := cell_of_block (o := 4) hX.out rfl
      have hks := KeptOff.set W3 ⟨X, 4, none⟩ (.int .i64 (-1))
      have hb4 : Hid (Below w.heap.size w (W3.setCell ⟨X, 4, none⟩ (.int .i64 (-1)))) := hb3.out.trans (hks.below (fun j _ e => by rw [show j = X from e]; exact hwX.out) hb3.out.size)
      have hm4 : Hid (MdBox (W3.setCell ⟨X, 4, none⟩ (.int .i64 (-1))) X ⟨pa, pl, pc, la, ll, lc, sa, sl, sc⟩ { M with last := -1 }) := Lib.hid ⟨Go.heap_setCell_same W3 X 4 _ _ (.int .i64 (-1)) hX.out, hmd.out.below hb4.out⟩
      have hL4 := Lib.hid (hL0.out.below hb4.out)
      have hck4 : Hid (checkM { M with last := -1 } = 1) := faultEnd hz'.out
      clear hks hbx3
      go_upto_region 23 with fail
      generalize W3.setCell _ _ = W4 at *
      clear hfz hold hX
      have k4 := Lib.hid (mdCheck_any hm4.out.2 hL4.out)
      rw [hck4.out] at k4
      simp only [Mv.val, Mv.cells] at k4
      have e0 := hm4.out.c0
      have e1 := hm4.out.c1
      have e2 := hm4.out.c2
      have e3 := hm4.out.c3
      have e4 := hm4.out.c4
      have e5 := hm4.out.c5
      dsimp only at e0 e1 e2 e3 e4 e5
      clear hm4 hck4
      go_wp2_with (first | (go_at_call 11; refine haw.out.mono ?_; rintro e w8 ⟨rfl, hb9⟩) | (go_at_call 9; refine k4.out.mono ?_; rintro e w7 ⟨rfl, hb7⟩; have hb8 := Lib.hid (hb4.out.trans (hb7.out.mono hb4.out.size)); have haw := Lib.hid (awake_any13 (hL4.out.below hb7.out))))
      go_ret
      exact ⟨rfl, hb8.out.trans (hb9.mono hb8.out.size)⟩
    · rw [hr]
      have hfz : W3.frozen? ⟨X, 5, none⟩ = false := frozen_of_cells13 hX.out
      have hold := cell_of_block (o := 5) hX.out rfl
      have hks := KeptOff.set W3 ⟨X, 5, none⟩ (.int .i64 (4097))
      have hb4 : Hid (Below w.heap.size w (W3.setCell ⟨X, 5, none⟩ (.int .i64 (4097)))) := hb3.out.trans (hks.below (fun j _ e => by rw [show j = X from e]; exact hwX.out) hb3.out.size)
      have hm4 : Hid (MdBox (W3.setCell ⟨X, 5, none⟩ (.int .i64 (4097))) X ⟨pa, pl, pc, la, ll, lc, sa, sl, sc⟩ { M with bud := 4097 }) := Lib.hid ⟨Go.heap_setCell_same W3 X 5 _ _ (.int .i64 (4097)) hX.out, hmd.out.below hb4.out⟩
      have hL4 := Lib.hid (hL0.out.below hb4.out)
      have hck4 : Hid (checkM { M with bud := 4097 } = 1) := faultBud hz'.out
      clear hks hbx3
      go_upto_region 23 with fail
      generalize W3.setCell _ _ = W4 at *
      clear hfz hold hX
      have k4 := Lib.hid (mdCheck_any hm4.out.2 hL4.out)
      rw [hck4.out] at k4
      simp only [Mv.val, Mv.cells] at k4
      have e0 := hm4.out.c0
      have e1 := hm4.out.c1
      have e2 := hm4.out.c2
      have e3 := hm4.out.c3
      have e4 := hm4.out.c4
      have e5 := hm4.out.c5
      dsimp only at e0 e1 e2 e3 e4 e5
      clear hm4 hck4
      go_wp2_with (first | (go_at_call 11; refine haw.out.mono ?_; rintro e w8 ⟨rfl, hb9⟩) | (go_at_call 9; refine k4.out.mono ?_; rintro e w7 ⟨rfl, hb7⟩; have hb8 := Lib.hid (hb4.out.trans (hb7.out.mono hb4.out.size)); have haw := Lib.hid (awake_any13 (hL4.out.below hb7.out))))
      go_ret
      exact ⟨rfl, hb8.out.trans (hb9.mono hb8.out.size)⟩
    · rw [hr]
      obtain ⟨i0, hi0, hz0, hz1, hz2⟩ := info_parts13 infoPr13
      have hzA := Lib.hid ((Below.refl _ W3).alloc (Nat.le_refl _) (.cells #[] 33))
      obtain ⟨hs, hhs0, hhd0⟩ := hmd.out.1.heads
      have hhd := Lib.hid (hhd0.below (hb3.out.trans (hzA.out.mono hb3.out.size)))
      have hln : Hid (M.progs.length = pl) := hmd.out.1.1
      have hsm : Hid (pl ≤ 16) := Lib.hid (by have := (checkM_zero hz'.out).1.1.2; have := hln.out; omega)
      have hbs : Hid (W3.heap.size ≤ W3.heap.size) := Nat.le_refl _
      have hhs := Lib.hid hhs0
      have p0 := (hbx3.out.below hzA.out).c0
      have p1 := (hbx3.out.below hzA.out).c1
      have p2 := (hbx3.out.below hzA.out).c2
      dsimp only at p0 p1 p2 hhd
      clear hbx3 hhd0 hhs0 hzA
      go_upto_region 15 with (first | (at_builtin; refine wpList_append13 rfl (.tmp 33) (.tmp 36) 22 rfl W3.heap.size i0 _ 24 Tryd.underlying22 hi0 hz0 hz1 hz2 rfl (by omega) rfl hr5.out (some ⟨w5.heap.size + 1, 0, none⟩) 1 1 (hdC ⟨some ⟨w5.heap.size, 0, none⟩, 1, 1⟩) (by first | rfl | simp) rfl ⟨fun e => (by cases e), fun ad e j u hj => (by cases e; exact hn5.out j u hj)⟩ (hdC_one _) (by have := hsm.out; unfold maxLen; omega) (by have := hsm.out; omega) hs5.out ?_; intro v2 w6 r3 r4; have hb6 := Lib.hid (hb5.out.grown r4.out hs5.out (fun k hk => (ho5.out k hk).1)); have hni6 := Lib.hid ((r4.out.block w5.heap.size (Array.getElem?_eq_some_iff.1 hni.out).1 (fun e => by have h1 := (ho5.out _ e.symm).2; omega)).trans hni.out); obtain ⟨a2, c2, rfl⟩ := shape13 (own_snoc r3.out); have hr6 := Lib.hid (own_snoc r3.out); have hX6 := Lib.hid ((hb6.out.block X hX3.out).trans hX.out); have hc6 := cell_of_block (o := 0) hX6.out rfl; have hf6 : w6.frozen? ⟨X, 0, none⟩ = false := frozen_of_cells13 hX6.out; have hne6 : Hid ((Value.slice a2 (pl + 1) c2).ownBlock ≠ some X) := Lib.hid (fun e => by have h1 := (hr6.out.lt X e).1; have h2 := hX3.out; have h3 := hbs.out; omega); clear r3 r4) | (at_builtin; refine wpList_append13 rfl (.tmp 30) (.tmp 32) 22 rfl W3.heap.size i0 _ 24 Tryd.underlying22 hi0 hz0 hz1 hz2 rfl (by omega) rfl (World.ownsRow_made W3 #[] 0 (Nat.le_refl _) (Nat.zero_le _) (by simp)) pa pl pc (flatG hdC hs) rfl (by rw [flatG_len hdC_len, hhs.out.1, hln.out]) hhd.out (flatG_one hdC_one _) (by have := hsm.out; unfold maxLen; omega) (by have := hsm.out; omega) (by simp) ?_; intro v1 w5 r1 r2; have hr5 := Lib.hid ((r1.out.alloc (.cells #[.int .i64 99, .int .i64 0, .int .i64 0, .int .i64 0] 41)).alloc (.cells #[.slice (some ⟨w5.heap.size, 0, none⟩) 1 1] 33)); have hb50 := Lib.hid ((((Below.refl _ W3).alloc (Nat.le_refl _) (.cells #[] 33)).grown r2.out (by simp) (fun k hk => by have h1 : some W3.heap.size = some k := hk; injection h1 with h1; omega)).alloc (by have := r2.out.size; simp at this; omega) (.cells #[.int .i64 99, .int .i64 0, .int .i64 0, .int .i64 0] 41)); have hb5 := Lib.hid (hb50.out.alloc hb50.out.size (.cells #[.slice (some ⟨w5.heap.size, 0, none⟩) 1 1] 33)); have hni := Lib.hid ((((Below.refl _ _).alloc (Nat.le_refl _) (.cells #[.slice (some ⟨w5.heap.size, 0, none⟩) 1 1] 33)).block w5.heap.size (Array.getElem?_eq_some_iff.1 (heap_alloc_new w5 (.cells #[.int .i64 99, .int .i64 0, .int .i64 0, .int .i64 0] 41))).1).trans (heap_alloc_new w5 (.cells #[.int .i64 99, .int .i64 0, .int .i64 0, .int .i64 0] 41))); have hn5 := Lib.hid (head_new w5 #[.int .i64 99, .int .i64 0, .int .i64 0, .int .i64 0]); have hs5 := Lib.hid hb5.out.size; have ho5 := Lib.hid (r1.out.lt); have hXn : Hid (w5.heap.size ≠ X) := Lib.hid (by have := r2.out.size; have := hX3.out; simp at *; omega); clear r1 r2))
      have hks := KeptOff.set w6 ⟨X, 0, none⟩ (.slice a2 (pl + 1) c2)
      have hb7 := Lib.hid (hb3.out.trans (hb6.out.mono hb3.out.size))
      have hb4 : Hid (Below w.heap.size w (w6.setCell ⟨X, 0, none⟩ (.slice a2 (pl + 1) c2))) := hb7.out.trans (hks.below (fun j _ e => by rw [show j = X from e]; exact hwX.out) hb7.out.size)
      have hm4 : Hid (MdBox (w6.setCell ⟨X, 0, none⟩ (.slice a2 (pl + 1) c2)) X ⟨a2, pl + 1, c2, la, ll, lc, sa, sl, sc⟩ { M with progs := M.progs ++ [[⟨99, 0, 0, 0⟩]] }) := by
        have hmw := hmd.out.below hb4.out
        have hr7 := ownsRow_setCell_other hr6.out (a := ⟨X, 0, none⟩) hne6.out (.slice a2 (pl + 1) c2)
        have hrow := Prs.of_row13 hr7 ((hhs.out.below hb4.out).snoc (d := ⟨some ⟨w5.heap.size, 0, none⟩, 1, 1⟩) (inss_99 ((Below.heap_setCell w6 ⟨X, 0, none⟩ _ w5.heap.size hXn.out).trans hni6.out)))
        exact Lib.hid ⟨Go.heap_setCell_same w6 X 0 _ _ (.slice a2 (pl + 1) c2) hX6.out, ⟨hrow, hmw.2.1, hmw.2.2.1, hmw.2.2.2⟩⟩
      have hL4 := Lib.hid (hL0.out.below hb4.out)
      clear hks
      generalize w6.setCell _ _ = W4 at *
      have e0 := hm4.out.c0
      have e1 := hm4.out.c1
      have e2 := hm4.out.c2
      have e3 := hm4.out.c3
      have e4 := hm4.out.c4
      have e5 := hm4.out.c5
      dsimp only at e0 e1 e2 e3 e4 e5
      by_cases hq : 16 < pl + 1
      · have hq1 : (16 : Int) < (pl : Int) + 1 := by omega
        have hq2 : (16 : Int) < ((pl + 1 : Nat) : Int) := by omega
        have hck4 : Hid (checkM { M with progs := M.progs ++ [[⟨99, 0, 0, 0⟩]] } = 1) := faultProgMany hz'.out (by rw [hln.out]; exact hq)
        go_upto_region 23 with fail
        clear e0 e1 e2 e3 e4 e5
        have k4 := Lib.hid (mdCheck_any hm4.out.2 hL4.out)
        rw [hck4.out] at k4
        simp only [Mv.val, Mv.cells] at k4
        have e0 := hm4.out.c0
        have e1 := hm4.out.c1
        have e2 := hm4.out.c2
        have e3 := hm4.out.c3
        have e4 := hm4.out.c4
        have e5 := hm4.out.c5
        dsimp only at e0 e1 e2 e3 e4 e5
        clear hm4 hck4
        go_wp2_with (first | (go_at_call 11; refine haw.out.mono ?_; rintro e w8 ⟨rfl, hb9⟩) | (go_at_call 9; refine k4.out.mono ?_; rintro e w7 ⟨rfl, hb7⟩; have hb8 := Lib.hid (hb4.out.trans (hb7.out.mono hb4.out.size)); have haw := Lib.hid (awake_any13 (hL4.out.below hb7.out))))
        go_ret
        exact ⟨rfl, hb8.out.trans (hb9.mono hb8.out.size)⟩
      · have hq1 : ¬ (16 : Int) < (pl : Int) + 1 := by omega
        have hq2 : ¬ (16 : Int) < ((pl + 1 : Nat) : Int) := by omega
        have hck4 : Hid (checkM { M with progs := M.progs ++ [[⟨99, 0, 0, 0⟩]] } = 130) := faultProg hz'.out (by rw [hln.out]; exact hq)
        go_upto_region 23 with fail
        clear e0 e1 e2 e3 e4 e5
        have k4 := Lib.hid (mdCheck_any hm4.out.2 hL4.out)
        rw [hck4.out] at k4
        simp only [Mv.val, Mv.cells] at k4
        have e0 := hm4.out.c0
        have e1 := hm4.out.c1
        have e2 := hm4.out.c2
        have e3 := hm4.out.c3
        have e4 := hm4.out.c4
        have e5 := hm4.out.c5
        dsimp only at e0 e1 e2 e3 e4 e5
        clear hm4 hck4
        go_wp2_with (first | (go_at_call 11; refine haw.out.mono ?_; rintro e w8 ⟨rfl, hb9⟩) | (go_at_call 9; refine k4.out.mono ?_; rintro e w7 ⟨rfl, hb7⟩; have hb8 := Lib.hid (hb4.out.trans (hb7.out.mono hb4.out.size)); have haw := Lib.hid (awake_any13 (hL4.out.below hb7.out))))
        go_ret
        exact ⟨rfl, hb8.out.trans (hb9.mono hb8.out.size)⟩
    · rw [hr]
      obtain ⟨i0, hi0, hz0, hz1, hz2⟩ := info_parts13 infoLk13
      have hln : Hid (M.links.length = ll) := hmd.out.2.1.1
      have hpn : Hid (M.progs.length = pl) := hmd.out.1.1
      have hsm : Hid (ll ≤ 4096) := Lib.hid (by have := (checkM_zero hz'.out).2.2.1.1; have := hln.out; omega)
      have hlk : Hid (∀ W', Below W3.heap.size W3 W' → (W'.cell? ⟨B, 1, none⟩ = some (.slice la ll lc) ∧ W'.cell? ⟨B, 0, none⟩ = some (.slice pa pl pc))) := Lib.hid (fun W' hb => ⟨(hbx3.out.below hb).c1, (hbx3.out.below hb).c0⟩)
      have hhd : Hid (∀ W', Below W3.heap.size W3 W' → Holds13 W' la ll (flatG lkC M.links)) := Lib.hid (fun W' hb => (hmd.out.below (hb3.out.trans (hb.mono hb3.out.size))).2.1.holds)
      clear hbx3
      go_upto_region 18 with fail
      refine wp_region_Z (fun W => W.cell? ⟨B, 1, none⟩ = some (.slice la ll lc) ∧ W.cell? ⟨B, 0, none⟩ = some (.slice pa pl pc)) 11 (by kernel_rfl) ?_
      have hdr : Hid (Below W3.heap.size W3 W3.drew) := (Below.refl _ W3).drew
      generalize W3.drew = Wd at *
      have hbs : Hid (W3.heap.size ≤ Wd.heap.size) := hdr.out.size
      have hS0 := hlk.out Wd hdr.out
      have hdZ := Lib.hid (hdr.out.alloc hdr.out.size (.cells #[] 43))
      have hdL := Lib.hid (hdr.out.alloc hdr.out.size (.cells (lkC ⟨(pl : Int), 0, 1, false⟩).toArray 43))
      have hdZL := Lib.hid (hdZ.out.alloc hdZ.out.size (.cells (lkC ⟨(pl : Int), 0, 1, false⟩).toArray 43))
      have hdLZ := Lib.hid (hdL.out.alloc hdL.out.size (.cells #[] 43))
      have hSZ := hlk.out _ hdZ.out
      have hSL := hlk.out _ hdL.out
      have hSZL := hlk.out _ hdZL.out
      have hSLZ := hlk.out _ hdLZ.out
      refine wpAnyZ_take (i := 1) (oi := { dst := some 46, op := Op.fieldAddr 27 (Operand.tmp 2) 1, type := 0, pos := "law.go:115", after := #[], guard := none }) (v := ?zv1_1) rfl (by kernel_rfl) (by kernel_rfl) (by kernel_rfl) (fun _ _ _ h => h) (by decide) (Or.inl ⟨by rfl, ?zy1_1⟩) (fun _ => hS0) ?zrest1_1
      case zy1_1 =>
        intro w _
        go_simp
        try with_reducible rfl
      try simp only [Act.put, List.setIfInBounds_toArray, List.set_cons_zero, List.set_cons_succ]
      refine wpAnyZ_load (i := 2) (oi := { dst := some 47, op := Op.load 23 (Operand.tmp 46), type := 23, pos := "law.go:115", after := #[{ on := 1, ground := Ground.data }], guard := none }) (v := ?zv2_2) rfl (by kernel_rfl) (by kernel_rfl) (by kernel_rfl) (fun _ _ _ h => h) (by decide) (by kernel_rfl) (by kernel_rfl) (Or.inl ⟨by rfl, ?zy2_2⟩) hS0 ?zrest2_2
      case zy2_2 =>
        intro w hSw
        have c := hSw.1
        go_simp
        try with_reducible rfl
      try simp only [Act.put, List.setIfInBounds_toArray, List.set_cons_zero, List.set_cons_succ]
      refine wpAnyZ_take (i := 4) (oi := { dst := some 49, op := Op.fieldAddr 27 (Operand.tmp 2) 0, type := 0, pos := "law.go:115", after := #[], guard := none }) (v := ?zv4_3) rfl (by kernel_rfl) (by kernel_rfl) (by kernel_rfl) (fun _ _ _ h => h) (by decide) (Or.inl ⟨by rfl, ?zy4_3⟩) (fun _ => hS0) ?zrest4_3
      case zy4_3 =>
        intro w _
        go_simp
        try with_reducible rfl
      try simp only [Act.put, List.setIfInBounds_toArray, List.set_cons_zero, List.set_cons_succ]
      refine wpAnyZ_load (i := 5) (oi := { dst := some 50, op := Op.load 22 (Operand.tmp 49), type := 22, pos := "law.go:115", after := #[{ on := 4, ground := Ground.data }], guard := none }) (v := ?zv5_4) rfl (by kernel_rfl) (by kernel_rfl) (by kernel_rfl) (fun _ _ _ h => h) (by decide) (by kernel_rfl) (by kernel_rfl) (Or.inl ⟨by rfl, ?zy5_4⟩) hS0 ?zrest5_4
      case zy5_4 =>
        intro w hSw
        have c := hSw.2
        go_simp
        try with_reducible rfl
      try simp only [Act.put, List.setIfInBounds_toArray, List.set_cons_zero, List.set_cons_succ]
      refine wpAnyZ_take (i := 6) (oi := { dst := some 51, op := Op.call { callee := Callee.builtin Builtin.len, args := #[Operand.tmp 50], argTypes := #[22] }, type := 3, pos := "law.go:115", after := #[{ on := 5, ground := Ground.data }], guard := none }) (v := ?zv6_5) rfl (by kernel_rfl) (by kernel_rfl) (by kernel_rfl) (fun _ _ _ h => h) (by decide) (Or.inl ⟨by rfl, ?zy6_5⟩) (fun _ => hS0) ?zrest6_5
      case zy6_5 =>
        intro w _
        go_simp
        try with_reducible rfl
      try simp only [Act.put, List.setIfInBounds_toArray, List.set_cons_zero, List.set_cons_succ]
      refine wpAnyZ_take (i := 7) (oi := { dst := some 52, op := Op.build 43 #[(0, Operand.tmp 51), (2, Operand.const (Value.int IntKind.i64 1))], type := 43, pos := "law.go:115", after := #[{ on := 6, ground := Ground.data }], guard := none }) (v := ?zv7_6) rfl (by kernel_rfl) (by kernel_rfl) (by kernel_rfl) (fun _ _ _ h => h) (by decide) (Or.inl ⟨by rfl, ?zy7_6⟩) (fun _ => hS0) ?zrest7_6
      case zy7_6 =>
        intro w _
        go_simp
        try with_reducible rfl
      try simp only [Act.put, List.setIfInBounds_toArray, List.set_cons_zero, List.set_cons_succ]
      refine wpAnyZ_ready (rs := [0, 8]) (by kernel_rfl) (by simp) ?_
      refine AllReadyZ.cons (o := { dst := some 45, op := Op.buildSlice 23 0 #[], type := 23, pos := "law.go:115", after := #[], guard := none }) rfl (fun K hK => ?_) ?_
      · skip
        refine step_buildSlice13 (by rfl) 23 0 #[] (by rfl) #[] (by simp) (lit_nil13 (Wd)) ?_
        refine hK.out _ _ (fun _ => hSZ) ?_
        clear hK K
        try simp only [Act.put, List.setIfInBounds_toArray, List.set_cons_zero, List.set_cons_succ]
        refine wpAnyZ_ready (rs := [3, 8]) (by kernel_rfl) (by simp) ?_
        refine AllReadyZ.cons (o := { dst := some 48, op := Op.call { callee := Callee.builtin Builtin.append, args := #[Operand.tmp 45, Operand.tmp 47], argTypes := #[23, 23] }, type := 23, pos := "law.go:115", after := #[{ on := 0, ground := Ground.data }, { on := 2, ground := Ground.data }], guard := none }) rfl (fun K hK => ?_) ?_
        · skip
          refine step_append13 (by rfl) (.tmp 45) (.tmp 47) 23 (by rfl) Wd.heap.size i0 _ 32 Tryd.underlying23 hi0 hz0 hz1 hz2 rfl (by omega) (by rfl) (World.ownsRow_made Wd #[] 0 (Nat.le_refl _) (Nat.zero_le _) (by simp)) la ll lc (flatG lkC M.links) (by rfl) (by rw [flatG_len lkC_len, hln.out]) (hhd.out _ hdZ.out) (flatG_one lkC_one _) (by have := hsm.out; unfold maxLen; omega) (by have := hsm.out; omega) (by simp; (try omega)) ?_
          intro v1 w5 r1 r2
          have hb5 := Lib.hid (hdZ.out.grown r2.out hdZ.out.size (fun k hk => by have h1 := hbs.out; simp [Value.ownBlock] at hk; (try rw [World.size_alloc] at hk); omega))
          have hS5 := hlk.out w5 hb5.out
          refine hK.out _ _ (fun _ => hS5) ?_
          clear hK K
          try simp only [Act.put, List.setIfInBounds_toArray, List.set_cons_zero, List.set_cons_succ]
          have hr5 := Lib.hid (r1.out.alloc (.cells (lkC ⟨(pl : Int), 0, 1, false⟩).toArray 43))
          have hb58 := Lib.hid (hb5.out.alloc hb5.out.size (.cells (lkC ⟨(pl : Int), 0, 1, false⟩).toArray 43))
          have hS58 := hlk.out _ hb58.out
          have hn5 := Lib.hid (heap_alloc_new w5 (.cells (lkC ⟨(pl : Int), 0, 1, false⟩).toArray 43))
          have ho5 := Lib.hid r1.out.lt
          have hs5 := Lib.hid (show Wd.heap.size ≤ (w5.alloc (.cells (lkC ⟨(pl : Int), 0, 1, false⟩).toArray 43)).heap.size by have := r2.out.size; simp at *; omega)
          clear r1 r2
          refine wpAnyZ_ready (rs := [8]) (by kernel_rfl) (by simp) ?_
          refine AllReadyZ.cons (o := { dst := some 53, op := Op.buildSlice 23 1 #[(0, Operand.tmp 52)], type := 23, pos := "law.go:115", after := #[{ on := 7, ground := Ground.data }], guard := none }) rfl (fun K hK => ?_) AllReadyZ.nil
          refine step_buildSlice13 (by rfl) 23 1 #[(0, .tmp 52)] (by rfl) #[(0, .agg (lkC ⟨(pl : Int), 0, 1, false⟩).toArray)] (by simp only [List.map_toArray, List.map_cons, List.map_nil]; rfl) (lit_lk ⟨(pl : Int), 0, 1, false⟩ (w5)) ?_
          refine hK.out _ _ (fun _ => hS58) ?_
          clear hK K
          try simp only [Act.put, List.setIfInBounds_toArray, List.set_cons_zero, List.set_cons_succ]
          refine wpAnyZ_ready (rs := [9]) (by kernel_rfl) (by simp) ?_
          refine AllReadyZ.cons (o := { dst := some 54, op := Op.call { callee := Callee.builtin Builtin.append, args := #[Operand.tmp 48, Operand.tmp 53], argTypes := #[23, 23] }, type := 23, pos := "law.go:115", after := #[{ on := 3, ground := Ground.data }, { on := 8, ground := Ground.data }, { on := 3, ground := Ground.chain }], guard := none }) rfl (fun K hK => ?_) AllReadyZ.nil
          refine step_append13 (by rfl) (.tmp 48) (.tmp 53) 23 (by rfl) Wd.heap.size i0 _ 32 Tryd.underlying23 hi0 hz0 hz1 hz2 rfl (by omega) (by rfl) hr5.out (some ⟨w5.heap.size, 0, none⟩) 1 1 (lkC ⟨(pl : Int), 0, 1, false⟩) (by rfl) (by rfl) ⟨fun e => (by cases e), fun ad e j u hj => (by cases e; exact news_of13 hn5.out j u hj)⟩ (lkC_one _) (by have := hsm.out; unfold maxLen; omega) (by have := hsm.out; omega) hs5.out ?_
          intro v2 w6 r3 r4
          have hb6 := Lib.hid (hb58.out.grown r4.out hb58.out.size (fun k hk => Nat.le_trans hbs.out (ho5.out k hk).1))
          have hS6 := hlk.out w6 hb6.out
          obtain ⟨a2, c2, rfl⟩ := shape13 (own_snoc r3.out); have hr6 := Lib.hid (own_snoc r3.out); have hX6 := Lib.hid ((hb6.out.block X hX3.out).trans hX.out); have hc6 := cell_of_block (o := 1) hX6.out rfl; have hf6 : w6.frozen? ⟨X, 1, none⟩ = false := frozen_of_cells13 hX6.out; have hne6 : Hid ((Value.slice a2 (ll + 1) c2).ownBlock ≠ some X) := Lib.hid (fun e => by have h1 := (hr6.out.lt X e).1; have h2 := hX3.out; have h3 := hbs.out; omega); clear r3 r4
          refine hK.out _ _ (fun _ => hS6) ?_
          clear hK K
          try simp only [Act.put, List.setIfInBounds_toArray, List.set_cons_zero, List.set_cons_succ]
          refine wpAnyZ_take (i := 10) (oi := { dst := some 55, op := Op.fieldAddr 27 (Operand.tmp 5) 1, type := 0, pos := "law.go:115", after := #[{ on := 0, ground := Ground.phase }, { on := 1, ground := Ground.phase }, { on := 2, ground := Ground.phase }, { on := 3, ground := Ground.phase }, { on := 4, ground := Ground.phase }, { on := 5, ground := Ground.phase }, { on := 6, ground := Ground.phase }, { on := 7, ground := Ground.phase }, { on := 8, ground := Ground.phase }, { on := 9, ground := Ground.phase }], guard := none }) (v := ?zv10_7) rfl (by kernel_rfl) (by kernel_rfl) (by kernel_rfl) (fun _ _ _ h => h) (by decide) (Or.inl ⟨by rfl, ?zy10_7⟩) (fun _ => hS6) ?zrest10_7
          case zy10_7 =>
            intro w _
            go_simp
            try with_reducible rfl
          try simp only [Act.put, List.setIfInBounds_toArray, List.set_cons_zero, List.set_cons_succ]
          refine wpAnyZ_ready (rs := [11]) (by kernel_rfl) (by simp) ?_
          refine AllReadyZ.cons (o := { dst := none, op := Op.store 23 (Operand.tmp 55) (Operand.tmp 54), type := 0, pos := "law.go:115", after := #[{ on := 10, ground := Ground.data }, { on := 9, ground := Ground.data }, { on := 9, ground := Ground.chain }, { on := 0, ground := Ground.phase }, { on := 1, ground := Ground.phase }, { on := 2, ground := Ground.phase }, { on := 3, ground := Ground.phase }, { on := 4, ground := Ground.phase }, { on := 5, ground := Ground.phase }, { on := 6, ground := Ground.phase }, { on := 7, ground := Ground.phase }, { on := 8, ground := Ground.phase }, { on := 9, ground := Ground.phase }], guard := none }) rfl (fun K hK => ?_) AllReadyZ.nil
          go_simp
          refine hK.out _ _ (fun h => absurd h (by decide)) ?_
          clear hK K
          try simp only [Act.put, List.setIfInBounds_toArray, List.set_cons_zero, List.set_cons_succ]
          refine wpAnyZ_done (by kernel_rfl) ?_ _
          clear hS0 hSZ hSL hSZL hSLZ hS5 hS6 hdZ hdL hdZL hdLZ hdr hlk hhd
          go_upto_region 23 with fail
          have hks := KeptOff.set w6 ⟨X, 1, none⟩ (.slice a2 (ll + 1) c2)
          have hb7 := Lib.hid (hb3.out.trans (hb6.out.mono hb3.out.size))
          have hb4 : Hid (Below w.heap.size w (w6.setCell ⟨X, 1, none⟩ (.slice a2 (ll + 1) c2))) := hb7.out.trans (hks.below (fun j _ e => by rw [show j = X from e]; exact hwX.out) hb7.out.size)
          have hm4 : Hid (MdBox (w6.setCell ⟨X, 1, none⟩ (.slice a2 (ll + 1) c2)) X ⟨pa, pl, pc, a2, ll + 1, c2, sa, sl, sc⟩ { M with links := M.links ++ [⟨(pl : Int), 0, 1, false⟩] }) := by
            have hmw := hmd.out.below hb4.out
            have hr7 := ownsRow_setCell_other hr6.out (a := ⟨X, 1, none⟩) hne6.out (.slice a2 (ll + 1) c2)
            have hrow := Lks.of_row13 hr7
            exact Lib.hid ⟨Go.heap_setCell_same w6 X 1 _ _ (.slice a2 (ll + 1) c2) hX6.out, ⟨hmw.1, hrow, hmw.2.2.1, hmw.2.2.2⟩⟩
          have hL4 := Lib.hid (hL0.out.below hb4.out)
          clear hks
          generalize w6.setCell _ _ = W4 at *
          have hck4 : Hid (checkM { M with links := M.links ++ [⟨(pl : Int), 0, 1, false⟩] } = 131) := faultLink hz'.out _ (fun e => by have := e.1.2; have := hpn.out; dsimp only at *; omega)
          have k4 := Lib.hid (mdCheck_any hm4.out.2 hL4.out)
          rw [hck4.out] at k4
          simp only [Mv.val, Mv.cells] at k4
          have e0 := hm4.out.c0
          have e1 := hm4.out.c1
          have e2 := hm4.out.c2
          have e3 := hm4.out.c3
          have e4 := hm4.out.c4
          have e5 := hm4.out.c5
          dsimp only at e0 e1 e2 e3 e4 e5
          clear hm4 hck4
          go_wp2_with (first | (go_at_call 11; refine haw.out.mono ?_; rintro e w8 ⟨rfl, hb9⟩) | (go_at_call 9; refine k4.out.mono ?_; rintro e w7 ⟨rfl, hb7⟩; have hb8 := Lib.hid (hb4.out.trans (hb7.out.mono hb4.out.size)); have haw := Lib.hid (awake_any13 (hL4.out.below hb7.out))))
          go_ret
          exact ⟨rfl, hb8.out.trans (hb9.mono hb8.out.size)⟩
        refine AllReadyZ.cons (o := { dst := some 53, op := Op.buildSlice 23 1 #[(0, Operand.tmp 52)], type := 23, pos := "law.go:115", after := #[{ on := 7, ground := Ground.data }], guard := none }) rfl (fun K hK => ?_) AllReadyZ.nil
        refine step_buildSlice13 (by rfl) 23 1 #[(0, .tmp 52)] (by rfl) #[(0, .agg (lkC ⟨(pl : Int), 0, 1, false⟩).toArray)] (by simp only [List.map_toArray, List.map_cons, List.map_nil]; rfl) (lit_lk ⟨(pl : Int), 0, 1, false⟩ (Wd.alloc (.cells #[] 43))) ?_
        refine hK.out _ _ (fun _ => hSZL) ?_
        clear hK K
        try simp only [Act.put, List.setIfInBounds_toArray, List.set_cons_zero, List.set_cons_succ]
        refine wpAnyZ_ready (rs := [3]) (by kernel_rfl) (by simp) ?_
        refine AllReadyZ.cons (o := { dst := some 48, op := Op.call { callee := Callee.builtin Builtin.append, args := #[Operand.tmp 45, Operand.tmp 47], argTypes := #[23, 23] }, type := 23, pos := "law.go:115", after := #[{ on := 0, ground := Ground.data }, { on := 2, ground := Ground.data }], guard := none }) rfl (fun K hK => ?_) AllReadyZ.nil
        refine step_append13 (by rfl) (.tmp 45) (.tmp 47) 23 (by rfl) Wd.heap.size i0 _ 32 Tryd.underlying23 hi0 hz0 hz1 hz2 rfl (by omega) (by rfl) ((World.ownsRow_made Wd #[] 0 (Nat.le_refl _) (Nat.zero_le _) (by simp)).alloc (.cells (lkC ⟨(pl : Int), 0, 1, false⟩).toArray 43)) la ll lc (flatG lkC M.links) (by rfl) (by rw [flatG_len lkC_len, hln.out]) (hhd.out _ hdZL.out) (flatG_one lkC_one _) (by have := hsm.out; unfold maxLen; omega) (by have := hsm.out; omega) (by simp; (try omega)) ?_
        intro v1 w5 r1 r2
        have hb5 := Lib.hid (hdZL.out.grown r2.out hdZL.out.size (fun k hk => by have h1 := hbs.out; simp [Value.ownBlock] at hk; (try rw [World.size_alloc] at hk); omega))
        have hS5 := hlk.out w5 hb5.out
        refine hK.out _ _ (fun _ => hS5) ?_
        clear hK K
        try simp only [Act.put, List.setIfInBounds_toArray, List.set_cons_zero, List.set_cons_succ]
        have hr5 := r1
        have ho5 := Lib.hid r1.out.lt
        have hs5 := Lib.hid (show Wd.heap.size ≤ w5.heap.size by have := r2.out.size; simp at this; omega)
        have hn5 := Lib.hid ((r2.out.block (Wd.alloc (.cells #[] 43)).heap.size (by simp) (by simp [Value.ownBlock])).trans (heap_alloc_new (Wd.alloc (.cells #[] 43)) (.cells (lkC ⟨(pl : Int), 0, 1, false⟩).toArray 43)))
        clear r1 r2
        refine wpAnyZ_ready (rs := [9]) (by kernel_rfl) (by simp) ?_
        refine AllReadyZ.cons (o := { dst := some 54, op := Op.call { callee := Callee.builtin Builtin.append, args := #[Operand.tmp 48, Operand.tmp 53], argTypes := #[23, 23] }, type := 23, pos := "law.go:115", after := #[{ on := 3, ground := Ground.data }, { on := 8, ground := Ground.data }, { on := 3, ground := Ground.chain }], guard := none }) rfl (fun K hK => ?_) AllReadyZ.nil
        refine step_append13 (by rfl) (.tmp 48) (.tmp 53) 23 (by rfl) Wd.heap.size i0 _ 32 Tryd.underlying23 hi0 hz0 hz1 hz2 rfl (by omega) (by rfl) hr5.out (some ⟨(Wd.alloc (.cells #[] 43)).heap.size, 0, none⟩) 1 1 (lkC ⟨(pl : Int), 0, 1, false⟩) (by rfl) (by rfl) ⟨fun e => (by cases e), fun ad e j u hj => (by cases e; exact news_of13 hn5.out j u hj)⟩ (lkC_one _) (by have := hsm.out; unfold maxLen; omega) (by have := hsm.out; omega) hs5.out ?_
        intro v2 w6 r3 r4
        have hb6 := Lib.hid (hb5.out.grown r4.out hb5.out.size (fun k hk => Nat.le_trans hbs.out (ho5.out k hk).1))
        have hS6 := hlk.out w6 hb6.out
        obtain ⟨a2, c2, rfl⟩ := shape13 (own_snoc r3.out); have hr6 := Lib.hid (own_snoc r3.out); have hX6 := Lib.hid ((hb6.out.block X hX3.out).trans hX.out); have hc6 := cell_of_block (o := 1) hX6.out rfl; have hf6 : w6.frozen? ⟨X, 1, none⟩ = false := frozen_of_cells13 hX6.out; have hne6 : Hid ((Value.slice a2 (ll + 1) c2).ownBlock ≠ some X) := Lib.hid (fun e => by have h1 := (hr6.out.lt X e).1; have h2 := hX3.out; have h3 := hbs.out; omega); clear r3 r4
        refine hK.out _ _ (fun _ => hS6) ?_
        clear hK K
        try simp only [Act.put, List.setIfInBounds_toArray, List.set_cons_zero, List.set_cons_succ]
        refine wpAnyZ_take (i := 10) (oi := { dst := some 55, op := Op.fieldAddr 27 (Operand.tmp 5) 1, type := 0, pos := "law.go:115", after := #[{ on := 0, ground := Ground.phase }, { on := 1, ground := Ground.phase }, { on := 2, ground := Ground.phase }, { on := 3, ground := Ground.phase }, { on := 4, ground := Ground.phase }, { on := 5, ground := Ground.phase }, { on := 6, ground := Ground.phase }, { on := 7, ground := Ground.phase }, { on := 8, ground := Ground.phase }, { on := 9, ground := Ground.phase }], guard := none }) (v := ?zv10_8) rfl (by kernel_rfl) (by kernel_rfl) (by kernel_rfl) (fun _ _ _ h => h) (by decide) (Or.inl ⟨by rfl, ?zy10_8⟩) (fun _ => hS6) ?zrest10_8
        case zy10_8 =>
          intro w _
          go_simp
          try with_reducible rfl
        try simp only [Act.put, List.setIfInBounds_toArray, List.set_cons_zero, List.set_cons_succ]
        refine wpAnyZ_ready (rs := [11]) (by kernel_rfl) (by simp) ?_
        refine AllReadyZ.cons (o := { dst := none, op := Op.store 23 (Operand.tmp 55) (Operand.tmp 54), type := 0, pos := "law.go:115", after := #[{ on := 10, ground := Ground.data }, { on := 9, ground := Ground.data }, { on := 9, ground := Ground.chain }, { on := 0, ground := Ground.phase }, { on := 1, ground := Ground.phase }, { on := 2, ground := Ground.phase }, { on := 3, ground := Ground.phase }, { on := 4, ground := Ground.phase }, { on := 5, ground := Ground.phase }, { on := 6, ground := Ground.phase }, { on := 7, ground := Ground.phase }, { on := 8, ground := Ground.phase }, { on := 9, ground := Ground.phase }], guard := none }) rfl (fun K hK => ?_) AllReadyZ.nil
        go_simp
        refine hK.out _ _ (fun h => absurd h (by decide)) ?_
        clear hK K
        try simp only [Act.put, List.setIfInBounds_toArray, List.set_cons_zero, List.set_cons_succ]
        refine wpAnyZ_done (by kernel_rfl) ?_ _
        clear hS0 hSZ hSL hSZL hSLZ hS5 hS6 hdZ hdL hdZL hdLZ hdr hlk hhd
        go_upto_region 23 with fail
        have hks := KeptOff.set w6 ⟨X, 1, none⟩ (.slice a2 (ll + 1) c2)
        have hb7 := Lib.hid (hb3.out.trans (hb6.out.mono hb3.out.size))
        have hb4 : Hid (Below w.heap.size w (w6.setCell ⟨X, 1, none⟩ (.slice a2 (ll + 1) c2))) := hb7.out.trans (hks.below (fun j _ e => by rw [show j = X from e]; exact hwX.out) hb7.out.size)
        have hm4 : Hid (MdBox (w6.setCell ⟨X, 1, none⟩ (.slice a2 (ll + 1) c2)) X ⟨pa, pl, pc, a2, ll + 1, c2, sa, sl, sc⟩ { M with links := M.links ++ [⟨(pl : Int), 0, 1, false⟩] }) := by
          have hmw := hmd.out.below hb4.out
          have hr7 := ownsRow_setCell_other hr6.out (a := ⟨X, 1, none⟩) hne6.out (.slice a2 (ll + 1) c2)
          have hrow := Lks.of_row13 hr7
          exact Lib.hid ⟨Go.heap_setCell_same w6 X 1 _ _ (.slice a2 (ll + 1) c2) hX6.out, ⟨hmw.1, hrow, hmw.2.2.1, hmw.2.2.2⟩⟩
        have hL4 := Lib.hid (hL0.out.below hb4.out)
        clear hks
        generalize w6.setCell _ _ = W4 at *
        have hck4 : Hid (checkM { M with links := M.links ++ [⟨(pl : Int), 0, 1, false⟩] } = 131) := faultLink hz'.out _ (fun e => by have := e.1.2; have := hpn.out; dsimp only at *; omega)
        have k4 := Lib.hid (mdCheck_any hm4.out.2 hL4.out)
        rw [hck4.out] at k4
        simp only [Mv.val, Mv.cells] at k4
        have e0 := hm4.out.c0
        have e1 := hm4.out.c1
        have e2 := hm4.out.c2
        have e3 := hm4.out.c3
        have e4 := hm4.out.c4
        have e5 := hm4.out.c5
        dsimp only at e0 e1 e2 e3 e4 e5
        clear hm4 hck4
        go_wp2_with (first | (go_at_call 11; refine haw.out.mono ?_; rintro e w8 ⟨rfl, hb9⟩) | (go_at_call 9; refine k4.out.mono ?_; rintro e w7 ⟨rfl, hb7⟩; have hb8 := Lib.hid (hb4.out.trans (hb7.out.mono hb4.out.size)); have haw := Lib.hid (awake_any13 (hL4.out.below hb7.out))))
        go_ret
        exact ⟨rfl, hb8.out.trans (hb9.mono hb8.out.size)⟩
      refine AllReadyZ.cons (o := { dst := some 53, op := Op.buildSlice 23 1 #[(0, Operand.tmp 52)], type := 23, pos := "law.go:115", after := #[{ on := 7, ground := Ground.data }], guard := none }) rfl (fun K hK => ?_) AllReadyZ.nil
      refine step_buildSlice13 (by rfl) 23 1 #[(0, .tmp 52)] (by rfl) #[(0, .agg (lkC ⟨(pl : Int), 0, 1, false⟩).toArray)] (by simp only [List.map_toArray, List.map_cons, List.map_nil]; rfl) (lit_lk ⟨(pl : Int), 0, 1, false⟩ (Wd)) ?_
      refine hK.out _ _ (fun _ => hSL) ?_
      clear hK K
      try simp only [Act.put, List.setIfInBounds_toArray, List.set_cons_zero, List.set_cons_succ]
      refine wpAnyZ_ready (rs := [0]) (by kernel_rfl) (by simp) ?_
      refine AllReadyZ.cons (o := { dst := some 45, op := Op.buildSlice 23 0 #[], type := 23, pos := "law.go:115", after := #[], guard := none }) rfl (fun K hK => ?_) AllReadyZ.nil
      refine step_buildSlice13 (by rfl) 23 0 #[] (by rfl) #[] (by simp) (lit_nil13 (Wd.alloc (.cells (lkC ⟨(pl : Int), 0, 1, false⟩).toArray 43))) ?_
      refine hK.out _ _ (fun _ => hSLZ) ?_
      clear hK K
      try simp only [Act.put, List.setIfInBounds_toArray, List.set_cons_zero, List.set_cons_succ]
      refine wpAnyZ_ready (rs := [3]) (by kernel_rfl) (by simp) ?_
      refine AllReadyZ.cons (o := { dst := some 48, op := Op.call { callee := Callee.builtin Builtin.append, args := #[Operand.tmp 45, Operand.tmp 47], argTypes := #[23, 23] }, type := 23, pos := "law.go:115", after := #[{ on := 0, ground := Ground.data }, { on := 2, ground := Ground.data }], guard := none }) rfl (fun K hK => ?_) AllReadyZ.nil
      refine step_append13 (by rfl) (.tmp 45) (.tmp 47) 23 (by rfl) Wd.heap.size i0 _ 32 Tryd.underlying23 hi0 hz0 hz1 hz2 rfl (by omega) (by rfl) (World.ownsRow_made (Wd.alloc (.cells (lkC ⟨(pl : Int), 0, 1, false⟩).toArray 43)) #[] 0 (by simp) (Nat.zero_le _) (by simp)) la ll lc (flatG lkC M.links) (by rfl) (by rw [flatG_len lkC_len, hln.out]) (hhd.out _ hdLZ.out) (flatG_one lkC_one _) (by have := hsm.out; unfold maxLen; omega) (by have := hsm.out; omega) (by simp; (try omega)) ?_
      intro v1 w5 r1 r2
      have hb5 := Lib.hid (hdLZ.out.grown r2.out hdLZ.out.size (fun k hk => by have h1 := hbs.out; simp [Value.ownBlock] at hk; (try rw [World.size_alloc] at hk); omega))
      have hS5 := hlk.out w5 hb5.out
      refine hK.out _ _ (fun _ => hS5) ?_
      clear hK K
      try simp only [Act.put, List.setIfInBounds_toArray, List.set_cons_zero, List.set_cons_succ]
      have hr5 := r1
      have ho5 := Lib.hid r1.out.lt
      have hs5 := Lib.hid (show Wd.heap.size ≤ w5.heap.size by have := r2.out.size; simp at this; omega)
      have hn5 := Lib.hid ((r2.out.block Wd.heap.size (by simp; omega) (by simp [Value.ownBlock])).trans ((((Below.refl _ _).alloc (Nat.le_refl _) (.cells #[] 43)).block Wd.heap.size (Array.getElem?_eq_some_iff.1 (heap_alloc_new Wd (.cells (lkC ⟨(pl : Int), 0, 1, false⟩).toArray 43))).1).trans (heap_alloc_new Wd (.cells (lkC ⟨(pl : Int), 0, 1, false⟩).toArray 43))))
      clear r1 r2
      refine wpAnyZ_ready (rs := [9]) (by kernel_rfl) (by simp) ?_
      refine AllReadyZ.cons (o := { dst := some 54, op := Op.call { callee := Callee.builtin Builtin.append, args := #[Operand.tmp 48, Operand.tmp 53], argTypes := #[23, 23] }, type := 23, pos := "law.go:115", after := #[{ on := 3, ground := Ground.data }, { on := 8, ground := Ground.data }, { on := 3, ground := Ground.chain }], guard := none }) rfl (fun K hK => ?_) AllReadyZ.nil
      refine step_append13 (by rfl) (.tmp 48) (.tmp 53) 23 (by rfl) Wd.heap.size i0 _ 32 Tryd.underlying23 hi0 hz0 hz1 hz2 rfl (by omega) (by rfl) hr5.out (some ⟨Wd.heap.size, 0, none⟩) 1 1 (lkC ⟨(pl : Int), 0, 1, false⟩) (by rfl) (by rfl) ⟨fun e => (by cases e), fun ad e j u hj => (by cases e; exact news_of13 hn5.out j u hj)⟩ (lkC_one _) (by have := hsm.out; unfold maxLen; omega) (by have := hsm.out; omega) hs5.out ?_
      intro v2 w6 r3 r4
      have hb6 := Lib.hid (hb5.out.grown r4.out hb5.out.size (fun k hk => Nat.le_trans hbs.out (ho5.out k hk).1))
      have hS6 := hlk.out w6 hb6.out
      obtain ⟨a2, c2, rfl⟩ := shape13 (own_snoc r3.out); have hr6 := Lib.hid (own_snoc r3.out); have hX6 := Lib.hid ((hb6.out.block X hX3.out).trans hX.out); have hc6 := cell_of_block (o := 1) hX6.out rfl; have hf6 : w6.frozen? ⟨X, 1, none⟩ = false := frozen_of_cells13 hX6.out; have hne6 : Hid ((Value.slice a2 (ll + 1) c2).ownBlock ≠ some X) := Lib.hid (fun e => by have h1 := (hr6.out.lt X e).1; have h2 := hX3.out; have h3 := hbs.out; omega); clear r3 r4
      refine hK.out _ _ (fun _ => hS6) ?_
      clear hK K
      try simp only [Act.put, List.setIfInBounds_toArray, List.set_cons_zero, List.set_cons_succ]
      refine wpAnyZ_take (i := 10) (oi := { dst := some 55, op := Op.fieldAddr 27 (Operand.tmp 5) 1, type := 0, pos := "law.go:115", after := #[{ on := 0, ground := Ground.phase }, { on := 1, ground := Ground.phase }, { on := 2, ground := Ground.phase }, { on := 3, ground := Ground.phase }, { on := 4, ground := Ground.phase }, { on := 5, ground := Ground.phase }, { on := 6, ground := Ground.phase }, { on := 7, ground := Ground.phase }, { on := 8, ground := Ground.phase }, { on := 9, ground := Ground.phase }], guard := none }) (v := ?zv10_9) rfl (by kernel_rfl) (by kernel_rfl) (by kernel_rfl) (fun _ _ _ h => h) (by decide) (Or.inl ⟨by rfl, ?zy10_9⟩) (fun _ => hS6) ?zrest10_9
      case zy10_9 =>
        intro w _
        go_simp
        try with_reducible rfl
      try simp only [Act.put, List.setIfInBounds_toArray, List.set_cons_zero, List.set_cons_succ]
      refine wpAnyZ_ready (rs := [11]) (by kernel_rfl) (by simp) ?_
      refine AllReadyZ.cons (o := { dst := none, op := Op.store 23 (Operand.tmp 55) (Operand.tmp 54), type := 0, pos := "law.go:115", after := #[{ on := 10, ground := Ground.data }, { on := 9, ground := Ground.data }, { on := 9, ground := Ground.chain }, { on := 0, ground := Ground.phase }, { on := 1, ground := Ground.phase }, { on := 2, ground := Ground.phase }, { on := 3, ground := Ground.phase }, { on := 4, ground := Ground.phase }, { on := 5, ground := Ground.phase }, { on := 6, ground := Ground.phase }, { on := 7, ground := Ground.phase }, { on := 8, ground := Ground.phase }, { on := 9, ground := Ground.phase }], guard := none }) rfl (fun K hK => ?_) AllReadyZ.nil
      go_simp
      refine hK.out _ _ (fun h => absurd h (by decide)) ?_
      clear hK K
      try simp only [Act.put, List.setIfInBounds_toArray, List.set_cons_zero, List.set_cons_succ]
      refine wpAnyZ_done (by kernel_rfl) ?_ _
      clear hS0 hSZ hSL hSZL hSLZ hS5 hS6 hdZ hdL hdZL hdLZ hdr hlk hhd
      go_upto_region 23 with fail
      have hks := KeptOff.set w6 ⟨X, 1, none⟩ (.slice a2 (ll + 1) c2)
      have hb7 := Lib.hid (hb3.out.trans (hb6.out.mono hb3.out.size))
      have hb4 : Hid (Below w.heap.size w (w6.setCell ⟨X, 1, none⟩ (.slice a2 (ll + 1) c2))) := hb7.out.trans (hks.below (fun j _ e => by rw [show j = X from e]; exact hwX.out) hb7.out.size)
      have hm4 : Hid (MdBox (w6.setCell ⟨X, 1, none⟩ (.slice a2 (ll + 1) c2)) X ⟨pa, pl, pc, a2, ll + 1, c2, sa, sl, sc⟩ { M with links := M.links ++ [⟨(pl : Int), 0, 1, false⟩] }) := by
        have hmw := hmd.out.below hb4.out
        have hr7 := ownsRow_setCell_other hr6.out (a := ⟨X, 1, none⟩) hne6.out (.slice a2 (ll + 1) c2)
        have hrow := Lks.of_row13 hr7
        exact Lib.hid ⟨Go.heap_setCell_same w6 X 1 _ _ (.slice a2 (ll + 1) c2) hX6.out, ⟨hmw.1, hrow, hmw.2.2.1, hmw.2.2.2⟩⟩
      have hL4 := Lib.hid (hL0.out.below hb4.out)
      clear hks
      generalize w6.setCell _ _ = W4 at *
      have hck4 : Hid (checkM { M with links := M.links ++ [⟨(pl : Int), 0, 1, false⟩] } = 131) := faultLink hz'.out _ (fun e => by have := e.1.2; have := hpn.out; dsimp only at *; omega)
      have k4 := Lib.hid (mdCheck_any hm4.out.2 hL4.out)
      rw [hck4.out] at k4
      simp only [Mv.val, Mv.cells] at k4
      have e0 := hm4.out.c0
      have e1 := hm4.out.c1
      have e2 := hm4.out.c2
      have e3 := hm4.out.c3
      have e4 := hm4.out.c4
      have e5 := hm4.out.c5
      dsimp only at e0 e1 e2 e3 e4 e5
      clear hm4 hck4
      go_wp2_with (first | (go_at_call 11; refine haw.out.mono ?_; rintro e w8 ⟨rfl, hb9⟩) | (go_at_call 9; refine k4.out.mono ?_; rintro e w7 ⟨rfl, hb7⟩; have hb8 := Lib.hid (hb4.out.trans (hb7.out.mono hb4.out.size)); have haw := Lib.hid (awake_any13 (hL4.out.below hb7.out))))
      go_ret
      exact ⟨rfl, hb8.out.trans (hb9.mono hb8.out.size)⟩
    · rw [hr]
      obtain ⟨i0, hi0, hz0, hz1, hz2⟩ := info_parts13 infoLk13
      have hzA := Lib.hid ((Below.refl _ W3).alloc (Nat.le_refl _) (.cells #[] 43))
      have hhd := Lib.hid ((hmd.out.below (hb3.out.trans (hzA.out.mono hb3.out.size))).2.1.holds)
      have hln : Hid (M.links.length = ll) := hmd.out.2.1.1
      have hsm : Hid (ll ≤ 4096) := Lib.hid (by have := (checkM_zero hz'.out).2.2.1.1; have := hln.out; omega)
      have hbs : Hid (W3.heap.size ≤ W3.heap.size) := Nat.le_refl _
      have p0 := (hbx3.out.below hzA.out).c0
      have p1 := (hbx3.out.below hzA.out).c1
      have p2 := (hbx3.out.below hzA.out).c2
      dsimp only at p0 p1 p2 hhd
      clear hbx3 hzA
      go_upto_region 23 with (first | (at_builtin; refine wpList_append13 rfl (.tmp 61) (.tmp 63) 23 rfl W3.heap.size i0 _ 32 Tryd.underlying23 hi0 hz0 hz1 hz2 rfl (by omega) rfl hr5.out (some ⟨w5.heap.size, 0, none⟩) 1 1 (lkC ⟨0, 0, 0, false⟩) rfl rfl ⟨fun e => (by cases e), fun ad e j u hj => (by cases e; exact news_of13 hn5.out j u hj)⟩ (lkC_one _) (by have := hsm.out; unfold maxLen; omega) (by have := hsm.out; omega) hs5.out ?_; intro v2 w6 r3 r4; have hb6 := Lib.hid (hb5.out.grown r4.out hs5.out (fun k hk => (ho5.out k hk).1)); obtain ⟨a2, c2, rfl⟩ := shape13 (own_snoc r3.out); have hr6 := Lib.hid (own_snoc r3.out); have hX6 := Lib.hid ((hb6.out.block X hX3.out).trans hX.out); have hc6 := cell_of_block (o := 1) hX6.out rfl; have hf6 : w6.frozen? ⟨X, 1, none⟩ = false := frozen_of_cells13 hX6.out; have hne6 : Hid ((Value.slice a2 (ll + 1) c2).ownBlock ≠ some X) := Lib.hid (fun e => by have h1 := (hr6.out.lt X e).1; have h2 := hX3.out; have h3 := hbs.out; omega); clear r3 r4) | (at_builtin; refine wpList_append13 rfl (.tmp 58) (.tmp 60) 23 rfl W3.heap.size i0 _ 32 Tryd.underlying23 hi0 hz0 hz1 hz2 rfl (by omega) rfl (World.ownsRow_made W3 #[] 0 (Nat.le_refl _) (Nat.zero_le _) (by simp)) la ll lc (flatG lkC M.links) rfl (by rw [flatG_len lkC_len, hln.out]) hhd.out (flatG_one lkC_one _) (by have := hsm.out; unfold maxLen; omega) (by have := hsm.out; omega) (by simp) ?_; intro v1 w5 r1 r2; have hr5 := Lib.hid (r1.out.alloc (.cells #[.int .i64 0, .int .i64 0, .int .i64 0, .bool false] 43)); have hb5 := Lib.hid ((((Below.refl _ W3).alloc (Nat.le_refl _) (.cells #[] 43)).grown r2.out (by simp) (fun k hk => by have h1 : some W3.heap.size = some k := hk; injection h1 with h1; omega)).alloc (by have := r2.out.size; simp at this; omega) (.cells #[.int .i64 0, .int .i64 0, .int .i64 0, .bool false] 43)); have hn5 := Lib.hid (heap_alloc_new w5 (.cells (lkC ⟨0, 0, 0, false⟩).toArray 43)); have hs5 := Lib.hid hb5.out.size; have ho5 := Lib.hid (r1.out.lt); clear r1 r2))
      have hks := KeptOff.set w6 ⟨X, 1, none⟩ (.slice a2 (ll + 1) c2)
      have hb7 := Lib.hid (hb3.out.trans (hb6.out.mono hb3.out.size))
      have hb4 : Hid (Below w.heap.size w (w6.setCell ⟨X, 1, none⟩ (.slice a2 (ll + 1) c2))) := hb7.out.trans (hks.below (fun j _ e => by rw [show j = X from e]; exact hwX.out) hb7.out.size)
      have hm4 : Hid (MdBox (w6.setCell ⟨X, 1, none⟩ (.slice a2 (ll + 1) c2)) X ⟨pa, pl, pc, a2, ll + 1, c2, sa, sl, sc⟩ { M with links := M.links ++ [⟨0, 0, 0, false⟩] }) := by
        have hmw := hmd.out.below hb4.out
        have hr7 := ownsRow_setCell_other hr6.out (a := ⟨X, 1, none⟩) hne6.out (.slice a2 (ll + 1) c2)
        have hrow := Lks.of_row13 hr7
        exact Lib.hid ⟨Go.heap_setCell_same w6 X 1 _ _ (.slice a2 (ll + 1) c2) hX6.out, ⟨hmw.1, hrow, hmw.2.2.1, hmw.2.2.2⟩⟩
      have hL4 := Lib.hid (hL0.out.below hb4.out)
      clear hks
      generalize w6.setCell _ _ = W4 at *
      have hck4 : Hid (checkM { M with links := M.links ++ [⟨0, 0, 0, false⟩] } = 131) := faultLink hz'.out _ (fun e => by have := e.2.2.1; dsimp only at this; omega)
      have k4 := Lib.hid (mdCheck_any hm4.out.2 hL4.out)
      rw [hck4.out] at k4
      simp only [Mv.val, Mv.cells] at k4
      have e0 := hm4.out.c0
      have e1 := hm4.out.c1
      have e2 := hm4.out.c2
      have e3 := hm4.out.c3
      have e4 := hm4.out.c4
      have e5 := hm4.out.c5
      dsimp only at e0 e1 e2 e3 e4 e5
      clear hm4 hck4
      go_wp2_with (first | (go_at_call 11; refine haw.out.mono ?_; rintro e w8 ⟨rfl, hb9⟩) | (go_at_call 9; refine k4.out.mono ?_; rintro e w7 ⟨rfl, hb7⟩; have hb8 := Lib.hid (hb4.out.trans (hb7.out.mono hb4.out.size)); have haw := Lib.hid (awake_any13 (hL4.out.below hb7.out))))
      go_ret
      exact ⟨rfl, hb8.out.trans (hb9.mono hb8.out.size)⟩
    · rw [hr]
      obtain ⟨i0, hi0, hz0, hz1, hz2⟩ := info_parts13 infoStt13
      have hzA := Lib.hid ((Below.refl _ W3).alloc (Nat.le_refl _) (.cells #[] 56))
      have hhd := Lib.hid ((hmd.out.below (hb3.out.trans (hzA.out.mono hb3.out.size))).2.2.1.holds)
      have hln : Hid (M.starts.length = sl) := hmd.out.2.2.1.1
      have hsm : Hid (sl ≤ 4096) := Lib.hid (by have := (checkM_zero hz'.out).2.2.2.1; have := hln.out; omega)
      have hbs : Hid (W3.heap.size ≤ W3.heap.size) := Nat.le_refl _
      have p0 := (hbx3.out.below hzA.out).c0
      have p1 := (hbx3.out.below hzA.out).c1
      have p2 := (hbx3.out.below hzA.out).c2
      dsimp only at p0 p1 p2 hhd
      clear hbx3 hzA
      go_upto_region 23 with (first | (at_builtin; refine wpList_append13 rfl (.tmp 17) (.tmp 19) 24 rfl W3.heap.size i0 _ 24 Tryd.underlying24 hi0 hz0 hz1 hz2 rfl (by omega) rfl hr5.out (some ⟨w5.heap.size, 0, none⟩) 1 1 (sttC ⟨-1, 0, 0⟩) rfl rfl ⟨fun e => (by cases e), fun ad e j u hj => (by cases e; exact news_of13 hn5.out j u hj)⟩ (sttC_one _) (by have := hsm.out; unfold maxLen; omega) (by have := hsm.out; omega) hs5.out ?_; intro v2 w6 r3 r4; have hb6 := Lib.hid (hb5.out.grown r4.out hs5.out (fun k hk => (ho5.out k hk).1)); obtain ⟨a2, c2, rfl⟩ := shape13 (own_snoc r3.out); have hr6 := Lib.hid (own_snoc r3.out); have hX6 := Lib.hid ((hb6.out.block X hX3.out).trans hX.out); have hc6 := cell_of_block (o := 2) hX6.out rfl; have hf6 : w6.frozen? ⟨X, 2, none⟩ = false := frozen_of_cells13 hX6.out; have hne6 : Hid ((Value.slice a2 (sl + 1) c2).ownBlock ≠ some X) := Lib.hid (fun e => by have h1 := (hr6.out.lt X e).1; have h2 := hX3.out; have h3 := hbs.out; omega); clear r3 r4) | (at_builtin; refine wpList_append13 rfl (.tmp 14) (.tmp 16) 24 rfl W3.heap.size i0 _ 24 Tryd.underlying24 hi0 hz0 hz1 hz2 rfl (by omega) rfl (World.ownsRow_made W3 #[] 0 (Nat.le_refl _) (Nat.zero_le _) (by simp)) sa sl sc (flatG sttC M.starts) rfl (by rw [flatG_len sttC_len, hln.out]) hhd.out (flatG_one sttC_one _) (by have := hsm.out; unfold maxLen; omega) (by have := hsm.out; omega) (by simp) ?_; intro v1 w5 r1 r2; have hr5 := Lib.hid (r1.out.alloc (.cells #[.int .i64 (-1), .int .i64 0, .int .i64 0] 56)); have hb5 := Lib.hid ((((Below.refl _ W3).alloc (Nat.le_refl _) (.cells #[] 56)).grown r2.out (by simp) (fun k hk => by have h1 : some W3.heap.size = some k := hk; injection h1 with h1; omega)).alloc (by have := r2.out.size; simp at this; omega) (.cells #[.int .i64 (-1), .int .i64 0, .int .i64 0] 56)); have hn5 := Lib.hid (heap_alloc_new w5 (.cells (sttC ⟨-1, 0, 0⟩).toArray 56)); have hs5 := Lib.hid hb5.out.size; have ho5 := Lib.hid (r1.out.lt); clear r1 r2))
      have hks := KeptOff.set w6 ⟨X, 2, none⟩ (.slice a2 (sl + 1) c2)
      have hb7 := Lib.hid (hb3.out.trans (hb6.out.mono hb3.out.size))
      have hb4 : Hid (Below w.heap.size w (w6.setCell ⟨X, 2, none⟩ (.slice a2 (sl + 1) c2))) := hb7.out.trans (hks.below (fun j _ e => by rw [show j = X from e]; exact hwX.out) hb7.out.size)
      have hm4 : Hid (MdBox (w6.setCell ⟨X, 2, none⟩ (.slice a2 (sl + 1) c2)) X ⟨pa, pl, pc, la, ll, lc, a2, sl + 1, c2⟩ { M with starts := M.starts ++ [⟨-1, 0, 0⟩] }) := by
        have hmw := hmd.out.below hb4.out
        have hr7 := ownsRow_setCell_other hr6.out (a := ⟨X, 2, none⟩) hne6.out (.slice a2 (sl + 1) c2)
        have hrow := Stts.of_row13 hr7
        exact Lib.hid ⟨Go.heap_setCell_same w6 X 2 _ _ (.slice a2 (sl + 1) c2) hX6.out, ⟨hmw.1, hmw.2.1, hrow, hmw.2.2.2⟩⟩
      have hL4 := Lib.hid (hL0.out.below hb4.out)
      clear hks
      generalize w6.setCell _ _ = W4 at *
      have hck4 : Hid (checkM { M with starts := M.starts ++ [⟨-1, 0, 0⟩] } = 132) := faultStart hz'.out _ (fun e => by have := e.1.1; dsimp only at this; omega)
      have k4 := Lib.hid (mdCheck_any hm4.out.2 hL4.out)
      rw [hck4.out] at k4
      simp only [Mv.val, Mv.cells] at k4
      have e0 := hm4.out.c0
      have e1 := hm4.out.c1
      have e2 := hm4.out.c2
      have e3 := hm4.out.c3
      have e4 := hm4.out.c4
      have e5 := hm4.out.c5
      dsimp only at e0 e1 e2 e3 e4 e5
      clear hm4 hck4
      go_wp2_with (first | (go_at_call 11; refine haw.out.mono ?_; rintro e w8 ⟨rfl, hb9⟩) | (go_at_call 9; refine k4.out.mono ?_; rintro e w7 ⟨rfl, hb7⟩; have hb8 := Lib.hid (hb4.out.trans (hb7.out.mono hb4.out.size)); have haw := Lib.hid (awake_any13 (hL4.out.below hb7.out))))
      go_ret
      exact ⟨rfl, hb8.out.trans (hb9.mono hb8.out.size)⟩
  · have hz1 : (z == 0) = false := by simp [hz]
    have hz2 : (z != 0) = true := by simp [hz]
    clear hz hmd hL0 hz'
    go_wp2_with (first | (go_at_call 11; refine haw.out.mono ?_; rintro e w8 ⟨rfl, hb9⟩) | (go_at_call 9; refine k1.out.mono ?_; rintro e w2 ⟨rfl, hb2⟩; have hb8 := Lib.hid (hb1.out.trans (hb2.out.mono hb1.out.size)); have haw := Lib.hid (awake_any13 (hL1.out.below hb2.out))))
    go_ret
    exact ⟨rfl, hb8.out.trans (hb9.mono hb8.out.size)⟩
end Go.Proofs.YtofkfajcibdneaaDoor
