
/-
  The document's own World where there is none: the model may not be, or the process is none.
-/
import Derived.Test.YtofkfajcibdneaaDoorNE
import Derived.Test.YtofkfajcibdneaaDoorNF
namespace Go.Proofs.YtofkfajcibdneaaDoor
open Go.ChangeShapes Go.WideShapes Go.ChangeAt Go.Shelf Go.RowKit Go.Lib Go.Sort Go.Deep
set_option linter.unusedVariables false
set_option linter.unusedSimpArgs false
set_option maxRecDepth 4000

/-- A world's cells. -/
def woC (p : Value) (self : Int) (l : Value) (seed : Nat) : Array Value := #[p, .int .i64 self, l, .int .u64 seed]
def woZ : Array Value := woC (.slice none 0 0) 0 (.slice none 0 0) 0
theorem infoWo : (Tryd.prog.info? 35).map (·.size) = some 4 := by kernel_rfl
theorem below_row13 {B0 B : Nat} {w W : World} (h : Below B0 w W) (hB : B0 ≤ B) (c : Array Value) : Below B0 w (W.setRow B c) :=
  h.trans ⟨rfl, rfl, rfl, by simp [World.setRow], fun k hk => setRow_other W B k c (by omega)⟩
section
variable {w : World} {v : Mv} {M : Md}
set_option maxHeartbeats 4000000 in
set_option maxRecDepth 100000 in
theorem r13World_bad (h : Mds w v M) (n : Int) (hc : ¬ checkM M = 0) : Calls Tryd.prog 13 #[v.val M, .int .i64 n] w fun e w' => e = .returned (.tuple #[.agg woZ, .int .i64 (checkM M)]) ∧ Hid (Below w.heap.size w w') := by
  have mixed := mixed
  obtain ⟨pa, pl, pc, la, ll, lc, sa, sl, sc⟩ := v
  have hb1 := (Below.refl _ w).alloc (Nat.le_refl _) (.cells (Mv.cells ⟨pa, pl, pc, la, ll, lc, sa, sl, sc⟩ M) 27)
  have hb2 : Hid (Below w.heap.size w ((w.alloc (.cells (Mv.cells ⟨pa, pl, pc, la, ll, lc, sa, sl, sc⟩ M) 27)).alloc (.cells woZ 35))) := hb1.alloc hb1.size _
  have hbx := Lib.hid (h.box.below ((Below.refl _ (w.alloc (.cells (Mv.cells ⟨pa, pl, pc, la, ll, lc, sa, sl, sc⟩ M) 27))).alloc (Nat.le_refl _) (.cells woZ 35)))
  have hwo := Lib.hid (heap_alloc_new (w.alloc (.cells (Mv.cells ⟨pa, pl, pc, la, ll, lc, sa, sl, sc⟩ M) 27)) (.cells woZ 35))
  have hR : Hid ((w.alloc (.cells (Mv.cells ⟨pa, pl, pc, la, ll, lc, sa, sl, sc⟩ M) 27)).heap.size = w.heap.size + 1) := by show _ = _; simp
  clear h hb1
  rw [hR.out] at hwo
  generalize hzz : checkM M = z at hc ⊢
  have hz' := Lib.hid hzz
  clear hzz
  simp only [Mv.val, Mv.cells, woZ, woC] at hbx hb2 hwo ⊢
  go_enter Tryd.func13, Tryd.ntmps13
  go_upto_region 1 with fail
  have hlt : Hid (w.heap.size ≤ w.heap.size + 1) := Nat.le_succ _
  generalize (w.alloc (.cells #[.slice pa pl pc, .slice la ll lc, .slice sa sl sc, .int .u64 M.seed, .int .i64 M.last, .int .i64 M.bud] 27)).alloc (.cells #[.slice none 0 0, .int .i64 0, .slice none 0 0, .int .u64 0] 35) = W at *
  obtain ⟨R, hRR⟩ : ∃ R, w.heap.size + 1 = R := ⟨_, rfl⟩
  rw [hRR] at hwo hlt ⊢
  obtain ⟨B, hBB⟩ : ∃ B, w.heap.size = B := ⟨_, rfl⟩
  rw [hBB] at hbx ⊢
  clear hRR hBB hR
  have hck := Lib.hid (r13Check_any hbx.out.2)
  have c0 := hbx.out.c0
  have c1 := hbx.out.c1
  have c2 := hbx.out.c2
  have c3 := hbx.out.c3
  have c4 := hbx.out.c4
  have c5 := hbx.out.c5
  simp only [Mv.val, Mv.cells] at hck
  dsimp only at c0 c1 c2
  rw [hz'.out] at hck
  have hz1 : (z == 0) = false := by simp [hc]
  have hz2 : (z != 0) = true := by simp [hc]
  go_upto_region 3 with (go_at_call 10; refine hck.out.mono ?_; rintro e w2 ⟨rfl, hb3⟩)
  have hwo2 := Lib.hid ((hb3.out.block R (Array.getElem?_eq_some_iff.1 hwo.out).1).trans hwo.out)
  have hb4 : Hid (Below w.heap.size w w2) := hb2.out.trans (hb3.out.mono hb2.out.size)
  have hrow := Lib.hid (setRow_heap w2 R _ #[.slice none 0 0, .int .i64 0, .slice none 0 0, .int .u64 0] _ _ hwo2.out)
  clear c0 c1 c2 c3 c4 c5 hck hb3 hb2 hbx hwo
  go_wp2_with (refine wpList_store_row rfl 35 (.tmp 4) (.tmp 14) rfl R #[.slice none 0 0, .int .i64 0, .slice none 0 0, .int .u64 0] rfl rfl 35 _ hwo2.out infoWo rfl (by simp [Value.oneCell']) ?_)
  have s0 := cell_of_block (o := 0) hrow.out rfl
  have s1 := cell_of_block (o := 1) hrow.out rfl
  have s2 := cell_of_block (o := 2) hrow.out rfl
  have s3 := cell_of_block (o := 3) hrow.out rfl
  exact bodyPost_ret (v := .tuple #[.agg #[.slice none 0 0, .int .i64 0, .slice none 0 0, .int .u64 0], .int .i64 z]) (by simp [results, Tryd.results13, go_sem, s0, s1, s2, s3]) rfl ⟨rfl, below_row13 hb4.out hlt.out _⟩
set_option maxHeartbeats 4000000 in
set_option maxRecDepth 100000 in
theorem r13World_none (h : Mds w v M) (n : Int) (hc : checkM M = 0) (hn : n < 0 ∨ (v.pl : Int) ≤ n) : Calls Tryd.prog 13 #[v.val M, .int .i64 n] w fun e w' => e = .returned (.tuple #[.agg woZ, .int .i64 1]) ∧ Hid (Below w.heap.size w w') := by
  have mixed := mixed
  obtain ⟨pa, pl, pc, la, ll, lc, sa, sl, sc⟩ := v
  dsimp only at hn
  have hpl : pl ≤ 9223372036854775807 := by have h1 := h.1.2.1; have h2 := h.1.2.2.1; unfold maxLen at h2; dsimp only at h1 h2; omega
  have hb1 := (Below.refl _ w).alloc (Nat.le_refl _) (.cells (Mv.cells ⟨pa, pl, pc, la, ll, lc, sa, sl, sc⟩ M) 27)
  have hb2 : Hid (Below w.heap.size w ((w.alloc (.cells (Mv.cells ⟨pa, pl, pc, la, ll, lc, sa, sl, sc⟩ M) 27)).alloc (.cells woZ 35))) := hb1.alloc hb1.size _
  have hbx := Lib.hid (h.box.below ((Below.refl _ (w.alloc (.cells (Mv.cells ⟨pa, pl, pc, la, ll, lc, sa, sl, sc⟩ M) 27))).alloc (Nat.le_refl _) (.cells woZ 35)))
  have hwo := Lib.hid (heap_alloc_new (w.alloc (.cells (Mv.cells ⟨pa, pl, pc, la, ll, lc, sa, sl, sc⟩ M) 27)) (.cells woZ 35))
  have hR : Hid ((w.alloc (.cells (Mv.cells ⟨pa, pl, pc, la, ll, lc, sa, sl, sc⟩ M) 27)).heap.size = w.heap.size + 1) := by show _ = _; simp
  clear h hb1
  rw [hR.out] at hwo
  simp only [Mv.val, Mv.cells, woZ, woC] at hbx hb2 hwo ⊢
  go_enter Tryd.func13, Tryd.ntmps13
  go_upto_region 1 with fail
  have hlt : Hid (w.heap.size ≤ w.heap.size + 1) := Nat.le_succ _
  generalize (w.alloc (.cells #[.slice pa pl pc, .slice la ll lc, .slice sa sl sc, .int .u64 M.seed, .int .i64 M.last, .int .i64 M.bud] 27)).alloc (.cells #[.slice none 0 0, .int .i64 0, .slice none 0 0, .int .u64 0] 35) = W at *
  obtain ⟨R, hRR⟩ : ∃ R, w.heap.size + 1 = R := ⟨_, rfl⟩
  rw [hRR] at hwo hlt ⊢
  obtain ⟨B, hBB⟩ : ∃ B, w.heap.size = B := ⟨_, rfl⟩
  rw [hBB] at hbx ⊢
  clear hRR hBB hR
  have hck := Lib.hid (r13Check_any hbx.out.2)
  have c0 := hbx.out.c0
  have c1 := hbx.out.c1
  have c2 := hbx.out.c2
  have c3 := hbx.out.c3
  have c4 := hbx.out.c4
  have c5 := hbx.out.c5
  simp only [Mv.val, Mv.cells] at hck
  dsimp only at c0 c1 c2
  rw [hc] at hck
  clear hc
  go_upto_region 4 with (go_at_call 10; refine hck.out.mono ?_; rintro e w2 ⟨rfl, hb3⟩)
  have hwo2 := Lib.hid ((hb3.out.block R (Array.getElem?_eq_some_iff.1 hwo.out).1).trans hwo.out)
  have hb4 : Hid (Below w.heap.size w w2) := hb2.out.trans (hb3.out.mono hb2.out.size)
  have hrow := Lib.hid (setRow_heap w2 R _ #[.slice none 0 0, .int .i64 0, .slice none 0 0, .int .u64 0] _ _ hwo2.out)
  have d0 := (hbx.out.below hb3.out).c0
  dsimp only at d0
  clear c0 c1 c2 c3 c4 c5 hck hb3 hb2 hbx hwo
  by_cases g1 : n < 0
  · clear hn
    go_wp2_with (refine wpList_store_row rfl 35 (.tmp 4) (.tmp 25) rfl R #[.slice none 0 0, .int .i64 0, .slice none 0 0, .int .u64 0] rfl rfl 35 _ hwo2.out infoWo rfl (by simp [Value.oneCell']) ?_)
    have s0 := cell_of_block (o := 0) hrow.out rfl
    have s1 := cell_of_block (o := 1) hrow.out rfl
    have s2 := cell_of_block (o := 2) hrow.out rfl
    have s3 := cell_of_block (o := 3) hrow.out rfl
    exact bodyPost_ret (v := .tuple #[.agg #[.slice none 0 0, .int .i64 0, .slice none 0 0, .int .u64 0], .int .i64 1]) (by simp [results, Tryd.results13, go_sem, s0, s1, s2, s3]) rfl ⟨rfl, below_row13 hb4.out hlt.out _⟩
  · have g2 : (pl : Int) ≤ n := by omega
    clear hn
    go_wp2_with (refine wpList_store_row rfl 35 (.tmp 4) (.tmp 25) rfl R #[.slice none 0 0, .int .i64 0, .slice none 0 0, .int .u64 0] rfl rfl 35 _ hwo2.out infoWo rfl (by simp [Value.oneCell']) ?_)
    have s0 := cell_of_block (o := 0) hrow.out rfl
    have s1 := cell_of_block (o := 1) hrow.out rfl
    have s2 := cell_of_block (o := 2) hrow.out rfl
    have s3 := cell_of_block (o := 3) hrow.out rfl
    exact bodyPost_ret (v := .tuple #[.agg #[.slice none 0 0, .int .i64 0, .slice none 0 0, .int .u64 0], .int .i64 1]) (by simp [results, Tryd.results13, go_sem, s0, s1, s2, s3]) rfl ⟨rfl, below_row13 hb4.out hlt.out _⟩
end
end Go.Proofs.YtofkfajcibdneaaDoor
