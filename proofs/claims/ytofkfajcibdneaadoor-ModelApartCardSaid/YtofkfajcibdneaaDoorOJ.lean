/-
  The program's own world of a process: why there is none; the walk where there is one.
-/
import Derived.Test.YtofkfajcibdneaaDoorOG
import Derived.Test.YtofkfajcibdneaaDoorOI
import Derived.Test.YtofkfajcibdneaaDoorNI
namespace Go.Proofs.YtofkfajcibdneaaDoor
open Go.ChangeShapes Go.WideShapes Go.ChangeAt Go.Shelf Go.RowKit Go.Lib Go.Sort Go.Deep
set_option linter.unusedVariables false
set_option linter.unusedSimpArgs false
set_option maxRecDepth 4000

theorem mdFlaw_bad {w : World} {v : Mv} {M : Md} (h : Mds w v M) (hL : Laid13 w) (hc : ¬ checkM M = 0) : Calls Tryd.prog 21 #[v.val M] w fun e w' => ∃ t x, e = .returned (.iface 73 (.agg #[.int .i64 (checkM M), .iface t x])) ∧ Hid (Below w.heap.size w w') := by
  refine (mdFlawOf_any h hL).mono ?_
  rintro e w' ⟨u, rfl, hu, hb⟩
  rcases hu with ⟨h0, -⟩ | ⟨-, t, x, rfl⟩
  · exact absurd h0 hc
  · exact ⟨t, x, rfl, hb⟩
theorem mdFlaw_ok {w : World} {v : Mv} {M : Md} (h : Mds w v M) (hL : Laid13 w) (hc : checkM M = 0) : Calls Tryd.prog 21 #[v.val M] w fun e w' => e = .returned .nilIface ∧ Hid (Below w.heap.size w w') := by
  refine (mdFlawOf_any h hL).mono ?_
  rintro e w' ⟨u, rfl, hu, hb⟩
  rcases hu with ⟨-, rfl⟩ | ⟨h0, -⟩
  · exact ⟨rfl, hb⟩
  · exact absurd hc h0
set_option maxHeartbeats 4000000 in
set_option maxRecDepth 100000 in
theorem mdworld_bad {w : World} {v : Mv} {M : Md} (h : Mds w v M) (hL : Laid13 w) (n : Int) (hc : ¬ checkM M = 0) : Calls Tryd.prog 25 #[v.val M, .int .i64 n] w fun e w' => ∃ t x, e = .returned (.tuple #[.agg woZ, .iface 73 (.agg #[.int .i64 (checkM M), .iface t x])]) ∧ Hid (Below w.heap.size w w') := by
  have mixed := mixed
  obtain ⟨pa, pl, pc, la, ll, lc, sa, sl, sc⟩ := v
  have hb1 := (Below.refl _ w).alloc (Nat.le_refl _) (.cells (Mv.cells ⟨pa, pl, pc, la, ll, lc, sa, sl, sc⟩ M) 27)
  have hb2 : Hid (Below w.heap.size w ((w.alloc (.cells (Mv.cells ⟨pa, pl, pc, la, ll, lc, sa, sl, sc⟩ M) 27)).alloc (.cells woZ 35))) := hb1.alloc hb1.size _
  have hbx := Lib.hid (h.box.below ((Below.refl _ (w.alloc (.cells (Mv.cells ⟨pa, pl, pc, la, ll, lc, sa, sl, sc⟩ M) 27))).alloc (Nat.le_refl _) (.cells woZ 35)))
  have hwo := Lib.hid (heap_alloc_new (w.alloc (.cells (Mv.cells ⟨pa, pl, pc, la, ll, lc, sa, sl, sc⟩ M) 27)) (.cells woZ 35))
  have hR : Hid ((w.alloc (.cells (Mv.cells ⟨pa, pl, pc, la, ll, lc, sa, sl, sc⟩ M) 27)).heap.size = w.heap.size + 1) := by show _ = _; simp
  have hL1 := Lib.hid (hL.below hb2.out)
  clear h hb1 hL
  rw [hR.out] at hwo
  generalize hzz : checkM M = z at hc ⊢
  have hz' := Lib.hid hzz
  clear hzz
  simp only [Mv.val, Mv.cells, woZ, woC] at hbx hb2 hwo hL1 ⊢
  go_enter Tryd.func25, Tryd.ntmps25
  go_upto_region 1 with fail
  generalize (w.alloc (.cells #[.slice pa pl pc, .slice la ll lc, .slice sa sl sc, .int .u64 M.seed, .int .i64 M.last, .int .i64 M.bud] 27)).alloc (.cells #[.slice none 0 0, .int .i64 0, .slice none 0 0, .int .u64 0] 35) = W at *
  obtain ⟨R, hRR⟩ : ∃ R, w.heap.size + 1 = R := ⟨_, rfl⟩
  obtain ⟨B, hBB⟩ : ∃ B, w.heap.size = B := ⟨_, rfl⟩
  have hord : Hid (w.heap.size ≤ B ∧ w.heap.size ≤ R ∧ R ≠ B) := Lib.hid ⟨by omega, by omega, by omega⟩
  rw [hRR] at hwo ⊢
  rw [hBB] at hbx ⊢
  clear hRR hBB hR
  have hck := Lib.hid (mdFlaw_bad hbx.out.2 hL1.out (by rw [hz'.out]; exact hc))
  simp only [Mv.val, Mv.cells] at hck
  rw [hz'.out] at hck
  have c0 := hbx.out.c0
  have c1 := hbx.out.c1
  have c2 := hbx.out.c2
  have c3 := hbx.out.c3
  have c4 := hbx.out.c4
  have c5 := hbx.out.c5
  dsimp only at c0 c1 c2
  go_upto_region 3 with (go_at_call 21; refine hck.out.mono ?_; rintro e w2 ⟨t, x, rfl, hb3⟩)
  have hwo2 := Lib.hid ((hb3.out.block R (Array.getElem?_eq_some_iff.1 hwo.out).1).trans hwo.out)
  have hb4 : Hid (Below w.heap.size w w2) := hb2.out.trans (hb3.out.mono hb2.out.size)
  have hrow := Lib.hid (setRow_heap w2 R _ #[.slice none 0 0, .int .i64 0, .slice none 0 0, .int .u64 0] _ _ hwo2.out)
  clear c0 c1 c2 c3 c4 c5 hck hb3 hb2 hbx hwo
  go_wp2_with (refine wpList_store_row rfl 35 (.tmp 4) (.tmp 14) rfl R #[.slice none 0 0, .int .i64 0, .slice none 0 0, .int .u64 0] rfl rfl 35 _ hwo2.out infoWo rfl (by simp [Value.oneCell']) ?_)
  have s0 := cell_of_block (o := 0) hrow.out rfl
  have s1 := cell_of_block (o := 1) hrow.out rfl
  have s2 := cell_of_block (o := 2) hrow.out rfl
  have s3 := cell_of_block (o := 3) hrow.out rfl
  exact bodyPost_ret (v := .tuple #[.agg #[.slice none 0 0, .int .i64 0, .slice none 0 0, .int .u64 0], .iface 73 (.agg #[.int .i64 z, .iface t x])]) (by simp [results, Tryd.results25, go_sem, s0, s1, s2, s3]) rfl ⟨t, x, rfl, below_row13 hb4.out hord.out.2.1 _⟩
set_option maxHeartbeats 4000000 in
set_option maxRecDepth 100000 in
theorem mdworld_none {w : World} {v : Mv} {M : Md} (h : Mds w v M) (hL : Laid13 w) (n : Int) (hc : checkM M = 0) (hn : ¬ (0 ≤ n ∧ n < (v.pl : Int))) (b5 : Addr) (hs5 : Sen w 0 b5) : Calls Tryd.prog 25 #[v.val M, .int .i64 n] w fun e w' => e = .returned (.tuple #[.agg woZ, .iface 123 (.pointer (some b5))]) ∧ Hid (Below w.heap.size w w') := by
  have mixed := mixed
  obtain ⟨pa, pl, pc, la, ll, lc, sa, sl, sc⟩ := v
  dsimp only at hn
  have hb1 := (Below.refl _ w).alloc (Nat.le_refl _) (.cells (Mv.cells ⟨pa, pl, pc, la, ll, lc, sa, sl, sc⟩ M) 27)
  have hb2 : Hid (Below w.heap.size w ((w.alloc (.cells (Mv.cells ⟨pa, pl, pc, la, ll, lc, sa, sl, sc⟩ M) 27)).alloc (.cells woZ 35))) := hb1.alloc hb1.size _
  have hbx := Lib.hid (h.box.below ((Below.refl _ (w.alloc (.cells (Mv.cells ⟨pa, pl, pc, la, ll, lc, sa, sl, sc⟩ M) 27))).alloc (Nat.le_refl _) (.cells woZ 35)))
  have hwo := Lib.hid (heap_alloc_new (w.alloc (.cells (Mv.cells ⟨pa, pl, pc, la, ll, lc, sa, sl, sc⟩ M) 27)) (.cells woZ 35))
  have hR : Hid ((w.alloc (.cells (Mv.cells ⟨pa, pl, pc, la, ll, lc, sa, sl, sc⟩ M) 27)).heap.size = w.heap.size + 1) := by show _ = _; simp
  have hL1 := Lib.hid (hL.below hb2.out)
  have hs6 := Lib.hid (hs5.below hb2.out)
  clear h hb1 hL hs5
  rw [hR.out] at hwo
  simp only [Mv.val, Mv.cells, woZ, woC] at hbx hb2 hwo hL1 hs6 ⊢
  go_enter Tryd.func25, Tryd.ntmps25
  go_upto_region 1 with fail
  generalize (w.alloc (.cells #[.slice pa pl pc, .slice la ll lc, .slice sa sl sc, .int .u64 M.seed, .int .i64 M.last, .int .i64 M.bud] 27)).alloc (.cells #[.slice none 0 0, .int .i64 0, .slice none 0 0, .int .u64 0] 35) = W at *
  obtain ⟨R, hRR⟩ : ∃ R, w.heap.size + 1 = R := ⟨_, rfl⟩
  obtain ⟨B, hBB⟩ : ∃ B, w.heap.size = B := ⟨_, rfl⟩
  have hord : Hid (w.heap.size ≤ B ∧ w.heap.size ≤ R ∧ R ≠ B) := Lib.hid ⟨by omega, by omega, by omega⟩
  rw [hRR] at hwo ⊢
  rw [hBB] at hbx ⊢
  clear hRR hBB hR
  have hck := Lib.hid (mdFlaw_ok hbx.out.2 hL1.out hc)
  simp only [Mv.val, Mv.cells] at hck
  have c0 := hbx.out.c0
  have c1 := hbx.out.c1
  have c2 := hbx.out.c2
  have c3 := hbx.out.c3
  have c4 := hbx.out.c4
  have c5 := hbx.out.c5
  dsimp only at c0 c1 c2
  go_upto_region 4 with (go_at_call 21; refine hck.out.mono ?_; rintro e w2 ⟨rfl, hb3⟩)
  have hwo2 := Lib.hid ((hb3.out.block R (Array.getElem?_eq_some_iff.1 hwo.out).1).trans hwo.out)
  have hb4 : Hid (Below w.heap.size w w2) := hb2.out.trans (hb3.out.mono hb2.out.size)
  have hbx2 := Lib.hid (hbx.out.below hb3.out)
  have hs2 := Lib.hid (hs6.out.below hb3.out)
  clear c0 c1 c2 c3 c4 c5 hck hb3 hb2 hbx hwo hs6 hL1
  have c0 := hbx2.out.c0
  have c1 := hbx2.out.c1
  have c2 := hbx2.out.c2
  have c3 := hbx2.out.c3
  have c4 := hbx2.out.c4
  have c5 := hbx2.out.c5
  dsimp only at c0 c1 c2
  have hip := Lib.hid (mdIsProc_any hbx2.out.2 n)
  simp only [Mv.val, Mv.cells] at hip
  rw [boolOf_false hn] at hip
  clear hn
  go_upto_region 5 with (go_at_call 40; refine hip.out.mono ?_; rintro e w3 ⟨rfl, hb5⟩)
  have hwo3 := Lib.hid ((hb5.out.block R (Array.getElem?_eq_some_iff.1 hwo2.out).1).trans hwo2.out)
  have hb6 : Hid (Below w.heap.size w w3) := hb4.out.trans (hb5.out.mono hb4.out.size)
  have hsn : Hid (∀ w', Below w3.heap.size w3 w' → w'.cell? ⟨0, 0, none⟩ = some (.iface 123 (.pointer (some b5)))) := Lib.hid (fun w' hb => ((hs2.out.below hb5.out).below hb).2)
  clear c0 c1 c2 c3 c4 c5 hip hb5 hb4 hbx2 hwo2 hs2
  refine wp_region_held_drew (S := fun w' => Below w3.heap.size w3 w') (by kernel_rfl) ((Below.refl _ w3).drew) (fun hHeld => ?_)
  clear hHeld
  have hHd : Below w3.heap.size w3 w3.drew := (Below.refl _ w3).drew
  have hwd := Lib.hid ((hHd.block R (Array.getElem?_eq_some_iff.1 hwo3.out).1).trans hwo3.out)
  generalize w3.drew = W5 at *
  have hse5 : W5.setRow R #[.slice none 0 0, .int .i64 0, .slice none 0 0, .int .u64 0] = W5 := setRow_self W5 R _ _ _ hwd.out
  have hSr : Below w3.heap.size w3 (W5.setRow R #[.slice none 0 0, .int .i64 0, .slice none 0 0, .int .u64 0]) := by rw [hse5]; exact hHd
  clear hse5
  refine wpAnyH_take (i := 0) (oi := { dst := some 20, op := Op.build 35 #[], type := 35, pos := "model.go:159", after := #[], guard := none }) (v := ?vv0_1) rfl (by kernel_rfl) (by kernel_rfl) (by kernel_rfl) (fun _ _ _ h => h) (Or.inl ⟨by rfl, ?hy0_1⟩) hHd ?rest0_1
  case hy0_1 =>
    intro w hSw
    go_simp
    try with_reducible rfl
  try simp only [Act.put, List.setIfInBounds_toArray, List.set_cons_zero, List.set_cons_succ]
  refine wpAnyH_take (i := 1) (oi := { dst := some 21, op := Op.load 60 (Operand.global 0), type := 60, pos := "model.go:159", after := #[{ on := 2, ground := Ground.gcOnly Departure.lateStores }], guard := none }) (v := ?vv1_2) rfl (by kernel_rfl) (by kernel_rfl) (by kernel_rfl) (fun _ _ _ h => h) (Or.inl ⟨by rfl, ?hy1_2⟩) hHd ?rest1_2
  case hy1_2 =>
    intro w hSw
    have c := hsn.out w hSw
    go_simp
    try with_reducible rfl
  try simp only [Act.put, List.setIfInBounds_toArray, List.set_cons_zero, List.set_cons_succ]
  refine wpAnyH_ready (rs := [2]) (by kernel_rfl) (by simp) ?_
  refine AllReadyH.cons (o := { dst := none, op := Op.store 35 (Operand.tmp 4) (Operand.tmp 20), type := 0, pos := "model.go:159", after := #[{ on := 0, ground := Ground.data }, { on := 0, ground := Ground.phase }, { on := 1, ground := Ground.textOnly Departure.lateStores }], guard := none }) rfl (fun K hK => ?_) AllReadyH.nil
  refine step_store_row (by rfl) 35 (.tmp 4) (.tmp 20) (by rfl) R #[.slice none 0 0, .int .i64 0, .slice none 0 0, .int .u64 0] (by rfl) (by rfl) 35 _ hwd.out infoWo rfl (by simp [Value.oneCell']) ?_
  refine hK.out _ _ hSr (fun hHeld => ?_)
  clear hHeld hK K
  try simp only [Act.put, List.setIfInBounds_toArray, List.set_cons_zero, List.set_cons_succ]
  refine wpAnyH_take (i := 3) (oi := { dst := some 5, op := Op.assign (Operand.tmp 21), type := 60, pos := "model.go:159", after := #[{ on := 1, ground := Ground.data }, { on := 2, ground := Ground.chain }, { on := 0, ground := Ground.phase }, { on := 1, ground := Ground.phase }, { on := 2, ground := Ground.phase }], guard := none }) (v := ?vv3_3) rfl (by kernel_rfl) (by kernel_rfl) (by kernel_rfl) (fun _ _ _ h => h) (Or.inl ⟨by rfl, ?hy3_3⟩) hSr ?rest3_3
  case hy3_3 =>
    intro w hSw
    go_simp
    try with_reducible rfl
  try simp only [Act.put, List.setIfInBounds_toArray, List.set_cons_zero, List.set_cons_succ]
  refine wpAnyH_done (by kernel_rfl) ?_ _
  have hfin : Hid (Below w.heap.size w (W5.setRow R #[.slice none 0 0, .int .i64 0, .slice none 0 0, .int .u64 0])) := hb6.out.trans (hSr.mono hb6.out.size)
  have hrow := Lib.hid (setRow_heap W5 R _ #[.slice none 0 0, .int .i64 0, .slice none 0 0, .int .u64 0] _ _ hwd.out)
  clear hSr hHd hsn hwo3
  go_wp2
  have s0 := cell_of_block (o := 0) hrow.out rfl
  have s1 := cell_of_block (o := 1) hrow.out rfl
  have s2 := cell_of_block (o := 2) hrow.out rfl
  have s3 := cell_of_block (o := 3) hrow.out rfl
  exact bodyPost_ret (v := .tuple #[.agg #[.slice none 0 0, .int .i64 0, .slice none 0 0, .int .u64 0], .iface 123 (.pointer (some b5))]) (by simp [results, Tryd.results25, go_sem, s0, s1, s2, s3]) rfl ⟨rfl, hfin⟩
end Go.Proofs.YtofkfajcibdneaaDoor
