/-
  The program's own world of a process of a model that may be.
-/
import Derived.Test.YtofkfajcibdneaaDoorOJ
namespace Go.Proofs.YtofkfajcibdneaaDoor
open Go.ChangeShapes Go.WideShapes Go.ChangeAt Go.Shelf Go.RowKit Go.Lib Go.Sort Go.Deep
set_option linter.unusedVariables false
set_option linter.unusedSimpArgs false
set_option maxRecDepth 4000

theorem checkN_short {is : List I} (h : checkN is = 0) : is.length ≤ 256 := by
  rcases Nat.lt_or_ge 256 is.length with h1 | h1
  · rw [checkN_long h1] at h
    cases h
  · exact h1
set_option maxHeartbeats 16000000 in
set_option maxRecDepth 100000 in
theorem mdworld_ok {w : World} {v : Mv} {M : Md} (h : Mds w v M) (hL : Laid13 w) (hc : checkM M = 0) (k : Nat) (hk : k < v.pl) : Calls Tryd.prog 25 #[v.val M, .int .i64 k] w fun e w' => ∃ (qa : Option Addr) (ql qc : Nat) (u : Value), e = .returned (.tuple #[.agg (woC (.slice qa ql qc) k u M.seed), .nilIface]) ∧
    Hid (Below w.heap.size w w' ∧ Inss w' qa ql qc (M.progs.getD k []) ∧ RowAt w' 43 4 u (waysU (·.src) M.links k M.links.length).length (lksC M.links (waysU (·.src) M.links k M.links.length))) := by
  have mixed := mixed
  have hll : v.ll ≤ 1024 := by have := (checkM_zero hc).2.2.1.1; have := h.2.1.1; omega
  have hpl : v.pl ≤ 16 := by have := (checkM_zero hc).1.1.2; have := h.1.1; omega
  have hsh := checkN_short ((checkM_zero hc).2.1 k (by rw [h.1.1]; exact hk))
  have hlt : ∀ j ∈ waysU (·.src) M.links k M.links.length, j < v.ll := fun j hj => by have := waysU_lt _ _ _ _ j hj; have := h.2.1.1; omega
  have hwl0 := waysU_len (·.src) M.links k M.links.length
  obtain ⟨pb, po, qa, ql, qc, hpa, hpr⟩ := h.1.get hk
  obtain ⟨pa, pl, pc, la, ll, lc, sa, sl, sc⟩ := v
  dsimp only at hpa hk hll hpl hlt
  subst hpa
  have hmd := Lib.hid h
  have hb1 := (Below.refl _ w).alloc (Nat.le_refl _) (.cells (Mv.cells ⟨some ⟨pb, po, none⟩, pl, pc, la, ll, lc, sa, sl, sc⟩ M) 27)
  have hb2 : Hid (Below w.heap.size w ((w.alloc (.cells (Mv.cells ⟨some ⟨pb, po, none⟩, pl, pc, la, ll, lc, sa, sl, sc⟩ M) 27)).alloc (.cells woZ 35))) := hb1.alloc hb1.size _
  have hbx := Lib.hid (h.box.below ((Below.refl _ (w.alloc (.cells (Mv.cells ⟨some ⟨pb, po, none⟩, pl, pc, la, ll, lc, sa, sl, sc⟩ M) 27))).alloc (Nat.le_refl _) (.cells woZ 35)))
  have hwo := Lib.hid (heap_alloc_new (w.alloc (.cells (Mv.cells ⟨some ⟨pb, po, none⟩, pl, pc, la, ll, lc, sa, sl, sc⟩ M) 27)) (.cells woZ 35))
  have hR : Hid ((w.alloc (.cells (Mv.cells ⟨some ⟨pb, po, none⟩, pl, pc, la, ll, lc, sa, sl, sc⟩ M) 27)).heap.size = w.heap.size + 1) := by show _ = _; simp
  have hL1 := Lib.hid (hL.below hb2.out)
  have hpr' := Lib.hid hpr
  have hsh' : Hid (ql ≤ 256) := Lib.hid (by have := hpr.2.2.1; omega)
  have hh1 : Hid (M.links.length = ll) := h.2.1.1
  clear h hb1 hpr hL hsh
  rw [hR.out] at hwo
  obtain ⟨L, hLL⟩ : ∃ L, Hid (waysU (·.src) M.links k M.links.length = L) := ⟨_, Lib.hid rfl⟩
  rw [hLL.out] at hlt hwl0
  have hlt' := Lib.hid hlt
  have hwl : Hid (L.length ≤ 1024) := by have := hh1.out; show _ ≤ _; omega
  clear hlt hwl0
  obtain ⟨i0, hi0, hz0, hz1, hz2⟩ := info_parts13 infoLk13
  simp only [Mv.val, Mv.cells, woZ, woC] at hbx hb2 hwo hL1 ⊢
  go_enter Tryd.func25, Tryd.ntmps25
  go_upto_region 1 with fail
  generalize (w.alloc (.cells #[.slice (some ⟨pb, po, none⟩) pl pc, .slice la ll lc, .slice sa sl sc, .int .u64 M.seed, .int .i64 M.last, .int .i64 M.bud] 27)).alloc (.cells #[.slice none 0 0, .int .i64 0, .slice none 0 0, .int .u64 0] 35) = W at *
  obtain ⟨R, hRR⟩ : ∃ R, w.heap.size + 1 = R := ⟨_, rfl⟩
  obtain ⟨B, hBB⟩ : ∃ B, w.heap.size = B := ⟨_, rfl⟩
  have hord : Hid (w.heap.size ≤ B ∧ w.heap.size ≤ R ∧ R ≠ B) := Lib.hid ⟨by omega, by omega, by omega⟩
  rw [hRR] at hwo ⊢
  rw [hBB] at hbx ⊢
  clear hRR hBB hR
  have hck := Lib.hid (mdFlaw_ok hbx.out.2 hL1.out hc)
  simp only [Mv.val, Mv.cells] at hck
  have c0 := hbx.out.c0
  have c1 := hbx.out.c1
  have c2 := hbx.out.c2
  have c3 := hbx.out.c3
  have c4 := hbx.out.c4
  have c5 := hbx.out.c5
  dsimp only at c0 c1 c2
  clear hc
  have hkz2 : (k : Int) < (pl : Int) := by omega
  go_upto_region 4 with (go_at_call 21; refine hck.out.mono ?_; rintro e w1 ⟨rfl, hb3⟩)
  have hwo1 := Lib.hid ((hb3.out.block R (Array.getElem?_eq_some_iff.1 hwo.out).1).trans hwo.out)
  have hb4 : Hid (Below w.heap.size w w1) := hb2.out.trans (hb3.out.mono hb2.out.size)
  have hbx1 := Lib.hid (hbx.out.below hb3.out)
  clear c0 c1 c2 c3 c4 c5 hck hb3 hb2 hbx hwo hL1
  have c0 := hbx1.out.c0
  have c1 := hbx1.out.c1
  have c2 := hbx1.out.c2
  have c3 := hbx1.out.c3
  have c4 := hbx1.out.c4
  have c5 := hbx1.out.c5
  dsimp only at c0 c1 c2
  have hip := Lib.hid (mdIsProc_any hbx1.out.2 (k : Int))
  simp only [Mv.val, Mv.cells] at hip
  rw [boolOf_true ⟨by omega, hkz2⟩] at hip
  go_upto_region 6 with (go_at_call 40; refine hip.out.mono ?_; rintro e w2 ⟨rfl, hb5⟩)
  have hwo2 := Lib.hid ((hb5.out.block R (Array.getElem?_eq_some_iff.1 hwo1.out).1).trans hwo1.out)
  have hb6 : Hid (Below w.heap.size w w2) := hb4.out.trans (hb5.out.mono hb4.out.size)
  have hbx2 := Lib.hid (hbx1.out.below hb5.out)
  have hse : Hid (∀ W, Below w2.heap.size w2 W → (W.cell? ⟨B, 0, none⟩ = some (.slice (some ⟨pb, po, none⟩) pl pc) ∧ W.cell? ⟨B, 3, none⟩ = some (.int .u64 M.seed)) ∧ W.cell? ⟨pb, po + k, none⟩ = some (.slice qa ql qc)) := Lib.hid (fun W hb => ⟨⟨(hbx2.out.below hb).c0, (hbx2.out.below hb).c3⟩, (hpr'.out.below (hb6.out.trans (hb.mono hb6.out.size))).2.1⟩)
  have hcl : Hid (∀ W, Below w2.heap.size w2 W → Calls Tryd.prog 41 #[.slice qa ql qc] W fun e w' => ∃ a' c', e = .returned (.slice a' ql c') ∧ Hid (Inss w' a' ql c' (M.progs.getD k []) ∧ Below W.heap.size W w' ∧ ∀ j, (Value.slice a' ql c').ownBlock = some j → W.heap.size ≤ j ∧ j < w'.heap.size)) := Lib.hid (fun W hb => clone13 (hpr'.out.2.2.below (hb6.out.trans (hb.mono hb6.out.size))) (by have := hsh'.out; omega))
  clear c0 c1 c2 c3 c4 c5 hip hb5 hb4 hbx1 hwo1
  refine wp_region_Z (fun W => (W.cell? ⟨B, 0, none⟩ = some (.slice (some ⟨pb, po, none⟩) pl pc) ∧ W.cell? ⟨B, 3, none⟩ = some (.int .u64 M.seed)) ∧ W.cell? ⟨pb, po + k, none⟩ = some (.slice qa ql qc)) 11 (by kernel_rfl) ?_
  have hS0 := hse.out w2.drew (Below.refl _ w2).drew
  have hdr : Hid (Below w2.heap.size w2 w2.drew) := (Below.refl _ w2).drew
  generalize w2.drew = W2d at *
  have hSB := hse.out (W2d.alloc (.cells #[.slice none 0 0, .int .i64 0, .slice none 0 0, .int .u64 0] 35)) (hdr.out.alloc hdr.out.size _)
  refine wpAnyZ_take (i := 0) (oi := { dst := some 22, op := Op.fieldAddr 27 (Operand.tmp 2) 0, type := 0, pos := "model.go:161", after := #[], guard := none }) (v := ?zv0_1) rfl (by kernel_rfl) (by kernel_rfl) (by kernel_rfl) (fun _ _ _ h => h) (by decide) (Or.inl ⟨by rfl, ?zy0_1⟩) (fun _ => hS0) ?zrest0_1
  case zy0_1 =>
    intro w _
    go_simp
    try with_reducible rfl
  try simp only [Act.put, List.setIfInBounds_toArray, List.set_cons_zero, List.set_cons_succ]
  refine wpAnyZ_load (i := 1) (oi := { dst := some 23, op := Op.load 22 (Operand.tmp 22), type := 22, pos := "model.go:161", after := #[{ on := 0, ground := Ground.data }], guard := none }) (v := ?zv1_2) rfl (by kernel_rfl) (by kernel_rfl) (by kernel_rfl) (fun _ _ _ h => h) (by decide) (by kernel_rfl) (by kernel_rfl) (Or.inl ⟨by rfl, ?zy1_2⟩) hS0 ?zrest1_2
  case zy1_2 =>
    intro w hSw
    have c := hSw.1.1
    go_simp
    try with_reducible rfl
  try simp only [Act.put, List.setIfInBounds_toArray, List.set_cons_zero, List.set_cons_succ]
  refine wpAnyZ_take (i := 2) (oi := { dst := some 24, op := Op.move (Operand.tmp 1), type := 3, pos := "model.go:161", after := #[], guard := none }) (v := ?zv2_3) rfl (by kernel_rfl) (by kernel_rfl) (by kernel_rfl) (fun _ _ _ h => h) (by decide) (Or.inl ⟨by rfl, ?zy2_3⟩) (fun _ => hS0) ?zrest2_3
  case zy2_3 =>
    intro w _
    go_simp
    try with_reducible rfl
  try simp only [Act.put, List.setIfInBounds_toArray, List.set_cons_zero, List.set_cons_succ]
  refine wpAnyZ_take (i := 3) (oi := { dst := some 25, op := Op.indexAddr 22 (Operand.tmp 23) (Operand.tmp 24), type := 0, pos := "model.go:161", after := #[{ on := 1, ground := Ground.data }, { on := 2, ground := Ground.data }], guard := none }) (v := ?zv3_4) rfl (by kernel_rfl) (by kernel_rfl) (by kernel_rfl) (fun _ _ _ h => h) (by decide) (Or.inl ⟨by rfl, ?zy3_4⟩) (fun _ => hS0) ?zrest3_4
  case zy3_4 =>
    intro w _
    go_simp
    try with_reducible rfl
  try simp only [Act.put, List.setIfInBounds_toArray, List.set_cons_zero, List.set_cons_succ]
  refine wpAnyZ_load (i := 4) (oi := { dst := some 26, op := Op.load 33 (Operand.tmp 25), type := 33, pos := "model.go:161", after := #[{ on := 3, ground := Ground.data }], guard := none }) (v := ?zv4_5) rfl (by kernel_rfl) (by kernel_rfl) (by kernel_rfl) (fun _ _ _ h => h) (by decide) (by kernel_rfl) (by kernel_rfl) (Or.inl ⟨by rfl, ?zy4_5⟩) hS0 ?zrest4_5
  case zy4_5 =>
    intro w hSw
    have c := hSw.2
    go_simp
    try with_reducible rfl
  try simp only [Act.put, List.setIfInBounds_toArray, List.set_cons_zero, List.set_cons_succ]
  refine wpAnyZ_take (i := 6) (oi := { dst := some 28, op := Op.move (Operand.tmp 1), type := 3, pos := "model.go:161", after := #[], guard := none }) (v := ?zv6_6) rfl (by kernel_rfl) (by kernel_rfl) (by kernel_rfl) (fun _ _ _ h => h) (by decide) (Or.inl ⟨by rfl, ?zy6_6⟩) (fun _ => hS0) ?zrest6_6
  case zy6_6 =>
    intro w _
    go_simp
    try with_reducible rfl
  try simp only [Act.put, List.setIfInBounds_toArray, List.set_cons_zero, List.set_cons_succ]
  refine wpAnyZ_take (i := 7) (oi := { dst := some 29, op := Op.fieldAddr 27 (Operand.tmp 2) 3, type := 0, pos := "model.go:161", after := #[], guard := none }) (v := ?zv7_7) rfl (by kernel_rfl) (by kernel_rfl) (by kernel_rfl) (fun _ _ _ h => h) (by decide) (Or.inl ⟨by rfl, ?zy7_7⟩) (fun _ => hS0) ?zrest7_7
  case zy7_7 =>
    intro w _
    go_simp
    try with_reducible rfl
  try simp only [Act.put, List.setIfInBounds_toArray, List.set_cons_zero, List.set_cons_succ]
  refine wpAnyZ_load (i := 8) (oi := { dst := some 30, op := Op.load 25 (Operand.tmp 29), type := 25, pos := "model.go:161", after := #[{ on := 7, ground := Ground.data }], guard := none }) (v := ?zv8_8) rfl (by kernel_rfl) (by kernel_rfl) (by kernel_rfl) (fun _ _ _ h => h) (by decide) (by kernel_rfl) (by kernel_rfl) (Or.inl ⟨by rfl, ?zy8_8⟩) hS0 ?zrest8_8
  case zy8_8 =>
    intro w hSw
    have c := hSw.1.2
    go_simp
    try with_reducible rfl
  try simp only [Act.put, List.setIfInBounds_toArray, List.set_cons_zero, List.set_cons_succ]
  refine wpAnyZ_ready (rs := [5, 10]) (by kernel_rfl) (by simp) ?_
  refine AllReadyZ.cons (o := { dst := some 27, op := Op.call { callee := Callee.value (Operand.func 41), args := #[Operand.tmp 26], argTypes := #[33] }, type := 33, pos := "model.go:161", after := #[{ on := 4, ground := Ground.data }], guard := none }) rfl (fun K hK => ?_) ?_
  · skip
    go_simp
    refine (hcl.out W2d hdr.out).mono ?_
    rintro x W3 ⟨a2, c2, rfl, hq⟩
    have hd3 : Hid (Below w2.heap.size w2 W3) := hdr.out.trans (hq.out.2.1.mono hdr.out.size)
    have hS1 := hse.out W3 hd3.out
    have hS2 := hse.out (W3.alloc (.cells #[.slice none 0 0, .int .i64 0, .slice none 0 0, .int .u64 0] 35)) (hd3.out.alloc hd3.out.size _)
    have hna := heap_alloc_new W3 (.cells #[.slice none 0 0, .int .i64 0, .slice none 0 0, .int .u64 0] 35)
    refine hK.out _ _ (fun _ => hS1) ?_
    clear hK K
    try simp only [Act.put, List.setIfInBounds_toArray, List.set_cons_zero, List.set_cons_succ]
    refine wpAnyZ_take (i := 9) (oi := { dst := some 31, op := Op.build 35 #[(0, Operand.tmp 27), (1, Operand.tmp 28), (3, Operand.tmp 30)], type := 35, pos := "model.go:161", after := #[{ on := 5, ground := Ground.data }, { on := 6, ground := Ground.data }, { on := 8, ground := Ground.data }], guard := none }) (v := ?zv9_9) rfl (by kernel_rfl) (by kernel_rfl) (by kernel_rfl) (fun _ _ _ h => h) (by decide) (Or.inl ⟨by rfl, ?zy9_9⟩) (fun _ => hS1) ?zrest9_9
    case zy9_9 =>
      intro w _
      go_simp
      try with_reducible rfl
    try simp only [Act.put, List.setIfInBounds_toArray, List.set_cons_zero, List.set_cons_succ]
    refine wpAnyZ_ready (rs := [10]) (by kernel_rfl) (by simp) ?_
    refine AllReadyZ.cons (o := { dst := some 7, op := Op.alloc 35, type := 0, pos := "model.go:161", after := #[], guard := none }) rfl (fun K hK => ?_) AllReadyZ.nil
    go_simp
    refine hK.out _ _ (fun _ => hS2) ?_
    clear hK K
    try simp only [Act.put, List.setIfInBounds_toArray, List.set_cons_zero, List.set_cons_succ]
    refine wpAnyZ_ready (rs := [11]) (by kernel_rfl) (by simp) ?_
    refine AllReadyZ.cons (o := { dst := none, op := Op.store 35 (Operand.tmp 7) (Operand.tmp 31), type := 0, pos := "model.go:161", after := #[{ on := 10, ground := Ground.data }, { on := 9, ground := Ground.data }, { on := 5, ground := Ground.chain }, { on := 0, ground := Ground.phase }, { on := 1, ground := Ground.phase }, { on := 2, ground := Ground.phase }, { on := 3, ground := Ground.phase }, { on := 4, ground := Ground.phase }, { on := 5, ground := Ground.phase }, { on := 6, ground := Ground.phase }, { on := 7, ground := Ground.phase }, { on := 8, ground := Ground.phase }, { on := 9, ground := Ground.phase }, { on := 10, ground := Ground.phase }], guard := none }) rfl (fun K hK => ?_) AllReadyZ.nil
    refine step_store_row (by rfl) 35 (.tmp 7) (.tmp 31) (by rfl) W3.heap.size #[.slice a2 ql c2, .int .i64 k, .slice none 0 0, .int .u64 M.seed] (by rfl) (by rfl) 35 _ hna infoWo rfl (by simp [Value.oneCell']) ?_
    refine hK.out _ _ (fun h => absurd h (by decide)) ?_
    clear hK K
    try simp only [Act.put, List.setIfInBounds_toArray, List.set_cons_zero, List.set_cons_succ]
    refine wpAnyZ_done (by kernel_rfl) ?_ _
    have hbA : Hid (Below w2.heap.size w2 ((W3.alloc (.cells #[.slice none 0 0, .int .i64 0, .slice none 0 0, .int .u64 0] 35)).setRow W3.heap.size #[.slice a2 ql c2, .int .i64 k, .slice none 0 0, .int .u64 M.seed])) := below_row13 (hd3.out.alloc hd3.out.size _) hd3.out.size _
    have hwx := Lib.hid (setRow_heap _ W3.heap.size _ #[.slice a2 ql c2, .int .i64 k, .slice none 0 0, .int .u64 M.seed] _ _ hna)
    have hX2 : Hid (w2.heap.size ≤ W3.heap.size) := hd3.out.size
    have hcI : Hid (Inss ((W3.alloc (.cells #[.slice none 0 0, .int .i64 0, .slice none 0 0, .int .u64 0] 35)).setRow W3.heap.size #[.slice a2 ql c2, .int .i64 k, .slice none 0 0, .int .u64 M.seed]) a2 ql c2 (M.progs.getD k [])) := Lib.hid ((hq.out.1.below ((Below.refl _ W3).alloc (Nat.le_refl _) _)).keptOff (KeptOff.row _ W3.heap.size _) (fun j e e2 => by have h1 := (hq.out.2.2 j e).2; have h2 : j = W3.heap.size := e2; omega))
    have hcX : Hid (∀ j, (Value.slice a2 ql c2).ownBlock = some j → j ≠ W3.heap.size ∧ w2.heap.size ≤ j ∧ j < ((W3.alloc (.cells #[.slice none 0 0, .int .i64 0, .slice none 0 0, .int .u64 0] 35)).setRow W3.heap.size #[.slice a2 ql c2, .int .i64 k, .slice none 0 0, .int .u64 M.seed]).heap.size) := Lib.hid (fun j e => ⟨by have h1 := (hq.out.2.2 j e).2; omega, Nat.le_trans hdr.out.size (hq.out.2.2 j e).1, by have h1 := (hq.out.2.2 j e).2; simp [World.setRow]; omega⟩)
    clear hS0 hSB hS1 hS2 hna hse hdr hcl hd3 hq
    go_upto_region 7 with fail
    generalize (W3.alloc (.cells #[.slice none 0 0, .int .i64 0, .slice none 0 0, .int .u64 0] 35)).setRow W3.heap.size #[.slice a2 ql c2, .int .i64 k, .slice none 0 0, .int .u64 M.seed] = W4 at *
    generalize W3.heap.size = X at hwx hX2 hcX ⊢
    have hbx4 := Lib.hid (hbx2.out.below hbA.out)
    have hwo4 := Lib.hid ((hbA.out.block R (Array.getElem?_eq_some_iff.1 hwo2.out).1).trans hwo2.out)
    have hwy := Lib.hid (mdWays_any hbx4.out.2 (k : Int) (by show ll ≤ _; omega))
    simp only [Mv.val, Mv.cells] at hwy
    have d0 := hbx4.out.c0
    have d1 := hbx4.out.c1
    have d2 := hbx4.out.c2
    have d3 := hbx4.out.c3
    have d4 := hbx4.out.c4
    have d5 := hbx4.out.c5
    dsimp only at d0 d1 d2
    go_upto_region 8 with (go_at_call 17; refine hwy.out.mono ?_; rintro e w5 ⟨av, rfl, hWy⟩; obtain ⟨aa, ac, rfl, -⟩ := hWy.out.2.1.shape)
    have hI : Hid (WoJ w2 B X R ⟨some ⟨pb, po, none⟩, pl, pc, la, ll, lc, sa, sl, sc⟩ M k a2 ql c2 (M.progs.getD k []) (.slice aa (waysU (·.src) M.links k M.links.length).length ac) L 0 (.slice none 0 0) w5) := by
      obtain ⟨hy1, hro, hy3⟩ := hWy.out
      have hro2 := hro
      rw [hLL.out] at hro2
      refine ⟨hbA.out.trans (hy1.mono hbA.out.size), (hbx4.out.below hy1).1, hmd.out.below hb6.out, (hy1.block X (Array.getElem?_eq_some_iff.1 hwx.out).1).trans hwx.out, (hy1.block R (Array.getElem?_eq_some_iff.1 hwo4.out).1).trans hwo4.out, ?_, RowAt.nil _ _ _, hX2.out, ⟨fun e => by have := hbx2.out.lt; have := hX2.out; omega, fun e => by have := (Array.getElem?_eq_some_iff.1 hwo2.out).1; have := hX2.out; omega⟩, fun j e e2 => by
        have h1 := hy3 j e
        have h2 := (Array.getElem?_eq_some_iff.1 hwx.out).1
        omega, fun j e => (by cases e), hcI.out.below hy1, fun j e => ⟨(hcX.out j e).1, Nat.lt_of_lt_of_le (hcX.out j e).2.2 hy1.size, fun e2 => (by cases e2)⟩⟩
      rw [hLL.out]
      exact hro2
    rw [hLL.out] at hI
    clear d0 d1 d2 d3 d4 d5 hwy hWy hbx4 hwo4 hwx hX2 hbA hcI
    have hLe : Hid ((waysU (·.src) M.links k M.links.length).length = L.length) := by show _ = _; rw [hLL.out]
    rw [hLe.out]
    clear hLe
    go_wp2
    go_loopw [36] (fun s36 wr => ∃ (i : Nat) (u : Value), i ≤ L.length ∧ s36 = .int .i64 i ∧ Hid (WoJ w2 B X R ⟨some ⟨pb, po, none⟩, pl, pc, la, ll, lc, sa, sl, sc⟩ M k a2 ql c2 (M.progs.getD k []) (.slice aa L.length ac) L i u wr)) (fun s36 _ => L.length - (intOf s36).toNat)
    case atStart => exact ⟨0, _, Nat.zero_le _, rfl, hI⟩
    case round =>
      clear hI
      obtain ⟨i, u, hil, rfl, hI⟩ := hrel
      by_cases hi : i < L.length
      · have hiz : (i : Int) < (L.length : Int) := by omega
        have hi' := Lib.hid hi
        obtain ⟨ag, ao, ac2, j, lb, lo, ln, hav, hac2, hj, hla, hlook⟩ := hI.out.look hi hlt'.out
        simp only [Value.slice.injEq, true_and] at hav
        obtain ⟨rfl, rfl⟩ := hav
        dsimp only at hj hla hlook
        have hjz : (j : Int) < (ll : Int) := by omega
        have hw1 : IntKind.i64.wrap ((i : Int) + 1) = (i : Int) + 1 := IntWalk.i64_in _ (by have := hwl.out; omega)
        have hc9 : wr.cell? ⟨ag, ao + i, none⟩ = some (.int .i64 (j : Nat)) := (hlook.out wr (Below.refl _ _)).1.2.1
        clear hI hi hla
        go_upto_region 10 with fail
        clear hc9
        refine wp_region_Z (WoS X B ag ao i j lb lo ll lc u ln) 10 (by kernel_rfl) ?_
        have hla := Lib.hid (hlook.out wr.drew (Below.refl _ wr).drew)
        have hdr : Hid (Below wr.heap.size wr wr.drew) := (Below.refl _ wr).drew
        generalize wr.drew = W3 at *
        have hS0 := hla.out.1
        have hlb2 := Lib.hid (hlook.out (W3.alloc (.cells (lkC ln).toArray 43)) (hdr.out.alloc hdr.out.size _))
        have hS1 := hlb2.out.1
        have hna := heap_alloc_new W3 (.cells (lkC ln).toArray 43)
        unfold WoS at hS0 hS1
        refine wpAnyZ_take (i := 0) (oi := { dst := some 40, op := Op.fieldAddr 35 (Operand.tmp 7) 2, type := 0, pos := "model.go:163", after := #[], guard := none }) (v := ?zv0_10) rfl (by kernel_rfl) (by kernel_rfl) (by kernel_rfl) (fun _ _ _ h => h) (by decide) (Or.inl ⟨by rfl, ?zy0_10⟩) (fun _ => hS0) ?zrest0_10
        case zy0_10 =>
          intro w _
          go_simp
          try with_reducible rfl
        try simp only [Act.put, List.setIfInBounds_toArray, List.set_cons_zero, List.set_cons_succ]
        refine wpAnyZ_load (i := 1) (oi := { dst := some 41, op := Op.load 23 (Operand.tmp 40), type := 23, pos := "model.go:163", after := #[{ on := 0, ground := Ground.data }], guard := none }) (v := ?zv1_11) rfl (by kernel_rfl) (by kernel_rfl) (by kernel_rfl) (fun _ _ _ h => h) (by decide) (by kernel_rfl) (by kernel_rfl) (Or.inl ⟨by rfl, ?zy1_11⟩) hS0 ?zrest1_11
        case zy1_11 =>
          intro w hSw
          have c := hSw.1.1
          go_simp
          try with_reducible rfl
        try simp only [Act.put, List.setIfInBounds_toArray, List.set_cons_zero, List.set_cons_succ]
        refine wpAnyZ_take (i := 2) (oi := { dst := some 42, op := Op.fieldAddr 27 (Operand.tmp 2) 1, type := 0, pos := "model.go:163", after := #[], guard := none }) (v := ?zv2_12) rfl (by kernel_rfl) (by kernel_rfl) (by kernel_rfl) (fun _ _ _ h => h) (by decide) (Or.inl ⟨by rfl, ?zy2_12⟩) (fun _ => hS0) ?zrest2_12
        case zy2_12 =>
          intro w _
          go_simp
          try with_reducible rfl
        try simp only [Act.put, List.setIfInBounds_toArray, List.set_cons_zero, List.set_cons_succ]
        refine wpAnyZ_load (i := 3) (oi := { dst := some 43, op := Op.load 23 (Operand.tmp 42), type := 23, pos := "model.go:163", after := #[{ on := 2, ground := Ground.data }], guard := none }) (v := ?zv3_13) rfl (by kernel_rfl) (by kernel_rfl) (by kernel_rfl) (fun _ _ _ h => h) (by decide) (by kernel_rfl) (by kernel_rfl) (Or.inl ⟨by rfl, ?zy3_13⟩) hS0 ?zrest3_13
        case zy3_13 =>
          intro w hSw
          have c := hSw.1.2
          go_simp
          try with_reducible rfl
        try simp only [Act.put, List.setIfInBounds_toArray, List.set_cons_zero, List.set_cons_succ]
        refine wpAnyZ_take (i := 4) (oi := { dst := some 44, op := Op.move (Operand.tmp 9), type := 3, pos := "model.go:163", after := #[], guard := none }) (v := ?zv4_14) rfl (by kernel_rfl) (by kernel_rfl) (by kernel_rfl) (fun _ _ _ h => h) (by decide) (Or.inl ⟨by rfl, ?zy4_14⟩) (fun _ => hS0) ?zrest4_14
        case zy4_14 =>
          intro w _
          go_simp
          try with_reducible rfl
        try simp only [Act.put, List.setIfInBounds_toArray, List.set_cons_zero, List.set_cons_succ]
        refine wpAnyZ_take (i := 5) (oi := { dst := some 45, op := Op.indexAddr 23 (Operand.tmp 43) (Operand.tmp 44), type := 0, pos := "model.go:163", after := #[{ on := 3, ground := Ground.data }, { on := 4, ground := Ground.data }], guard := none }) (v := ?zv5_15) rfl (by kernel_rfl) (by kernel_rfl) (by kernel_rfl) (fun _ _ _ h => h) (by decide) (Or.inl ⟨by rfl, ?zy5_15⟩) (fun _ => hS0) ?zrest5_15
        case zy5_15 =>
          intro w _
          go_simp
          try with_reducible rfl
        try simp only [Act.put, List.setIfInBounds_toArray, List.set_cons_zero, List.set_cons_succ]
        refine wpAnyZ_load (i := 6) (oi := { dst := some 46, op := Op.load 43 (Operand.tmp 45), type := 43, pos := "model.go:163", after := #[{ on := 5, ground := Ground.data }], guard := none }) (v := .agg (lkC ln).toArray) rfl (by kernel_rfl) (by kernel_rfl) (by kernel_rfl) (fun _ _ _ h => h) (by decide) (by kernel_rfl) (by kernel_rfl) (yieldsIf_load_mid (by rfl) 43 (.tmp 45) (by rfl) lb (lo + j * 4) (by rfl) (lkC ln) _ (fun w' h => h.2.2) Tryd.underlying43 rfl infoLkS) hS0 ?_
        try simp only [Act.put, List.setIfInBounds_toArray, List.set_cons_zero, List.set_cons_succ]
        refine wpAnyZ_ready (rs := [7]) (by kernel_rfl) (by simp) ?_
        refine AllReadyZ.cons (o := { dst := some 47, op := Op.buildSlice 23 1 #[(0, Operand.tmp 46)], type := 23, pos := "model.go:163", after := #[{ on := 6, ground := Ground.data }], guard := none }) rfl (fun K hK => ?_) AllReadyZ.nil
        refine step_buildSlice13 (by rfl) 23 1 #[(0, .tmp 46)] (by rfl) #[(0, .agg (lkC ln).toArray)] (by simp only [List.map_toArray, List.map_cons, List.map_nil]; rfl) (lit_lk ln W3) ?_
        refine hK.out _ _ (fun _ => hS1) ?_
        clear hK K
        try simp only [Act.put, List.setIfInBounds_toArray, List.set_cons_zero, List.set_cons_succ]
        have hav := hlb2.out.2.1
        refine wpAnyZ_ready (rs := [8]) (by kernel_rfl) (by simp) ?_
        refine AllReadyZ.cons (o := { dst := some 48, op := Op.call { callee := Callee.builtin Builtin.append, args := #[Operand.tmp 41, Operand.tmp 47], argTypes := #[23, 23] }, type := 23, pos := "model.go:163", after := #[{ on := 1, ground := Ground.data }, { on := 7, ground := Ground.data }], guard := none }) rfl (fun K hK => ?_) AllReadyZ.nil
        refine step_append_row13 (by rfl) (.tmp 41) (.tmp 47) 23 (by rfl) hav i0 _ 32 Tryd.underlying23 hi0 hz0 hz1 hz2 rfl (by omega) (by rfl) ⟨W3.heap.size, 0, none⟩ 1 (lkC ln) (by rfl) (by rfl) (fun j u hj => news_of13 hna j u hj) (lkC_one ln) (by have := hwl.out; have := hi'.out; unfold maxLen; omega) (by have := hwl.out; have := hi'.out; omega) ?_
        intro g off2 cap2 w4 r1 r2 r3
        have hk4 := hlb2.out.2.2 w4 r2.out
        have hS2 := hk4.1
        have hcz := hk4.1.1.1
        have hfz := hk4.2.1
        have hnx := Lib.hid (hk4.2.2 g off2 cap2 r1.out r3.out)
        clear hk4 r1 r2 r3
        unfold WoS at hS2
        refine hK.out _ _ (fun _ => hS2) ?_
        clear hK K
        try simp only [Act.put, List.setIfInBounds_toArray, List.set_cons_zero, List.set_cons_succ]
        refine wpAnyZ_take (i := 9) (oi := { dst := some 49, op := Op.fieldAddr 35 (Operand.tmp 7) 2, type := 0, pos := "model.go:163", after := #[{ on := 0, ground := Ground.phase }, { on := 1, ground := Ground.phase }, { on := 2, ground := Ground.phase }, { on := 3, ground := Ground.phase }, { on := 4, ground := Ground.phase }, { on := 5, ground := Ground.phase }, { on := 6, ground := Ground.phase }, { on := 7, ground := Ground.phase }, { on := 8, ground := Ground.phase }], guard := none }) (v := ?zv9_16) rfl (by kernel_rfl) (by kernel_rfl) (by kernel_rfl) (fun _ _ _ h => h) (by decide) (Or.inl ⟨by rfl, ?zy9_16⟩) (fun _ => hS2) ?zrest9_16
        case zy9_16 =>
          intro w _
          go_simp
          try with_reducible rfl
        try simp only [Act.put, List.setIfInBounds_toArray, List.set_cons_zero, List.set_cons_succ]
        refine wpAnyZ_ready (rs := [10]) (by kernel_rfl) (by simp) ?_
        refine AllReadyZ.cons (o := { dst := none, op := Op.store 23 (Operand.tmp 49) (Operand.tmp 48), type := 0, pos := "model.go:163", after := #[{ on := 9, ground := Ground.data }, { on := 8, ground := Ground.data }, { on := 8, ground := Ground.chain }, { on := 0, ground := Ground.phase }, { on := 1, ground := Ground.phase }, { on := 2, ground := Ground.phase }, { on := 3, ground := Ground.phase }, { on := 4, ground := Ground.phase }, { on := 5, ground := Ground.phase }, { on := 6, ground := Ground.phase }, { on := 7, ground := Ground.phase }, { on := 8, ground := Ground.phase }], guard := none }) rfl (fun K hK => ?_) AllReadyZ.nil
        go_simp
        refine hK.out _ _ (fun h => absurd h (by decide)) ?_
        clear hK K
        try simp only [Act.put, List.setIfInBounds_toArray, List.set_cons_zero, List.set_cons_succ]
        refine wpAnyZ_done (by kernel_rfl) ?_ _
        clear hS0 hS1 hS2 hav hcz hfz hna hlb2 hla hdr hlook
        go_wp2
        go_roundw
        case rel => (repeat apply Exists.intro); first | exact ⟨⟨hi'.out, by go_num, hnx⟩, rfl⟩ | exact ⟨hi'.out, by go_num, hnx⟩
        case measure => have := hi'.out; simp [intOf]; omega
      · obtain rfl : i = L.length := by omega
        have hiz : ¬ (L.length : Int) < (L.length : Int) := by omega
        have hX1 := hI.out.wo
        have x0 := cell_of_block (o := 0) hX1 rfl
        have x1 := cell_of_block (o := 1) hX1 rfl
        have x2 := cell_of_block (o := 2) hX1 rfl
        have x3 := cell_of_block (o := 3) hX1 rfl
        have hRz := Lib.hid hI.out.rz
        have hrow := Lib.hid (setRow_heap wr R _ #[.slice a2 ql c2, .int .i64 k, u, .int .u64 M.seed] _ _ hRz.out)
        have hfin : Hid (Below w.heap.size w (wr.setRow R #[.slice a2 ql c2, .int .i64 k, u, .int .u64 M.seed]) ∧ Inss (wr.setRow R #[.slice a2 ql c2, .int .i64 k, u, .int .u64 M.seed]) a2 ql c2 (M.progs.getD k []) ∧ RowAt (wr.setRow R #[.slice a2 ql c2, .int .i64 k, u, .int .u64 M.seed]) 43 4 u (waysU (·.src) M.links k M.links.length).length (lksC M.links (waysU (·.src) M.links k M.links.length))) := by
          rw [hLL.out]
          have hro := hI.out.row
          rw [List.take_length] at hro
          exact Lib.hid ⟨below_row13 (hb6.out.trans (hI.out.b.mono hb6.out.size)) hord.out.2.1 _, hI.out.cl.keptOff (KeptOff.row wr R _) (fun j e e2 => by have h1 := (hcX.out j e).2.1; have h2 := (Array.getElem?_eq_some_iff.1 hwo2.out).1; have h3 : j = R := e2; omega), hro.kept (KeptOff.row wr R _) (fun j e e2 => (hI.out.own j e).2.2.2.1 e2)⟩
        obtain ⟨ua, uc, huv, -⟩ := hI.out.row.shape
        subst huv
        clear hI hi hX1
        go_wp2_with (refine wpList_store_row rfl 35 (.tmp 4) (.tmp 51) rfl R #[.slice a2 ql c2, .int .i64 k, .slice ua L.length uc, .int .u64 M.seed] rfl rfl 35 _ hRz.out infoWo rfl (by simp [Value.oneCell']) ?_)
        have s0 := cell_of_block (o := 0) hrow.out rfl
        have s1 := cell_of_block (o := 1) hrow.out rfl
        have s2 := cell_of_block (o := 2) hrow.out rfl
        have s3 := cell_of_block (o := 3) hrow.out rfl
        exact bodyPost_ret (v := .tuple #[.agg #[.slice a2 ql c2, .int .i64 k, .slice ua L.length uc, .int .u64 M.seed], .nilIface]) (by simp [results, Tryd.results25, go_sem, s0, s1, s2, s3]) rfl ⟨_, _, _, _, rfl, hfin⟩
  refine AllReadyZ.cons (o := { dst := some 7, op := Op.alloc 35, type := 0, pos := "model.go:161", after := #[], guard := none }) rfl (fun K hK => ?_) AllReadyZ.nil
  go_simp
  refine hK.out _ _ (fun _ => hSB) ?_
  clear hK K
  try simp only [Act.put, List.setIfInBounds_toArray, List.set_cons_zero, List.set_cons_succ]
  refine wpAnyZ_ready (rs := [5]) (by kernel_rfl) (by simp) ?_
  refine AllReadyZ.cons (o := { dst := some 27, op := Op.call { callee := Callee.value (Operand.func 41), args := #[Operand.tmp 26], argTypes := #[33] }, type := 33, pos := "model.go:161", after := #[{ on := 4, ground := Ground.data }], guard := none }) rfl (fun K hK => ?_) AllReadyZ.nil
  go_simp
  refine (hcl.out (W2d.alloc (.cells #[.slice none 0 0, .int .i64 0, .slice none 0 0, .int .u64 0] 35)) (hdr.out.alloc hdr.out.size _)).mono ?_
  rintro x W3 ⟨a2, c2, rfl, hq⟩
  have hd3 : Hid (Below w2.heap.size w2 W3) := (hdr.out.alloc hdr.out.size (.cells #[.slice none 0 0, .int .i64 0, .slice none 0 0, .int .u64 0] 35)).trans (hq.out.2.1.mono (hdr.out.alloc hdr.out.size (.cells #[.slice none 0 0, .int .i64 0, .slice none 0 0, .int .u64 0] 35)).size)
  have hS1 := hse.out W3 hd3.out
  have hna := (hq.out.2.1.block W2d.heap.size (by simp)).trans (heap_alloc_new W2d (.cells #[.slice none 0 0, .int .i64 0, .slice none 0 0, .int .u64 0] 35))
  refine hK.out _ _ (fun _ => hS1) ?_
  clear hK K
  try simp only [Act.put, List.setIfInBounds_toArray, List.set_cons_zero, List.set_cons_succ]
  refine wpAnyZ_take (i := 9) (oi := { dst := some 31, op := Op.build 35 #[(0, Operand.tmp 27), (1, Operand.tmp 28), (3, Operand.tmp 30)], type := 35, pos := "model.go:161", after := #[{ on := 5, ground := Ground.data }, { on := 6, ground := Ground.data }, { on := 8, ground := Ground.data }], guard := none }) (v := ?zv9_17) rfl (by kernel_rfl) (by kernel_rfl) (by kernel_rfl) (fun _ _ _ h => h) (by decide) (Or.inl ⟨by rfl, ?zy9_17⟩) (fun _ => hS1) ?zrest9_17
  case zy9_17 =>
    intro w _
    go_simp
    try with_reducible rfl
  try simp only [Act.put, List.setIfInBounds_toArray, List.set_cons_zero, List.set_cons_succ]
  refine wpAnyZ_ready (rs := [11]) (by kernel_rfl) (by simp) ?_
  refine AllReadyZ.cons (o := { dst := none, op := Op.store 35 (Operand.tmp 7) (Operand.tmp 31), type := 0, pos := "model.go:161", after := #[{ on := 10, ground := Ground.data }, { on := 9, ground := Ground.data }, { on := 5, ground := Ground.chain }, { on := 0, ground := Ground.phase }, { on := 1, ground := Ground.phase }, { on := 2, ground := Ground.phase }, { on := 3, ground := Ground.phase }, { on := 4, ground := Ground.phase }, { on := 5, ground := Ground.phase }, { on := 6, ground := Ground.phase }, { on := 7, ground := Ground.phase }, { on := 8, ground := Ground.phase }, { on := 9, ground := Ground.phase }, { on := 10, ground := Ground.phase }], guard := none }) rfl (fun K hK => ?_) AllReadyZ.nil
  refine step_store_row (by rfl) 35 (.tmp 7) (.tmp 31) (by rfl) W2d.heap.size #[.slice a2 ql c2, .int .i64 k, .slice none 0 0, .int .u64 M.seed] (by rfl) (by rfl) 35 _ hna infoWo rfl (by simp [Value.oneCell']) ?_
  refine hK.out _ _ (fun h => absurd h (by decide)) ?_
  clear hK K
  try simp only [Act.put, List.setIfInBounds_toArray, List.set_cons_zero, List.set_cons_succ]
  refine wpAnyZ_done (by kernel_rfl) ?_ _
  have hbA : Hid (Below w2.heap.size w2 (W3.setRow W2d.heap.size #[.slice a2 ql c2, .int .i64 k, .slice none 0 0, .int .u64 M.seed])) := below_row13 hd3.out hdr.out.size _
  have hwx := Lib.hid (setRow_heap _ W2d.heap.size _ #[.slice a2 ql c2, .int .i64 k, .slice none 0 0, .int .u64 M.seed] _ _ hna)
  have hX2 : Hid (w2.heap.size ≤ W2d.heap.size) := hdr.out.size
  have hcI : Hid (Inss (W3.setRow W2d.heap.size #[.slice a2 ql c2, .int .i64 k, .slice none 0 0, .int .u64 M.seed]) a2 ql c2 (M.progs.getD k [])) := Lib.hid (hq.out.1.keptOff (KeptOff.row _ W2d.heap.size _) (fun j e e2 => by have h1 := (hq.out.2.2 j e).1; have h2 : j = W2d.heap.size := e2; simp at h1; omega))
  have hcX : Hid (∀ j, (Value.slice a2 ql c2).ownBlock = some j → j ≠ W2d.heap.size ∧ w2.heap.size ≤ j ∧ j < (W3.setRow W2d.heap.size #[.slice a2 ql c2, .int .i64 k, .slice none 0 0, .int .u64 M.seed]).heap.size) := Lib.hid (fun j e => by have h1 := (hq.out.2.2 j e).1; have h3 := (hq.out.2.2 j e).2; have h4 := hdr.out.size; simp at h1; refine ⟨by omega, by omega, by simp [World.setRow]; omega⟩)
  clear hS0 hSB hS1 hna hse hdr hcl hd3 hq
  go_upto_region 7 with fail
  generalize W3.setRow W2d.heap.size #[.slice a2 ql c2, .int .i64 k, .slice none 0 0, .int .u64 M.seed] = W4 at *
  generalize W2d.heap.size = X at hwx hX2 hcX ⊢
  have hbx4 := Lib.hid (hbx2.out.below hbA.out)
  have hwo4 := Lib.hid ((hbA.out.block R (Array.getElem?_eq_some_iff.1 hwo2.out).1).trans hwo2.out)
  have hwy := Lib.hid (mdWays_any hbx4.out.2 (k : Int) (by show ll ≤ _; omega))
  simp only [Mv.val, Mv.cells] at hwy
  have d0 := hbx4.out.c0
  have d1 := hbx4.out.c1
  have d2 := hbx4.out.c2
  have d3 := hbx4.out.c3
  have d4 := hbx4.out.c4
  have d5 := hbx4.out.c5
  dsimp only at d0 d1 d2
  go_upto_region 8 with (go_at_call 17; refine hwy.out.mono ?_; rintro e w5 ⟨av, rfl, hWy⟩; obtain ⟨aa, ac, rfl, -⟩ := hWy.out.2.1.shape)
  have hI : Hid (WoJ w2 B X R ⟨some ⟨pb, po, none⟩, pl, pc, la, ll, lc, sa, sl, sc⟩ M k a2 ql c2 (M.progs.getD k []) (.slice aa (waysU (·.src) M.links k M.links.length).length ac) L 0 (.slice none 0 0) w5) := by
    obtain ⟨hy1, hro, hy3⟩ := hWy.out
    have hro2 := hro
    rw [hLL.out] at hro2
    refine ⟨hbA.out.trans (hy1.mono hbA.out.size), (hbx4.out.below hy1).1, hmd.out.below hb6.out, (hy1.block X (Array.getElem?_eq_some_iff.1 hwx.out).1).trans hwx.out, (hy1.block R (Array.getElem?_eq_some_iff.1 hwo4.out).1).trans hwo4.out, ?_, RowAt.nil _ _ _, hX2.out, ⟨fun e => by have := hbx2.out.lt; have := hX2.out; omega, fun e => by have := (Array.getElem?_eq_some_iff.1 hwo2.out).1; have := hX2.out; omega⟩, fun j e e2 => by
      have h1 := hy3 j e
      have h2 := (Array.getElem?_eq_some_iff.1 hwx.out).1
      omega, fun j e => (by cases e), hcI.out.below hy1, fun j e => ⟨(hcX.out j e).1, Nat.lt_of_lt_of_le (hcX.out j e).2.2 hy1.size, fun e2 => (by cases e2)⟩⟩
    rw [hLL.out]
    exact hro2
  rw [hLL.out] at hI
  clear d0 d1 d2 d3 d4 d5 hwy hWy hbx4 hwo4 hwx hX2 hbA hcI
  have hLe : Hid ((waysU (·.src) M.links k M.links.length).length = L.length) := by show _ = _; rw [hLL.out]
  rw [hLe.out]
  clear hLe
  go_wp2
  go_loopw [36] (fun s36 wr => ∃ (i : Nat) (u : Value), i ≤ L.length ∧ s36 = .int .i64 i ∧ Hid (WoJ w2 B X R ⟨some ⟨pb, po, none⟩, pl, pc, la, ll, lc, sa, sl, sc⟩ M k a2 ql c2 (M.progs.getD k []) (.slice aa L.length ac) L i u wr)) (fun s36 _ => L.length - (intOf s36).toNat)
  case atStart => exact ⟨0, _, Nat.zero_le _, rfl, hI⟩
  case round =>
    clear hI
    obtain ⟨i, u, hil, rfl, hI⟩ := hrel
    by_cases hi : i < L.length
    · have hiz : (i : Int) < (L.length : Int) := by omega
      have hi' := Lib.hid hi
      obtain ⟨ag, ao, ac2, j, lb, lo, ln, hav, hac2, hj, hla, hlook⟩ := hI.out.look hi hlt'.out
      simp only [Value.slice.injEq, true_and] at hav
      obtain ⟨rfl, rfl⟩ := hav
      dsimp only at hj hla hlook
      have hjz : (j : Int) < (ll : Int) := by omega
      have hw1 : IntKind.i64.wrap ((i : Int) + 1) = (i : Int) + 1 := IntWalk.i64_in _ (by have := hwl.out; omega)
      have hc9 : wr.cell? ⟨ag, ao + i, none⟩ = some (.int .i64 (j : Nat)) := (hlook.out wr (Below.refl _ _)).1.2.1
      clear hI hi hla
      go_upto_region 10 with fail
      clear hc9
      refine wp_region_Z (WoS X B ag ao i j lb lo ll lc u ln) 10 (by kernel_rfl) ?_
      have hla := Lib.hid (hlook.out wr.drew (Below.refl _ wr).drew)
      have hdr : Hid (Below wr.heap.size wr wr.drew) := (Below.refl _ wr).drew
      generalize wr.drew = W3 at *
      have hS0 := hla.out.1
      have hlb2 := Lib.hid (hlook.out (W3.alloc (.cells (lkC ln).toArray 43)) (hdr.out.alloc hdr.out.size _))
      have hS1 := hlb2.out.1
      have hna := heap_alloc_new W3 (.cells (lkC ln).toArray 43)
      unfold WoS at hS0 hS1
      refine wpAnyZ_take (i := 0) (oi := { dst := some 40, op := Op.fieldAddr 35 (Operand.tmp 7) 2, type := 0, pos := "model.go:163", after := #[], guard := none }) (v := ?zv0_18) rfl (by kernel_rfl) (by kernel_rfl) (by kernel_rfl) (fun _ _ _ h => h) (by decide) (Or.inl ⟨by rfl, ?zy0_18⟩) (fun _ => hS0) ?zrest0_18
      case zy0_18 =>
        intro w _
        go_simp
        try with_reducible rfl
      try simp only [Act.put, List.setIfInBounds_toArray, List.set_cons_zero, List.set_cons_succ]
      refine wpAnyZ_load (i := 1) (oi := { dst := some 41, op := Op.load 23 (Operand.tmp 40), type := 23, pos := "model.go:163", after := #[{ on := 0, ground := Ground.data }], guard := none }) (v := ?zv1_19) rfl (by kernel_rfl) (by kernel_rfl) (by kernel_rfl) (fun _ _ _ h => h) (by decide) (by kernel_rfl) (by kernel_rfl) (Or.inl ⟨by rfl, ?zy1_19⟩) hS0 ?zrest1_19
      case zy1_19 =>
        intro w hSw
        have c := hSw.1.1
        go_simp
        try with_reducible rfl
      try simp only [Act.put, List.setIfInBounds_toArray, List.set_cons_zero, List.set_cons_succ]
      refine wpAnyZ_take (i := 2) (oi := { dst := some 42, op := Op.fieldAddr 27 (Operand.tmp 2) 1, type := 0, pos := "model.go:163", after := #[], guard := none }) (v := ?zv2_20) rfl (by kernel_rfl) (by kernel_rfl) (by kernel_rfl) (fun _ _ _ h => h) (by decide) (Or.inl ⟨by rfl, ?zy2_20⟩) (fun _ => hS0) ?zrest2_20
      case zy2_20 =>
        intro w _
        go_simp
        try with_reducible rfl
      try simp only [Act.put, List.setIfInBounds_toArray, List.set_cons_zero, List.set_cons_succ]
      refine wpAnyZ_load (i := 3) (oi := { dst := some 43, op := Op.load 23 (Operand.tmp 42), type := 23, pos := "model.go:163", after := #[{ on := 2, ground := Ground.data }], guard := none }) (v := ?zv3_21) rfl (by kernel_rfl) (by kernel_rfl) (by kernel_rfl) (fun _ _ _ h => h) (by decide) (by kernel_rfl) (by kernel_rfl) (Or.inl ⟨by rfl, ?zy3_21⟩) hS0 ?zrest3_21
      case zy3_21 =>
        intro w hSw
        have c := hSw.1.2
        go_simp
        try with_reducible rfl
      try simp only [Act.put, List.setIfInBounds_toArray, List.set_cons_zero, List.set_cons_succ]
      refine wpAnyZ_take (i := 4) (oi := { dst := some 44, op := Op.move (Operand.tmp 9), type := 3, pos := "model.go:163", after := #[], guard := none }) (v := ?zv4_22) rfl (by kernel_rfl) (by kernel_rfl) (by kernel_rfl) (fun _ _ _ h => h) (by decide) (Or.inl ⟨by rfl, ?zy4_22⟩) (fun _ => hS0) ?zrest4_22
      case zy4_22 =>
        intro w _
        go_simp
        try with_reducible rfl
      try simp only [Act.put, List.setIfInBounds_toArray, List.set_cons_zero, List.set_cons_succ]
      refine wpAnyZ_take (i := 5) (oi := { dst := some 45, op := Op.indexAddr 23 (Operand.tmp 43) (Operand.tmp 44), type := 0, pos := "model.go:163", after := #[{ on := 3, ground := Ground.data }, { on := 4, ground := Ground.data }], guard := none }) (v := ?zv5_23) rfl (by kernel_rfl) (by kernel_rfl) (by kernel_rfl) (fun _ _ _ h => h) (by decide) (Or.inl ⟨by rfl, ?zy5_23⟩) (fun _ => hS0) ?zrest5_23
      case zy5_23 =>
        intro w _
        go_simp
        try with_reducible rfl
      try simp only [Act.put, List.setIfInBounds_toArray, List.set_cons_zero, List.set_cons_succ]
      refine wpAnyZ_load (i := 6) (oi := { dst := some 46, op := Op.load 43 (Operand.tmp 45), type := 43, pos := "model.go:163", after := #[{ on := 5, ground := Ground.data }], guard := none }) (v := .agg (lkC ln).toArray) rfl (by kernel_rfl) (by kernel_rfl) (by kernel_rfl) (fun _ _ _ h => h) (by decide) (by kernel_rfl) (by kernel_rfl) (yieldsIf_load_mid (by rfl) 43 (.tmp 45) (by rfl) lb (lo + j * 4) (by rfl) (lkC ln) _ (fun w' h => h.2.2) Tryd.underlying43 rfl infoLkS) hS0 ?_
      try simp only [Act.put, List.setIfInBounds_toArray, List.set_cons_zero, List.set_cons_succ]
      refine wpAnyZ_ready (rs := [7]) (by kernel_rfl) (by simp) ?_
      refine AllReadyZ.cons (o := { dst := some 47, op := Op.buildSlice 23 1 #[(0, Operand.tmp 46)], type := 23, pos := "model.go:163", after := #[{ on := 6, ground := Ground.data }], guard := none }) rfl (fun K hK => ?_) AllReadyZ.nil
      refine step_buildSlice13 (by rfl) 23 1 #[(0, .tmp 46)] (by rfl) #[(0, .agg (lkC ln).toArray)] (by simp only [List.map_toArray, List.map_cons, List.map_nil]; rfl) (lit_lk ln W3) ?_
      refine hK.out _ _ (fun _ => hS1) ?_
      clear hK K
      try simp only [Act.put, List.setIfInBounds_toArray, List.set_cons_zero, List.set_cons_succ]
      have hav := hlb2.out.2.1
      refine wpAnyZ_ready (rs := [8]) (by kernel_rfl) (by simp) ?_
      refine AllReadyZ.cons (o := { dst := some 48, op := Op.call { callee := Callee.builtin Builtin.append, args := #[Operand.tmp 41, Operand.tmp 47], argTypes := #[23, 23] }, type := 23, pos := "model.go:163", after := #[{ on := 1, ground := Ground.data }, { on := 7, ground := Ground.data }], guard := none }) rfl (fun K hK => ?_) AllReadyZ.nil
      refine step_append_row13 (by rfl) (.tmp 41) (.tmp 47) 23 (by rfl) hav i0 _ 32 Tryd.underlying23 hi0 hz0 hz1 hz2 rfl (by omega) (by rfl) ⟨W3.heap.size, 0, none⟩ 1 (lkC ln) (by rfl) (by rfl) (fun j u hj => news_of13 hna j u hj) (lkC_one ln) (by have := hwl.out; have := hi'.out; unfold maxLen; omega) (by have := hwl.out; have := hi'.out; omega) ?_
      intro g off2 cap2 w4 r1 r2 r3
      have hk4 := hlb2.out.2.2 w4 r2.out
      have hS2 := hk4.1
      have hcz := hk4.1.1.1
      have hfz := hk4.2.1
      have hnx := Lib.hid (hk4.2.2 g off2 cap2 r1.out r3.out)
      clear hk4 r1 r2 r3
      unfold WoS at hS2
      refine hK.out _ _ (fun _ => hS2) ?_
      clear hK K
      try simp only [Act.put, List.setIfInBounds_toArray, List.set_cons_zero, List.set_cons_succ]
      refine wpAnyZ_take (i := 9) (oi := { dst := some 49, op := Op.fieldAddr 35 (Operand.tmp 7) 2, type := 0, pos := "model.go:163", after := #[{ on := 0, ground := Ground.phase }, { on := 1, ground := Ground.phase }, { on := 2, ground := Ground.phase }, { on := 3, ground := Ground.phase }, { on := 4, ground := Ground.phase }, { on := 5, ground := Ground.phase }, { on := 6, ground := Ground.phase }, { on := 7, ground := Ground.phase }, { on := 8, ground := Ground.phase }], guard := none }) (v := ?zv9_24) rfl (by kernel_rfl) (by kernel_rfl) (by kernel_rfl) (fun _ _ _ h => h) (by decide) (Or.inl ⟨by rfl, ?zy9_24⟩) (fun _ => hS2) ?zrest9_24
      case zy9_24 =>
        intro w _
        go_simp
        try with_reducible rfl
      try simp only [Act.put, List.setIfInBounds_toArray, List.set_cons_zero, List.set_cons_succ]
      refine wpAnyZ_ready (rs := [10]) (by kernel_rfl) (by simp) ?_
      refine AllReadyZ.cons (o := { dst := none, op := Op.store 23 (Operand.tmp 49) (Operand.tmp 48), type := 0, pos := "model.go:163", after := #[{ on := 9, ground := Ground.data }, { on := 8, ground := Ground.data }, { on := 8, ground := Ground.chain }, { on := 0, ground := Ground.phase }, { on := 1, ground := Ground.phase }, { on := 2, ground := Ground.phase }, { on := 3, ground := Ground.phase }, { on := 4, ground := Ground.phase }, { on := 5, ground := Ground.phase }, { on := 6, ground := Ground.phase }, { on := 7, ground := Ground.phase }, { on := 8, ground := Ground.phase }], guard := none }) rfl (fun K hK => ?_) AllReadyZ.nil
      go_simp
      refine hK.out _ _ (fun h => absurd h (by decide)) ?_
      clear hK K
      try simp only [Act.put, List.setIfInBounds_toArray, List.set_cons_zero, List.set_cons_succ]
      refine wpAnyZ_done (by kernel_rfl) ?_ _
      clear hS0 hS1 hS2 hav hcz hfz hna hlb2 hla hdr hlook
      go_wp2
      go_roundw
      case rel => (repeat apply Exists.intro); first | exact ⟨⟨hi'.out, by go_num, hnx⟩, rfl⟩ | exact ⟨hi'.out, by go_num, hnx⟩
      case measure => have := hi'.out; simp [intOf]; omega
    · obtain rfl : i = L.length := by omega
      have hiz : ¬ (L.length : Int) < (L.length : Int) := by omega
      have hX1 := hI.out.wo
      have x0 := cell_of_block (o := 0) hX1 rfl
      have x1 := cell_of_block (o := 1) hX1 rfl
      have x2 := cell_of_block (o := 2) hX1 rfl
      have x3 := cell_of_block (o := 3) hX1 rfl
      have hRz := Lib.hid hI.out.rz
      have hrow := Lib.hid (setRow_heap wr R _ #[.slice a2 ql c2, .int .i64 k, u, .int .u64 M.seed] _ _ hRz.out)
      have hfin : Hid (Below w.heap.size w (wr.setRow R #[.slice a2 ql c2, .int .i64 k, u, .int .u64 M.seed]) ∧ Inss (wr.setRow R #[.slice a2 ql c2, .int .i64 k, u, .int .u64 M.seed]) a2 ql c2 (M.progs.getD k []) ∧ RowAt (wr.setRow R #[.slice a2 ql c2, .int .i64 k, u, .int .u64 M.seed]) 43 4 u (waysU (·.src) M.links k M.links.length).length (lksC M.links (waysU (·.src) M.links k M.links.length))) := by
        rw [hLL.out]
        have hro := hI.out.row
        rw [List.take_length] at hro
        exact Lib.hid ⟨below_row13 (hb6.out.trans (hI.out.b.mono hb6.out.size)) hord.out.2.1 _, hI.out.cl.keptOff (KeptOff.row wr R _) (fun j e e2 => by have h1 := (hcX.out j e).2.1; have h2 := (Array.getElem?_eq_some_iff.1 hwo2.out).1; have h3 : j = R := e2; omega), hro.kept (KeptOff.row wr R _) (fun j e e2 => (hI.out.own j e).2.2.2.1 e2)⟩
      obtain ⟨ua, uc, huv, -⟩ := hI.out.row.shape
      subst huv
      clear hI hi hX1
      go_wp2_with (refine wpList_store_row rfl 35 (.tmp 4) (.tmp 51) rfl R #[.slice a2 ql c2, .int .i64 k, .slice ua L.length uc, .int .u64 M.seed] rfl rfl 35 _ hRz.out infoWo rfl (by simp [Value.oneCell']) ?_)
      have s0 := cell_of_block (o := 0) hrow.out rfl
      have s1 := cell_of_block (o := 1) hrow.out rfl
      have s2 := cell_of_block (o := 2) hrow.out rfl
      have s3 := cell_of_block (o := 3) hrow.out rfl
      exact bodyPost_ret (v := .tuple #[.agg #[.slice a2 ql c2, .int .i64 k, .slice ua L.length uc, .int .u64 M.seed], .nilIface]) (by simp [results, Tryd.results25, go_sem, s0, s1, s2, s3]) rfl ⟨_, _, _, _, rfl, hfin⟩
end Go.Proofs.YtofkfajcibdneaaDoor
