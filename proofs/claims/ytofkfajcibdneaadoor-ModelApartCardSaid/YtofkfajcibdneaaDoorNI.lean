
/-
  The document's own World of a process of a model that may be: the walk.
-/
import Derived.Test.YtofkfajcibdneaaDoorNH
namespace Go.Proofs.YtofkfajcibdneaaDoor
open Go.ChangeShapes Go.WideShapes Go.ChangeAt Go.Shelf Go.RowKit Go.Lib Go.Sort Go.Deep
set_option linter.unusedVariables false
set_option linter.unusedSimpArgs false
set_option maxRecDepth 4000

theorem checkM_zero {M : Md} (h : checkM M = 0) : okArg M ∧ okProgs M ∧ okLinks M ∧ okStarts M := by
  by_cases h1 : okArg M
  · by_cases h2 : okProgs M
    · by_cases h3 : okLinks M
      · by_cases h4 : okStarts M
        · exact ⟨h1, h2, h3, h4⟩
        · rw [checkM_starts h1 h2 h3 h4] at h; cases h
      · rw [checkM_links h1 h2 h3] at h; cases h
    · rw [checkM_progs h1 h2] at h; cases h
  · rw [checkM_arg h1] at h; cases h
theorem waysU_lt (f : Lk → Int) (ls : List Lk) (n : Int) (i : Nat) : ∀ j ∈ waysU f ls n i, j < i := by
  intro j hj
  have := (List.mem_filter.1 hj).1
  exact List.mem_range.1 this
section
variable {P : Program} {ops : Array Oper} {E : Prop} {o : Oper} {a : Act} {w w2 : World} {K : Act → World → Prop} {Q : Exit → Act → World → Prop}
theorem step_append_row13 (hgd : o.guard = none) (s x : Operand) (t : TypeId) (ho : o.op = .call { callee := .builtin .append, args := #[s, x], argTypes := #[t, t] })
    {e : TypeId} {sz n : Nat} {v : Value} {xs : List Value} (h : RowAt w e sz v n xs) (i : TypeInfo) (z : Value) (bytes : Nat) (ht : P.underlying t = some (.slice e)) (hi : P.info? e = some i) (hz : i.zero = some z) (hsize : i.size = sz) (hby : i.bytes = bytes)
    (hzs : z.cells.size = sz) (hsz : 0 < sz) (hs : a.eval s = v) (ad : Addr) (c : Nat) (news : List Value) (hx : a.eval x = .slice (some ad) 1 c) (hl : news.length = sz) (hnews : ∀ j u, news[j]? = some u → w.cell? (ad.add j) = some u) (h1 : ∀ u ∈ news, u.oneCell' = true)
    (h63 : n + 1 ≤ maxLen) (hbytes : (n + 1) * bytes ≤ 140737488355328)
    (hK : ∀ g off cap w', Hid (RowIn w' e sz g off (n + 1) cap (xs ++ news)) → Hid (KeptOff (fun k => v.ownBlock = some k) w w') → Hid (v.ownBlock = some g ∨ w.heap.size ≤ g) → K (a.put o.dst (.slice (some ⟨g, off, none⟩) (n + 1) cap)) w') :
    if Region.wanted o (yielded ops a.tmps) = true then Oper.wp P o a w K Q else E := by
  have hw : Region.wanted o (yielded ops a.tmps) = true := by simp [Region.wanted, hgd]
  rw [if_pos hw]
  obtain ⟨g, off, cap, w', hrun, r1, r2, r3⟩ := h.append (P := P) t o.type i z bytes ht hi hz hsize hby hzs hsz ad c news hl hnews h1 h63 hbytes
  unfold Oper.wp
  simp [execOp, ho, resolve, invoke, builtin, hs, hx, hrun, Result.andThen]
  exact hK g off cap w' r1 r2 r3
theorem step_buildSlice13 (hgd : o.guard = none) (t : TypeId) (n : Nat) (parts : Array (Nat × Operand)) (ho : o.op = .buildSlice t n parts) (vals : Array (Nat × Value)) (hv : parts.map (fun (i, x) => (i, a.eval x)) = vals) {u : Value}
    (hb : (Instr.buildSlice t n vals).run P w = .ok u w2) (h : K (a.put o.dst u) w2) : if Region.wanted o (yielded ops a.tmps) = true then Oper.wp P o a w K Q else E := by
  have hw : Region.wanted o (yielded ops a.tmps) = true := by simp [Region.wanted, hgd]
  rw [if_pos hw]
  unfold Oper.wp execOp
  simp only [ho, hv]
  simp [hb, Result.andThen]
  exact h
theorem step_store_row (hgd : o.guard = none) (ty : TypeId) (x y : Operand) (ho : o.op = .store ty x y) (g : Nat) (cells : Array Value) (hx : a.eval x = .pointer (some ⟨g, 0, none⟩)) (hy : a.eval y = .agg cells)
    (t : TypeId) (old : Array Value) (hg : w.heap[g]? = some (.cells old t (0, 0))) (hi : (P.info? ty).map (·.size) = some cells.size) (hold : old.size = cells.size) (h1 : cells.all (·.oneCell') = true)
    (h : K (a.put o.dst undef) (w.setRow g cells)) : if Region.wanted o (yielded ops a.tmps) = true then Oper.wp P o a w K Q else E := by
  have hw : Region.wanted o (yielded ops a.tmps) = true := by simp [Region.wanted, hgd]
  rw [if_pos hw]
  exact wp_store_row ty x y ho g cells hx hy t old hg hi hold h1 h
end
set_option maxHeartbeats 16000000 in
set_option maxRecDepth 100000 in
theorem r13World_ok {w : World} {v : Mv} {M : Md} (h : Mds w v M) (hc : checkM M = 0) (k : Nat) (hk : k < v.pl) : Calls Tryd.prog 13 #[v.val M, .int .i64 k] w fun e w' => ∃ (qa : Option Addr) (ql qc : Nat) (u : Value), e = .returned (.tuple #[.agg (woC (.slice qa ql qc) k u M.seed), .int .i64 0]) ∧
    Hid (Below w.heap.size w w' ∧ Inss w qa ql qc (M.progs.getD k []) ∧ RowAt w' 43 4 u (waysU (·.src) M.links k M.links.length).length (lksC M.links (waysU (·.src) M.links k M.links.length)) ∧ ∀ j, u.ownBlock = some j → w.heap.size ≤ j) := by
  have mixed := mixed
  have hll : v.ll ≤ 1024 := by have := (checkM_zero hc).2.2.1.1; have := h.2.1.1; omega
  have hpl : v.pl ≤ 16 := by have := (checkM_zero hc).1.1.2; have := h.1.1; omega
  have hlt : ∀ j ∈ waysU (·.src) M.links k M.links.length, j < v.ll := fun j hj => by have := waysU_lt _ _ _ _ j hj; have := h.2.1.1; omega
  have hwl0 := waysU_len (·.src) M.links k M.links.length
  obtain ⟨pb, po, qa, ql, qc, hpa, hpr⟩ := h.1.get hk
  obtain ⟨pa, pl, pc, la, ll, lc, sa, sl, sc⟩ := v
  dsimp only at hpa hk hll hpl hlt
  subst hpa
  have hmd := Lib.hid h
  have hb1 := (Below.refl _ w).alloc (Nat.le_refl _) (.cells (Mv.cells ⟨some ⟨pb, po, none⟩, pl, pc, la, ll, lc, sa, sl, sc⟩ M) 27)
  have hb2 : Hid (Below w.heap.size w ((w.alloc (.cells (Mv.cells ⟨some ⟨pb, po, none⟩, pl, pc, la, ll, lc, sa, sl, sc⟩ M) 27)).alloc (.cells woZ 35))) := hb1.alloc hb1.size _
  have hbx := Lib.hid (h.box.below ((Below.refl _ (w.alloc (.cells (Mv.cells ⟨some ⟨pb, po, none⟩, pl, pc, la, ll, lc, sa, sl, sc⟩ M) 27))).alloc (Nat.le_refl _) (.cells woZ 35)))
  have hwo := Lib.hid (heap_alloc_new (w.alloc (.cells (Mv.cells ⟨some ⟨pb, po, none⟩, pl, pc, la, ll, lc, sa, sl, sc⟩ M) 27)) (.cells woZ 35))
  have hR : Hid ((w.alloc (.cells (Mv.cells ⟨some ⟨pb, po, none⟩, pl, pc, la, ll, lc, sa, sl, sc⟩ M) 27)).heap.size = w.heap.size + 1) := by show _ = _; simp
  have hpr' := Lib.hid hpr
  have hh1 : Hid (M.links.length = ll) := h.2.1.1
  clear h hb1 hpr
  rw [hR.out] at hwo
  obtain ⟨L, hL⟩ : ∃ L, Hid (waysU (·.src) M.links k M.links.length = L) := ⟨_, Lib.hid rfl⟩
  rw [hL.out] at hlt hwl0
  have hlt' := Lib.hid hlt
  have hwl : Hid (L.length ≤ 1024) := by have := hh1.out; show _ ≤ _; omega
  clear hlt hwl0
  obtain ⟨i0, hi0, hz0, hz1, hz2⟩ := info_parts13 infoLk13
  simp only [Mv.val, Mv.cells, woZ, woC] at hbx hb2 hwo ⊢
  go_enter Tryd.func13, Tryd.ntmps13
  go_upto_region 1 with fail
  generalize (w.alloc (.cells #[.slice (some ⟨pb, po, none⟩) pl pc, .slice la ll lc, .slice sa sl sc, .int .u64 M.seed, .int .i64 M.last, .int .i64 M.bud] 27)).alloc (.cells #[.slice none 0 0, .int .i64 0, .slice none 0 0, .int .u64 0] 35) = W at *
  obtain ⟨R, hRR⟩ : ∃ R, w.heap.size + 1 = R := ⟨_, rfl⟩
  obtain ⟨B, hBB⟩ : ∃ B, w.heap.size = B := ⟨_, rfl⟩
  have hord : Hid (w.heap.size ≤ B ∧ w.heap.size ≤ R ∧ R ≠ B) := Lib.hid ⟨by omega, by omega, by omega⟩
  rw [hRR] at hwo ⊢
  rw [hBB] at hbx ⊢
  clear hRR hBB hR
  have hck := Lib.hid (r13Check_any hbx.out.2)
  have c0 := hbx.out.c0
  have c1 := hbx.out.c1
  have c2 := hbx.out.c2
  have c3 := hbx.out.c3
  have c4 := hbx.out.c4
  have c5 := hbx.out.c5
  simp only [Mv.val, Mv.cells] at hck
  dsimp only at c0 c1 c2
  rw [hc] at hck
  clear hc
  have hkz : ¬ (pl : Int) ≤ (k : Int) := by omega
  have hkz2 : (k : Int) < (pl : Int) := by omega
  go_upto_region 4 with (go_at_call 10; refine hck.out.mono ?_; rintro e w2 ⟨rfl, hb3⟩)
  have hwo2 := Lib.hid ((hb3.out.block R (Array.getElem?_eq_some_iff.1 hwo.out).1).trans hwo.out)
  have hb4 : Hid (Below w.heap.size w w2) := hb2.out.trans (hb3.out.mono hb2.out.size)
  have hbx2 := Lib.hid (hbx.out.below hb3.out)
  have hse : Hid (∀ W, Below w2.heap.size w2 W → (W.cell? ⟨B, 0, none⟩ = some (.slice (some ⟨pb, po, none⟩) pl pc) ∧ W.cell? ⟨B, 3, none⟩ = some (.int .u64 M.seed)) ∧ W.cell? ⟨pb, po + k, none⟩ = some (.slice qa ql qc)) := Lib.hid (fun W hb => ⟨⟨(hbx2.out.below hb).c0, (hbx2.out.below hb).c3⟩, (hpr'.out.below (hb4.out.trans (hb.mono hb4.out.size))).2.1⟩)
  clear c0 c1 c2 c3 c4 c5 hck hb3 hb2 hbx hwo
  have c0 := hbx2.out.c0
  dsimp only at c0
  go_upto_region 6 with fail
  clear c0
  refine wp_region_Z (fun W => (W.cell? ⟨B, 0, none⟩ = some (.slice (some ⟨pb, po, none⟩) pl pc) ∧ W.cell? ⟨B, 3, none⟩ = some (.int .u64 M.seed)) ∧ W.cell? ⟨pb, po + k, none⟩ = some (.slice qa ql qc)) 10 (by kernel_rfl) ?_
  have hS0 := hse.out w2.drew (Below.refl _ w2).drew
  have hdr : Hid (Below w2.heap.size w2 w2.drew) := (Below.refl _ w2).drew
  generalize w2.drew = W3 at *
  have hS1 := hse.out (W3.alloc (.cells #[.slice none 0 0, .int .i64 0, .slice none 0 0, .int .u64 0] 35)) (hdr.out.alloc hdr.out.size _)
  have hna := heap_alloc_new W3 (.cells #[.slice none 0 0, .int .i64 0, .slice none 0 0, .int .u64 0] 35)
  refine wpAnyZ_take (i := 0) (oi := { dst := some 26, op := Op.fieldAddr 27 (Operand.tmp 2) 0, type := 0, pos := "ref.go:103", after := #[], guard := none }) (v := ?zv0_1) rfl (by kernel_rfl) (by kernel_rfl) (by kernel_rfl) (fun _ _ _ h => h) (by decide) (Or.inl ⟨by rfl, ?zy0_1⟩) (fun _ => hS0) ?zrest0_1
  case zy0_1 =>
    intro w _
    go_simp
    try with_reducible rfl
  try simp only [Act.put, List.setIfInBounds_toArray, List.set_cons_zero, List.set_cons_succ]
  refine wpAnyZ_load (i := 1) (oi := { dst := some 27, op := Op.load 22 (Operand.tmp 26), type := 22, pos := "ref.go:103", after := #[{ on := 0, ground := Ground.data }], guard := none }) (v := ?zv1_2) rfl (by kernel_rfl) (by kernel_rfl) (by kernel_rfl) (fun _ _ _ h => h) (by decide) (by kernel_rfl) (by kernel_rfl) (Or.inl ⟨by rfl, ?zy1_2⟩) hS0 ?zrest1_2
  case zy1_2 =>
    intro w hSw
    have c := hSw.1.1
    go_simp
    try with_reducible rfl
  try simp only [Act.put, List.setIfInBounds_toArray, List.set_cons_zero, List.set_cons_succ]
  refine wpAnyZ_take (i := 2) (oi := { dst := some 28, op := Op.move (Operand.tmp 1), type := 3, pos := "ref.go:103", after := #[], guard := none }) (v := ?zv2_3) rfl (by kernel_rfl) (by kernel_rfl) (by kernel_rfl) (fun _ _ _ h => h) (by decide) (Or.inl ⟨by rfl, ?zy2_3⟩) (fun _ => hS0) ?zrest2_3
  case zy2_3 =>
    intro w _
    go_simp
    try with_reducible rfl
  try simp only [Act.put, List.setIfInBounds_toArray, List.set_cons_zero, List.set_cons_succ]
  refine wpAnyZ_take (i := 3) (oi := { dst := some 29, op := Op.indexAddr 22 (Operand.tmp 27) (Operand.tmp 28), type := 0, pos := "ref.go:103", after := #[{ on := 1, ground := Ground.data }, { on := 2, ground := Ground.data }], guard := none }) (v := ?zv3_4) rfl (by kernel_rfl) (by kernel_rfl) (by kernel_rfl) (fun _ _ _ h => h) (by decide) (Or.inl ⟨by rfl, ?zy3_4⟩) (fun _ => hS0) ?zrest3_4
  case zy3_4 =>
    intro w _
    go_simp
    try with_reducible rfl
  try simp only [Act.put, List.setIfInBounds_toArray, List.set_cons_zero, List.set_cons_succ]
  refine wpAnyZ_load (i := 4) (oi := { dst := some 30, op := Op.load 33 (Operand.tmp 29), type := 33, pos := "ref.go:103", after := #[{ on := 3, ground := Ground.data }], guard := none }) (v := ?zv4_5) rfl (by kernel_rfl) (by kernel_rfl) (by kernel_rfl) (fun _ _ _ h => h) (by decide) (by kernel_rfl) (by kernel_rfl) (Or.inl ⟨by rfl, ?zy4_5⟩) hS0 ?zrest4_5
  case zy4_5 =>
    intro w hSw
    have c := hSw.2
    go_simp
    try with_reducible rfl
  try simp only [Act.put, List.setIfInBounds_toArray, List.set_cons_zero, List.set_cons_succ]
  refine wpAnyZ_take (i := 5) (oi := { dst := some 31, op := Op.move (Operand.tmp 1), type := 3, pos := "ref.go:103", after := #[], guard := none }) (v := ?zv5_6) rfl (by kernel_rfl) (by kernel_rfl) (by kernel_rfl) (fun _ _ _ h => h) (by decide) (Or.inl ⟨by rfl, ?zy5_6⟩) (fun _ => hS0) ?zrest5_6
  case zy5_6 =>
    intro w _
    go_simp
    try with_reducible rfl
  try simp only [Act.put, List.setIfInBounds_toArray, List.set_cons_zero, List.set_cons_succ]
  refine wpAnyZ_take (i := 6) (oi := { dst := some 32, op := Op.fieldAddr 27 (Operand.tmp 2) 3, type := 0, pos := "ref.go:103", after := #[], guard := none }) (v := ?zv6_7) rfl (by kernel_rfl) (by kernel_rfl) (by kernel_rfl) (fun _ _ _ h => h) (by decide) (Or.inl ⟨by rfl, ?zy6_7⟩) (fun _ => hS0) ?zrest6_7
  case zy6_7 =>
    intro w _
    go_simp
    try with_reducible rfl
  try simp only [Act.put, List.setIfInBounds_toArray, List.set_cons_zero, List.set_cons_succ]
  refine wpAnyZ_load (i := 7) (oi := { dst := some 33, op := Op.load 25 (Operand.tmp 32), type := 25, pos := "ref.go:103", after := #[{ on := 6, ground := Ground.data }], guard := none }) (v := ?zv7_8) rfl (by kernel_rfl) (by kernel_rfl) (by kernel_rfl) (fun _ _ _ h => h) (by decide) (by kernel_rfl) (by kernel_rfl) (Or.inl ⟨by rfl, ?zy7_8⟩) hS0 ?zrest7_8
  case zy7_8 =>
    intro w hSw
    have c := hSw.1.2
    go_simp
    try with_reducible rfl
  try simp only [Act.put, List.setIfInBounds_toArray, List.set_cons_zero, List.set_cons_succ]
  refine wpAnyZ_take (i := 8) (oi := { dst := some 34, op := Op.build 35 #[(0, Operand.tmp 30), (1, Operand.tmp 31), (3, Operand.tmp 33)], type := 35, pos := "ref.go:103", after := #[{ on := 4, ground := Ground.data }, { on := 5, ground := Ground.data }, { on := 7, ground := Ground.data }], guard := none }) (v := ?zv8_9) rfl (by kernel_rfl) (by kernel_rfl) (by kernel_rfl) (fun _ _ _ h => h) (by decide) (Or.inl ⟨by rfl, ?zy8_9⟩) (fun _ => hS0) ?zrest8_9
  case zy8_9 =>
    intro w _
    go_simp
    try with_reducible rfl
  try simp only [Act.put, List.setIfInBounds_toArray, List.set_cons_zero, List.set_cons_succ]
  refine wpAnyZ_ready (rs := [9]) (by kernel_rfl) (by simp) ?_
  refine AllReadyZ.cons (o := { dst := some 7, op := Op.alloc 35, type := 0, pos := "ref.go:103", after := #[], guard := none }) rfl (fun K hK => ?_) AllReadyZ.nil
  go_simp
  refine hK.out _ _ (fun _ => hS1) ?_
  clear hK K
  try simp only [Act.put, List.setIfInBounds_toArray, List.set_cons_zero, List.set_cons_succ]
  refine wpAnyZ_ready (rs := [10]) (by kernel_rfl) (by simp) ?_
  refine AllReadyZ.cons (o := { dst := none, op := Op.store 35 (Operand.tmp 7) (Operand.tmp 34), type := 0, pos := "ref.go:103", after := #[{ on := 9, ground := Ground.data }, { on := 8, ground := Ground.data }, { on := 0, ground := Ground.phase }, { on := 1, ground := Ground.phase }, { on := 2, ground := Ground.phase }, { on := 3, ground := Ground.phase }, { on := 4, ground := Ground.phase }, { on := 5, ground := Ground.phase }, { on := 6, ground := Ground.phase }, { on := 7, ground := Ground.phase }, { on := 8, ground := Ground.phase }, { on := 9, ground := Ground.phase }], guard := none }) rfl (fun K hK => ?_) AllReadyZ.nil
  refine step_store_row (by rfl) 35 (.tmp 7) (.tmp 34) (by rfl) W3.heap.size #[.slice qa ql qc, .int .i64 k, .slice none 0 0, .int .u64 M.seed] (by rfl) (by rfl) 35 _ hna infoWo rfl (by simp [Value.oneCell']) ?_
  refine hK.out _ _ (fun h => absurd h (by decide)) ?_
  clear hK K
  try simp only [Act.put, List.setIfInBounds_toArray, List.set_cons_zero, List.set_cons_succ]
  refine wpAnyZ_done (by kernel_rfl) ?_ _
  have hX : Hid (W3.heap.size ≠ B ∧ W3.heap.size ≠ R ∧ w.heap.size ≤ W3.heap.size) := Lib.hid ⟨by have := hbx2.out.lt; have := hdr.out.size; omega, by have := (Array.getElem?_eq_some_iff.1 hwo2.out).1; have := hdr.out.size; omega, Nat.le_trans hb4.out.size hdr.out.size⟩
  have hb5 : Hid (Below w2.heap.size w2 ((W3.alloc (.cells #[.slice none 0 0, .int .i64 0, .slice none 0 0, .int .u64 0] 35)).setRow W3.heap.size #[.slice qa ql qc, .int .i64 k, .slice none 0 0, .int .u64 M.seed])) := below_row13 (hdr.out.alloc hdr.out.size _) hdr.out.size _
  have hwx := Lib.hid (setRow_heap _ W3.heap.size _ #[.slice qa ql qc, .int .i64 k, .slice none 0 0, .int .u64 M.seed] _ _ hna)
  clear hS0 hS1 hna hse hdr
  go_upto_region 7 with fail
  generalize (W3.alloc (.cells #[.slice none 0 0, .int .i64 0, .slice none 0 0, .int .u64 0] 35)).setRow W3.heap.size #[.slice qa ql qc, .int .i64 k, .slice none 0 0, .int .u64 M.seed] = W4 at *
  generalize W3.heap.size = X at *
  have hbx4 := Lib.hid (hbx2.out.below hb5.out)
  have hwo4 := Lib.hid ((hb5.out.block R (Array.getElem?_eq_some_iff.1 hwo2.out).1).trans hwo2.out)
  have hb6 : Hid (Below w.heap.size w W4) := hb4.out.trans (hb5.out.mono hb4.out.size)
  have hwy := Lib.hid (r13Ways_any hbx4.out.2 (k : Int) (by show ll ≤ _; omega))
  simp only [Mv.val, Mv.cells] at hwy
  have c0 := hbx4.out.c0
  have c1 := hbx4.out.c1
  have c2 := hbx4.out.c2
  have c3 := hbx4.out.c3
  have c4 := hbx4.out.c4
  have c5 := hbx4.out.c5
  dsimp only at c0 c1 c2
  clear hbx2 hwo2 hb4 hb5
  go_upto_region 8 with (go_at_call 26; refine hwy.out.mono ?_; rintro e w5 ⟨av, rfl, hWy⟩)
  have hI : Hid (WoI w B X R ⟨some ⟨pb, po, none⟩, pl, pc, la, ll, lc, sa, sl, sc⟩ M k (.slice qa ql qc) av L 0 (.slice none 0 0) w5) := by
    obtain ⟨B2, hy⟩ := hWy.out
    have hro := hy.row
    rw [hL.out] at hro
    exact ⟨hb6.out.trans (hy.b.mono hb6.out.size), (hbx4.out.below hy.b).1, hmd.out, (hy.b.block X (Array.getElem?_eq_some_iff.1 hwx.out).1).trans hwx.out, (hy.b.block R (Array.getElem?_eq_some_iff.1 hwo4.out).1).trans hwo4.out, hro, RowAt.nil _ _ _, hX.out.2.2, hord.out.2.1, ⟨hX.out.1, hX.out.2.1⟩, fun j e e2 => by
      have h1 := (hy.own j e).1
      have h2 := (Array.getElem?_eq_some_iff.1 hwx.out).1
      omega, fun j e => by cases e⟩
  obtain ⟨aa, ac, hav, hac⟩ := hI.out.ways.shape
  subst hav
  clear c0 c1 c2 c3 c4 c5 hwy hWy hbx4 hwo4 hwx hb6 hX
  go_wp2
  go_loopw [9] (fun s9 wr => ∃ (i : Nat) (u : Value), i ≤ L.length ∧ s9 = .int .i64 i ∧ Hid (WoI w B X R ⟨some ⟨pb, po, none⟩, pl, pc, la, ll, lc, sa, sl, sc⟩ M k (.slice qa ql qc) (.slice aa L.length ac) L i u wr)) (fun s9 _ => L.length - (intOf s9).toNat)
  case atStart => exact ⟨0, _, Nat.zero_le _, rfl, hI⟩
  case round =>
    clear hI
    obtain ⟨i, u, hil, rfl, hI⟩ := hrel
    by_cases hi : i < L.length
    · have hiz : (i : Int) < (L.length : Int) := by omega
      have hi' := Lib.hid hi
      obtain ⟨ag, ao, ac2, j, lb, lo, ln, hav, hac2, hj, hla, hlook⟩ := hI.out.look hi hlt'.out
      simp only [Value.slice.injEq, true_and] at hav
      obtain ⟨rfl, rfl⟩ := hav
      dsimp only at hj hla hlook
      have hjz : (j : Int) < (ll : Int) := by omega
      have hw1 : IntKind.i64.wrap ((i : Int) + 1) = (i : Int) + 1 := IntWalk.i64_in _ (by have := hwl.out; omega)
      clear hI hi hla
      go_upto_region 11 with fail
      refine wp_region_Z (WoS X B ag ao i j lb lo ll lc u ln) 13 (by kernel_rfl) ?_
      have hla := Lib.hid (hlook.out wr.drew (Below.refl _ wr).drew)
      have hdr : Hid (Below wr.heap.size wr wr.drew) := (Below.refl _ wr).drew
      generalize wr.drew = W3 at *
      have hS0 := hla.out.1
      have hlb2 := Lib.hid (hlook.out (W3.alloc (.cells (lkC ln).toArray 43)) (hdr.out.alloc hdr.out.size _))
      have hS1 := hlb2.out.1
      have hna := heap_alloc_new W3 (.cells (lkC ln).toArray 43)
      unfold WoS at hS0 hS1
      refine wpAnyZ_take (i := 0) (oi := { dst := some 44, op := Op.fieldAddr 35 (Operand.tmp 7) 2, type := 0, pos := "ref.go:106", after := #[], guard := none }) (v := ?zv0_10) rfl (by kernel_rfl) (by kernel_rfl) (by kernel_rfl) (fun _ _ _ h => h) (by decide) (Or.inl ⟨by rfl, ?zy0_10⟩) (fun _ => hS0) ?zrest0_10
      case zy0_10 =>
        intro w _
        go_simp
        try with_reducible rfl
      try simp only [Act.put, List.setIfInBounds_toArray, List.set_cons_zero, List.set_cons_succ]
      refine wpAnyZ_load (i := 1) (oi := { dst := some 45, op := Op.load 23 (Operand.tmp 44), type := 23, pos := "ref.go:106", after := #[{ on := 0, ground := Ground.data }], guard := none }) (v := ?zv1_11) rfl (by kernel_rfl) (by kernel_rfl) (by kernel_rfl) (fun _ _ _ h => h) (by decide) (by kernel_rfl) (by kernel_rfl) (Or.inl ⟨by rfl, ?zy1_11⟩) hS0 ?zrest1_11
      case zy1_11 =>
        intro w hSw
        have c := hSw.1.1
        go_simp
        try with_reducible rfl
      try simp only [Act.put, List.setIfInBounds_toArray, List.set_cons_zero, List.set_cons_succ]
      refine wpAnyZ_take (i := 2) (oi := { dst := some 46, op := Op.fieldAddr 27 (Operand.tmp 2) 1, type := 0, pos := "ref.go:106", after := #[], guard := none }) (v := ?zv2_12) rfl (by kernel_rfl) (by kernel_rfl) (by kernel_rfl) (fun _ _ _ h => h) (by decide) (Or.inl ⟨by rfl, ?zy2_12⟩) (fun _ => hS0) ?zrest2_12
      case zy2_12 =>
        intro w _
        go_simp
        try with_reducible rfl
      try simp only [Act.put, List.setIfInBounds_toArray, List.set_cons_zero, List.set_cons_succ]
      refine wpAnyZ_load (i := 3) (oi := { dst := some 47, op := Op.load 23 (Operand.tmp 46), type := 23, pos := "ref.go:106", after := #[{ on := 2, ground := Ground.data }], guard := none }) (v := ?zv3_13) rfl (by kernel_rfl) (by kernel_rfl) (by kernel_rfl) (fun _ _ _ h => h) (by decide) (by kernel_rfl) (by kernel_rfl) (Or.inl ⟨by rfl, ?zy3_13⟩) hS0 ?zrest3_13
      case zy3_13 =>
        intro w hSw
        have c := hSw.1.2
        go_simp
        try with_reducible rfl
      try simp only [Act.put, List.setIfInBounds_toArray, List.set_cons_zero, List.set_cons_succ]
      refine wpAnyZ_take (i := 4) (oi := { dst := some 48, op := Op.move (Operand.tmp 8), type := 52, pos := "ref.go:106", after := #[], guard := none }) (v := ?zv4_14) rfl (by kernel_rfl) (by kernel_rfl) (by kernel_rfl) (fun _ _ _ h => h) (by decide) (Or.inl ⟨by rfl, ?zy4_14⟩) (fun _ => hS0) ?zrest4_14
      case zy4_14 =>
        intro w _
        go_simp
        try with_reducible rfl
      try simp only [Act.put, List.setIfInBounds_toArray, List.set_cons_zero, List.set_cons_succ]
      refine wpAnyZ_take (i := 5) (oi := { dst := some 49, op := Op.move (Operand.tmp 9), type := 3, pos := "ref.go:106", after := #[], guard := none }) (v := ?zv5_15) rfl (by kernel_rfl) (by kernel_rfl) (by kernel_rfl) (fun _ _ _ h => h) (by decide) (Or.inl ⟨by rfl, ?zy5_15⟩) (fun _ => hS0) ?zrest5_15
      case zy5_15 =>
        intro w _
        go_simp
        try with_reducible rfl
      try simp only [Act.put, List.setIfInBounds_toArray, List.set_cons_zero, List.set_cons_succ]
      refine wpAnyZ_take (i := 6) (oi := { dst := some 50, op := Op.indexAddr 52 (Operand.tmp 48) (Operand.tmp 49), type := 0, pos := "ref.go:106", after := #[{ on := 4, ground := Ground.data }, { on := 5, ground := Ground.data }], guard := none }) (v := ?zv6_16) rfl (by kernel_rfl) (by kernel_rfl) (by kernel_rfl) (fun _ _ _ h => h) (by decide) (Or.inl ⟨by rfl, ?zy6_16⟩) (fun _ => hS0) ?zrest6_16
      case zy6_16 =>
        intro w _
        go_simp
        try with_reducible rfl
      try simp only [Act.put, List.setIfInBounds_toArray, List.set_cons_zero, List.set_cons_succ]
      refine wpAnyZ_load (i := 7) (oi := { dst := some 51, op := Op.load 3 (Operand.tmp 50), type := 3, pos := "ref.go:106", after := #[{ on := 6, ground := Ground.data }], guard := none }) (v := ?zv7_17) rfl (by kernel_rfl) (by kernel_rfl) (by kernel_rfl) (fun _ _ _ h => h) (by decide) (by kernel_rfl) (by kernel_rfl) (Or.inl ⟨by rfl, ?zy7_17⟩) hS0 ?zrest7_17
      case zy7_17 =>
        intro w hSw
        have c := hSw.2.1
        go_simp
        try with_reducible rfl
      try simp only [Act.put, List.setIfInBounds_toArray, List.set_cons_zero, List.set_cons_succ]
      refine wpAnyZ_take (i := 8) (oi := { dst := some 52, op := Op.indexAddr 23 (Operand.tmp 47) (Operand.tmp 51), type := 0, pos := "ref.go:106", after := #[{ on := 3, ground := Ground.data }, { on := 7, ground := Ground.data }], guard := none }) (v := ?zv8_18) rfl (by kernel_rfl) (by kernel_rfl) (by kernel_rfl) (fun _ _ _ h => h) (by decide) (Or.inl ⟨by rfl, ?zy8_18⟩) (fun _ => hS0) ?zrest8_18
      case zy8_18 =>
        intro w _
        go_simp
        try with_reducible rfl
      try simp only [Act.put, List.setIfInBounds_toArray, List.set_cons_zero, List.set_cons_succ]
      refine wpAnyZ_load (i := 9) (oi := { dst := some 53, op := Op.load 43 (Operand.tmp 52), type := 43, pos := "ref.go:106", after := #[{ on := 8, ground := Ground.data }], guard := none }) (v := .agg (lkC ln).toArray) rfl (by kernel_rfl) (by kernel_rfl) (by kernel_rfl) (fun _ _ _ h => h) (by decide) (by kernel_rfl) (by kernel_rfl) (yieldsIf_load_mid (by rfl) 43 (.tmp 52) (by rfl) lb (lo + j * 4) (by rfl) (lkC ln) _ (fun w' h => h.2.2) Tryd.underlying43 rfl infoLkS) hS0 ?_
      try simp only [Act.put, List.setIfInBounds_toArray, List.set_cons_zero, List.set_cons_succ]
      refine wpAnyZ_ready (rs := [10]) (by kernel_rfl) (by simp) ?_
      refine AllReadyZ.cons (o := { dst := some 54, op := Op.buildSlice 23 1 #[(0, Operand.tmp 53)], type := 23, pos := "ref.go:106", after := #[{ on := 9, ground := Ground.data }], guard := none }) rfl (fun K hK => ?_) AllReadyZ.nil
      refine step_buildSlice13 (by rfl) 23 1 #[(0, .tmp 53)] (by rfl) #[(0, .agg (lkC ln).toArray)] (by simp only [List.map_toArray, List.map_cons, List.map_nil]; rfl) (lit_lk ln W3) ?_
      refine hK.out _ _ (fun _ => hS1) ?_
      clear hK K
      try simp only [Act.put, List.setIfInBounds_toArray, List.set_cons_zero, List.set_cons_succ]
      have hav := hlb2.out.2.1
      refine wpAnyZ_ready (rs := [11]) (by kernel_rfl) (by simp) ?_
      refine AllReadyZ.cons (o := { dst := some 55, op := Op.call { callee := Callee.builtin Builtin.append, args := #[Operand.tmp 45, Operand.tmp 54], argTypes := #[23, 23] }, type := 23, pos := "ref.go:106", after := #[{ on := 1, ground := Ground.data }, { on := 10, ground := Ground.data }], guard := none }) rfl (fun K hK => ?_) AllReadyZ.nil
      refine step_append_row13 (by rfl) (.tmp 45) (.tmp 54) 23 (by rfl) hav i0 _ 32 Tryd.underlying23 hi0 hz0 hz1 hz2 rfl (by omega) (by rfl) ⟨W3.heap.size, 0, none⟩ 1 (lkC ln) (by rfl) (by rfl) (fun j u hj => news_of13 hna j u hj) (lkC_one ln) (by have := hwl.out; have := hi'.out; unfold maxLen; omega) (by have := hwl.out; have := hi'.out; omega) ?_
      intro g off2 cap2 w4 r1 r2 r3
      have hk4 := hlb2.out.2.2 w4 r2.out
      have hS2 := hk4.1
      have hcz := hk4.1.1.1
      have hfz := hk4.2.1
      have hnx := Lib.hid (hk4.2.2 g off2 cap2 r1.out r3.out)
      clear hk4 r1 r2 r3
      unfold WoS at hS2
      refine hK.out _ _ (fun _ => hS2) ?_
      clear hK K
      try simp only [Act.put, List.setIfInBounds_toArray, List.set_cons_zero, List.set_cons_succ]
      refine wpAnyZ_take (i := 12) (oi := { dst := some 56, op := Op.fieldAddr 35 (Operand.tmp 7) 2, type := 0, pos := "ref.go:106", after := #[{ on := 0, ground := Ground.phase }, { on := 1, ground := Ground.phase }, { on := 2, ground := Ground.phase }, { on := 3, ground := Ground.phase }, { on := 4, ground := Ground.phase }, { on := 5, ground := Ground.phase }, { on := 6, ground := Ground.phase }, { on := 7, ground := Ground.phase }, { on := 8, ground := Ground.phase }, { on := 9, ground := Ground.phase }, { on := 10, ground := Ground.phase }, { on := 11, ground := Ground.phase }], guard := none }) (v := ?zv12_19) rfl (by kernel_rfl) (by kernel_rfl) (by kernel_rfl) (fun _ _ _ h => h) (by decide) (Or.inl ⟨by rfl, ?zy12_19⟩) (fun _ => hS2) ?zrest12_19
      case zy12_19 =>
        intro w _
        go_simp
        try with_reducible rfl
      try simp only [Act.put, List.setIfInBounds_toArray, List.set_cons_zero, List.set_cons_succ]
      refine wpAnyZ_ready (rs := [13]) (by kernel_rfl) (by simp) ?_
      refine AllReadyZ.cons (o := { dst := none, op := Op.store 23 (Operand.tmp 56) (Operand.tmp 55), type := 0, pos := "ref.go:106", after := #[{ on := 12, ground := Ground.data }, { on := 11, ground := Ground.data }, { on := 11, ground := Ground.chain }, { on := 0, ground := Ground.phase }, { on := 1, ground := Ground.phase }, { on := 2, ground := Ground.phase }, { on := 3, ground := Ground.phase }, { on := 4, ground := Ground.phase }, { on := 5, ground := Ground.phase }, { on := 6, ground := Ground.phase }, { on := 7, ground := Ground.phase }, { on := 8, ground := Ground.phase }, { on := 9, ground := Ground.phase }, { on := 10, ground := Ground.phase }, { on := 11, ground := Ground.phase }], guard := none }) rfl (fun K hK => ?_) AllReadyZ.nil
      go_simp
      refine hK.out _ _ (fun h => absurd h (by decide)) ?_
      clear hK K
      try simp only [Act.put, List.setIfInBounds_toArray, List.set_cons_zero, List.set_cons_succ]
      refine wpAnyZ_done (by kernel_rfl) ?_ _
      clear hS0 hS1 hS2 hav hcz hfz hna hlb2 hla hdr hlook
      go_wp2
      go_roundw
      case rel => (repeat apply Exists.intro); first | exact ⟨⟨hi'.out, by go_num, hnx⟩, rfl⟩ | exact ⟨hi'.out, by go_num, hnx⟩
      case measure => have := hi'.out; simp [intOf]; omega
    · obtain rfl : i = L.length := by omega
      have hiz : ¬ (L.length : Int) < (L.length : Int) := by omega
      have hX1 := hI.out.wo
      have x0 := cell_of_block (o := 0) hX1 rfl
      have x1 := cell_of_block (o := 1) hX1 rfl
      have x2 := cell_of_block (o := 2) hX1 rfl
      have x3 := cell_of_block (o := 3) hX1 rfl
      have hRz := Lib.hid hI.out.rz
      have hrow := Lib.hid (setRow_heap wr R _ #[.slice qa ql qc, .int .i64 k, u, .int .u64 M.seed] _ _ hRz.out)
      have hfin : Hid (Below w.heap.size w (wr.setRow R #[.slice qa ql qc, .int .i64 k, u, .int .u64 M.seed]) ∧ Inss w qa ql qc (M.progs.getD k []) ∧ RowAt (wr.setRow R #[.slice qa ql qc, .int .i64 k, u, .int .u64 M.seed]) 43 4 u (waysU (·.src) M.links k M.links.length).length (lksC M.links (waysU (·.src) M.links k M.links.length)) ∧ ∀ j, u.ownBlock = some j → w.heap.size ≤ j) := by
        rw [hL.out]
        have hro := hI.out.row
        rw [List.take_length] at hro
        exact Lib.hid ⟨below_row13 hI.out.b hI.out.bR _, hpr'.out.2.2, hro.kept (KeptOff.row wr R _) (fun j e e2 => (hI.out.own j e).2.2.2.1 e2), fun j e => (hI.out.own j e).1⟩
      obtain ⟨ua, uc, huv, -⟩ := hI.out.row.shape
      subst huv
      clear hI hi hX1
      go_wp2_with (refine wpList_store_row rfl 35 (.tmp 4) (.tmp 57) rfl R #[.slice qa ql qc, .int .i64 k, .slice ua L.length uc, .int .u64 M.seed] rfl rfl 35 _ hRz.out infoWo rfl (by simp [Value.oneCell']) ?_)
      have s0 := cell_of_block (o := 0) hrow.out rfl
      have s1 := cell_of_block (o := 1) hrow.out rfl
      have s2 := cell_of_block (o := 2) hrow.out rfl
      have s3 := cell_of_block (o := 3) hrow.out rfl
      exact bodyPost_ret (v := .tuple #[.agg #[.slice qa ql qc, .int .i64 k, .slice ua L.length uc, .int .u64 M.seed], .int .i64 0]) (by simp [results, Tryd.results13, go_sem, s0, s1, s2, s3]) rfl ⟨_, _, _, _, rfl, hfin⟩
end Go.Proofs.YtofkfajcibdneaaDoor
