/-
  A stretch's entries, one by one.
-/
import Derived.Test.YtminfmjgmmkaoaaGreatDoorIC
import Derived.Test.YtminfmjgmmkaoaaGreatDoorIZ
import Derived.LoopIn
import Derived.BigFrameIn
namespace Go.Proofs.YtminfmjgmmkaoaaGreatDoor
open Go.ChangeShapes Go.WideShapes Go.ChangeAt Go.Shelf Go.RowKit Go.Lib Go.Sort Go.Deep
set_option linter.unusedVariables false
set_option maxRecDepth 4000
set_option linter.unusedSimpArgs false

set_option maxHeartbeats 8000000 in
theorem spReck_any {b w : World} (hb : Below b.heap.size b w) {v : Wv} {W : Wd} {S : Sth} (h : SthRd w v W S) (hok : StaOk S.kept ∧ ∀ p ∈ S.L, In64 p.ev.v) :
    Calls Tryz.prog 70 #[.agg (encT S).toArray, .agg (wordC v W).toArray] w fun e Y => ∃ rb sb, e = .returned (.func (.func 84) #[] #[.pointer (some ⟨rb, 0, none⟩), .pointer (some ⟨w.heap.size + 1, 0, none⟩), .pointer (some ⟨sb, 0, none⟩), .pointer (some ⟨w.heap.size, 0, none⟩)]) ∧
      Hid (ReckAt b Y w.heap.size (w.heap.size + 1) rb sb v W S 0 ∧ Below w.heap.size w Y ∧ w.heap.size ≤ rb ∧ w.heap.size ≤ sb) := by
  have mixed := mixed
  have hb0 : Hid (Below w.heap.size w ((w.alloc (.cells (encT S).toArray 68)).alloc (.cells (wordC v W).toArray 26))) := Lib.hid (((Below.refl _ w).alloc (Nat.le_refl _) _).alloc (by simp) _)
  have hA0 : Hid (((w.alloc (.cells (encT S).toArray 68)).alloc (.cells (wordC v W).toArray 26)).heap[w.heap.size]? = some (.cells (encT S).toArray 68 (0, 0))) := Lib.hid ((((Below.refl _ (w.alloc (.cells (encT S).toArray 68))).alloc (Nat.le_refl _) (.cells (wordC v W).toArray 26)).block w.heap.size (by simp)).trans (heap_alloc_new w _))
  have hB0 : Hid (((w.alloc (.cells (encT S).toArray 68)).alloc (.cells (wordC v W).toArray 26)).heap[w.heap.size + 1]? = some (.cells (wordC v W).toArray 26 (0, 0))) := Lib.hid (by have := heap_alloc_new (w.alloc (.cells (encT S).toArray 68)) (.cells (wordC v W).toArray 26); rwa [World.size_alloc] at this)
  have hs0 : Hid (((w.alloc (.cells (encT S).toArray 68)).alloc (.cells (wordC v W).toArray 26)).heap.size = w.heap.size + 2) := Lib.hid (by simp)
  have hrg := Lib.hid (fun (w' : World) (hh : w'.heap[w.heap.size]? = some (.cells (encT S).toArray 68 (0, 0))) => (encT_range hh).1)
  have hXA : ∃ XA, (encT S).toArray = XA := ⟨_, rfl⟩
  obtain ⟨XA, hXA⟩ := hXA
  have hWA : ∃ WA, (wordC v W).toArray = WA := ⟨_, rfl⟩
  obtain ⟨WA, hWA⟩ := hWA
  rw [hXA] at hb0 hA0 hB0 hs0 hrg ⊢
  rw [hWA] at hb0 hA0 hB0 hs0 ⊢
  have hXA' := Lib.hid hXA
  have hWA' := Lib.hid hWA
  have hcX : (Value.agg XA).cells = XA := rfl
  have hcW : (Value.agg WA).cells = WA := rfl
  have h' := Lib.hid h
  have hok' := Lib.hid hok
  have hbb := Lib.hid hb
  have hls : (encSt S.kept).length = 10 := rfl
  have hone := encSt_one S.kept
  generalize hcst : encSt S.kept = cst at *
  have hcst' := Lib.hid hcst
  clear h hok hb hcst hXA hWA
  go_enter Tryz.func70, Tryz.ntmps70
  go_wp2_with fail
  generalize (w.alloc (.cells XA 68)).alloc (.cells WA 26) = w0 at *
  have hst : Hid (∀ w', Below w0.heap.size w0 w' → w'.rangeAt w.heap.size 0 cst) := Lib.hid (fun w' hb => hrg.out w' ((hb.block _ (Array.getElem?_eq_some_iff.1 hA0.out).1).trans hA0.out))
  have fin : Hid (∀ (Y : World) (rb sb : Nat), Below w0.heap.size w0 Y → w0.heap.size ≤ rb → w0.heap.size ≤ sb → Y.heap[rb]? = some (.cells #[.int .i64 0] 3 (0, 0)) → Y.heap[sb]? = some (.cells cst.toArray 34 (0, 0)) → ReckAt b Y w.heap.size (w.heap.size + 1) rb sb v W S 0 ∧ Below w.heap.size w Y ∧ w.heap.size ≤ rb ∧ w.heap.size ≤ sb) := Lib.hid (fun Y rb sb hB h1 h2 h3 h4 => by
    have hBw := hb0.out.trans (hB.mono hb0.out.size)
    have hsz := hs0.out
    refine ⟨⟨hbb.out.trans (hBw.mono hbb.out.size), h3, by rw [h4, ← hcst'.out]; rfl, ?_, ?_, h'.out.below hBw, ⟨by have := hbb.out.size; omega, by have := hbb.out.size; omega⟩, hok'.out⟩, hBw, by omega, by omega⟩
    · rw [hWA'.out]; exact (hB.block _ (by omega)).trans hB0.out
    · rw [hXA'.out]; exact (hB.block _ (by omega)).trans hA0.out)
  clear hrg hA0 hB0 hb0 hs0 h' hok' hbb
  refine wp_region_held_drew (S := fun w' => Below w0.heap.size w0 w') (by kernel_rfl) (Below.refl _ w0).drew (fun hHeld => ?_)
  clear hHeld
  have hHd : Below w0.heap.size w0 w0.drew := (Below.refl _ w0).drew
  refine wpAnyH_take (i := 0) (oi := { dst := some 7, op := Op.fieldAddr 68 (Operand.tmp 2) 0, type := 0, pos := "stretch.go:33", after := #[{ on := 4, ground := Ground.gcOnly Departure.lateStores }], guard := none }) (v := ?vv0_1) rfl (by kernel_rfl) (by kernel_rfl) (by kernel_rfl) (fun _ _ _ h => h) (Or.inl ⟨by rfl, ?hy0_1⟩) hHd ?rest0_1
  case hy0_1 =>
    intro w hSw
    go_simp
    try with_reducible rfl
  try simp only [Act.put, List.setIfInBounds_toArray, List.set_cons_zero, List.set_cons_succ]
  refine wpAnyH_take (i := 1) (oi := { dst := some 8, op := Op.load 34 (Operand.tmp 7), type := 34, pos := "stretch.go:33", after := #[{ on := 0, ground := Ground.data }, { on := 4, ground := Ground.gcOnly Departure.lateStores }], guard := none }) (v := .agg (cst).toArray) rfl (by kernel_rfl) (by kernel_rfl) (by kernel_rfl) (fun _ _ _ h => h) (yieldsIf_load_mid (by rfl) 34 (.tmp 7) (by rfl) w.heap.size 0 (by rfl) (cst) _ (fun w' h => hst.out w' h) Tryz.underlying34 rfl (by rw [hls]; exact infoS10)) hHd ?_
  try simp only [Act.put, List.setIfInBounds_toArray, List.set_cons_zero, List.set_cons_succ]
  obtain ⟨wd, hwd⟩ : ∃ wd, wd = w0.drew := ⟨_, rfl⟩
  rw [← hwd] at hHd ⊢
  have hge : w0.heap.size ≤ wd.heap.size := hHd.size
  clear hwd
  refine wpAnyH_ready (rs := [2, 3]) (by kernel_rfl) (by simp) ?_
  refine AllReadyH.cons (o := { dst := some 5, op := Op.alloc 3, type := 0, pos := "stretch.go:33", after := #[], guard := none }) rfl (fun K hK => ?_) ?_
  · skip
    go_simp
    refine hK.out _ _ (hHd.alloc hHd.size (.cells #[.int .i64 0] 3)) (fun hHeld => ?_)
    clear hHeld hK K
    try simp only [Act.put, List.setIfInBounds_toArray, List.set_cons_zero, List.set_cons_succ]
    have f1 := heap_alloc_new wd (.cells #[.int .i64 0] 3)
    have hB1 := hHd.alloc hHd.size (.cells #[.int .i64 0] 3)
    have hs1 : (wd.alloc (.cells #[.int .i64 0] 3)).heap.size = wd.heap.size + 1 := by simp
    try simp only [z10] at f1
    try simp only [z10] at hB1
    try simp only [z10] at hs1
    refine wpAnyH_ready (rs := [3]) (by kernel_rfl) (by simp) ?_
    refine AllReadyH.cons (o := { dst := some 6, op := Op.alloc 34, type := 0, pos := "stretch.go:33", after := #[], guard := none }) rfl (fun K hK => ?_) AllReadyH.nil
    go_simp
    refine hK.out _ _ ((hHd.alloc hHd.size (.cells #[.int .i64 0] 3)).alloc (hHd.alloc hHd.size (.cells #[.int .i64 0] 3)).size (.cells z10 34)) (fun hHeld => ?_)
    clear hHeld hK K
    try simp only [Act.put, List.setIfInBounds_toArray, List.set_cons_zero, List.set_cons_succ]
    have f2 : ((wd.alloc (.cells #[.int .i64 0] 3)).alloc (.cells z10 34)).heap[wd.heap.size + 1]? = some (.cells z10 34 (0, 0)) := by have := heap_alloc_new (wd.alloc (.cells #[.int .i64 0] 3)) (.cells z10 34); rwa [World.size_alloc] at this
    have f1b := (((Below.refl _ (wd.alloc (.cells #[.int .i64 0] 3))).alloc (Nat.le_refl _) (.cells z10 34)).block wd.heap.size (by simp)).trans (heap_alloc_new wd (.cells #[.int .i64 0] 3))
    have hB2 := (hHd.alloc hHd.size (.cells #[.int .i64 0] 3)).alloc (hHd.alloc hHd.size (.cells #[.int .i64 0] 3)).size (.cells z10 34)
    clear f1 hB1 hs1
    have hlen10 : z10.size = 10 := rfl
    try simp only [z10] at f2
    try simp only [z10] at f1b
    try simp only [z10] at hB2
    generalize (wd.alloc _).alloc _ = Y at *
    have c0 := row_cell f1b 0 rfl
    have fz0 : Y.frozen? ⟨wd.heap.size, 0, none⟩ = false := frozen_of_cells f1b
    have g1 : (Y.setCell ⟨wd.heap.size, 0, none⟩ (.int .i64 0)).heap[wd.heap.size]? = some (.cells #[.int .i64 0] 3 (0, 0)) := by rw [Go.heap_setCell_same Y wd.heap.size 0 _ _ _ f1b]; simp
    have g2 := ((KeptOff.set Y ⟨wd.heap.size, 0, none⟩ (.int .i64 0)).block (wd.heap.size + 1) (Array.getElem?_eq_some_iff.1 f2).1 (block_ne f2 f1b (by decide))).trans f2
    have hB3 := hB2.trans ((KeptOff.set Y ⟨wd.heap.size, 0, none⟩ (.int .i64 0)).below (fun k _ e => by simp only at e; have := hge; omega) hB2.size)
    refine wpAnyH_ready (rs := [4]) (by kernel_rfl) (by simp) ?_
    refine AllReadyH.cons (o := { dst := none, op := Op.store 3 (Operand.tmp 5) (Operand.const (Value.int IntKind.i64 0)), type := 0, pos := "stretch.go:33", after := #[{ on := 2, ground := Ground.data }, { on := 0, ground := Ground.textOnly Departure.lateStores }, { on := 1, ground := Ground.textOnly Departure.lateStores }, { on := 2, ground := Ground.phase }, { on := 3, ground := Ground.phase }], guard := none }) rfl (fun K hK => ?_) AllReadyH.nil
    go_simp
    refine hK.out _ _ hB3 (fun hHeld => ?_)
    clear hHeld hK K
    try simp only [Act.put, List.setIfInBounds_toArray, List.set_cons_zero, List.set_cons_succ]
    generalize Y.setCell ⟨wd.heap.size, 0, none⟩ (.int .i64 0) = Y3 at *
    refine wpAnyH_ready (rs := [5]) (by kernel_rfl) (by simp) ?_
    refine AllReadyH.cons (o := { dst := none, op := Op.store 34 (Operand.tmp 6) (Operand.tmp 8), type := 0, pos := "stretch.go:33", after := #[{ on := 3, ground := Ground.data }, { on := 1, ground := Ground.data }, { on := 4, ground := Ground.chain }, { on := 0, ground := Ground.phase }, { on := 1, ground := Ground.phase }, { on := 2, ground := Ground.phase }, { on := 3, ground := Ground.phase }, { on := 4, ground := Ground.phase }], guard := none }) rfl (fun K hK => ?_) AllReadyH.nil
    refine step_store_row rfl 34 (.tmp 6) (.tmp 8) (by rfl) (wd.heap.size + 1) cst.toArray (by rfl) (by rfl) 34 _ g2 (by simp only [List.size_toArray, hls]; exact infoS10) (by simp only [List.size_toArray, hls, List.length_cons, List.length_nil]) hone ?_
    refine hK.out _ _ (below_row hB3 (g := (wd.heap.size + 1)) (by have := hge; omega) cst.toArray) (fun hHeld => ?_)
    clear hHeld hK K
    try simp only [Act.put, List.setIfInBounds_toArray, List.set_cons_zero, List.set_cons_succ]
    have hfin := fin.out _ wd.heap.size (wd.heap.size + 1) (below_row hB3 (g := (wd.heap.size + 1)) (by have := hge; omega) cst.toArray) (by have := hge; omega) (by have := hge; omega) (((KeptOff.row Y3 (wd.heap.size + 1) cst.toArray).block wd.heap.size (Array.getElem?_eq_some_iff.1 g1).1 (block_ne g1 g2 (by decide))).trans g1) (setRow_heap (new := cst.toArray) g2)
    refine wpAnyH_done (by kernel_rfl) ?_ _
    have hfin2 := Lib.hid hfin
    clear hfin g1 g2 hB3 c0 fz0 hHd hge hst fin
    generalize Y3.setRow (wd.heap.size + 1) cst.toArray = Y4 at *
    go_wp2
    go_ret
    exact ⟨_, _, rfl, hfin2⟩
  refine AllReadyH.cons (o := { dst := some 6, op := Op.alloc 34, type := 0, pos := "stretch.go:33", after := #[], guard := none }) rfl (fun K hK => ?_) AllReadyH.nil
  go_simp
  refine hK.out _ _ (hHd.alloc hHd.size (.cells z10 34)) (fun hHeld => ?_)
  clear hHeld hK K
  try simp only [Act.put, List.setIfInBounds_toArray, List.set_cons_zero, List.set_cons_succ]
  have f1 := heap_alloc_new wd (.cells z10 34)
  have hB1 := hHd.alloc hHd.size (.cells z10 34)
  have hs1 : (wd.alloc (.cells z10 34)).heap.size = wd.heap.size + 1 := by simp
  try simp only [z10] at f1
  try simp only [z10] at hB1
  try simp only [z10] at hs1
  refine wpAnyH_ready (rs := [2]) (by kernel_rfl) (by simp) ?_
  refine AllReadyH.cons (o := { dst := some 5, op := Op.alloc 3, type := 0, pos := "stretch.go:33", after := #[], guard := none }) rfl (fun K hK => ?_) AllReadyH.nil
  go_simp
  refine hK.out _ _ ((hHd.alloc hHd.size (.cells z10 34)).alloc (hHd.alloc hHd.size (.cells z10 34)).size (.cells #[.int .i64 0] 3)) (fun hHeld => ?_)
  clear hHeld hK K
  try simp only [Act.put, List.setIfInBounds_toArray, List.set_cons_zero, List.set_cons_succ]
  have f2 : ((wd.alloc (.cells z10 34)).alloc (.cells #[.int .i64 0] 3)).heap[wd.heap.size + 1]? = some (.cells #[.int .i64 0] 3 (0, 0)) := by have := heap_alloc_new (wd.alloc (.cells z10 34)) (.cells #[.int .i64 0] 3); rwa [World.size_alloc] at this
  have f1b := (((Below.refl _ (wd.alloc (.cells z10 34))).alloc (Nat.le_refl _) (.cells #[.int .i64 0] 3)).block wd.heap.size (by simp)).trans (heap_alloc_new wd (.cells z10 34))
  have hB2 := (hHd.alloc hHd.size (.cells z10 34)).alloc (hHd.alloc hHd.size (.cells z10 34)).size (.cells #[.int .i64 0] 3)
  clear f1 hB1 hs1
  have hlen10 : z10.size = 10 := rfl
  try simp only [z10] at f2
  try simp only [z10] at f1b
  try simp only [z10] at hB2
  generalize (wd.alloc _).alloc _ = Y at *
  have c0 := row_cell f2 0 rfl
  have fz0 : Y.frozen? ⟨(wd.heap.size + 1), 0, none⟩ = false := frozen_of_cells f2
  have g1 : (Y.setCell ⟨(wd.heap.size + 1), 0, none⟩ (.int .i64 0)).heap[(wd.heap.size + 1)]? = some (.cells #[.int .i64 0] 3 (0, 0)) := by rw [Go.heap_setCell_same Y (wd.heap.size + 1) 0 _ _ _ f2]; simp
  have g2 := ((KeptOff.set Y ⟨(wd.heap.size + 1), 0, none⟩ (.int .i64 0)).block wd.heap.size (Array.getElem?_eq_some_iff.1 f1b).1 (block_ne f1b f2 (by decide))).trans f1b
  have hB3 := hB2.trans ((KeptOff.set Y ⟨(wd.heap.size + 1), 0, none⟩ (.int .i64 0)).below (fun k _ e => by simp only at e; have := hge; omega) hB2.size)
  refine wpAnyH_ready (rs := [4]) (by kernel_rfl) (by simp) ?_
  refine AllReadyH.cons (o := { dst := none, op := Op.store 3 (Operand.tmp 5) (Operand.const (Value.int IntKind.i64 0)), type := 0, pos := "stretch.go:33", after := #[{ on := 2, ground := Ground.data }, { on := 0, ground := Ground.textOnly Departure.lateStores }, { on := 1, ground := Ground.textOnly Departure.lateStores }, { on := 2, ground := Ground.phase }, { on := 3, ground := Ground.phase }], guard := none }) rfl (fun K hK => ?_) AllReadyH.nil
  go_simp
  refine hK.out _ _ hB3 (fun hHeld => ?_)
  clear hHeld hK K
  try simp only [Act.put, List.setIfInBounds_toArray, List.set_cons_zero, List.set_cons_succ]
  generalize Y.setCell ⟨(wd.heap.size + 1), 0, none⟩ (.int .i64 0) = Y3 at *
  refine wpAnyH_ready (rs := [5]) (by kernel_rfl) (by simp) ?_
  refine AllReadyH.cons (o := { dst := none, op := Op.store 34 (Operand.tmp 6) (Operand.tmp 8), type := 0, pos := "stretch.go:33", after := #[{ on := 3, ground := Ground.data }, { on := 1, ground := Ground.data }, { on := 4, ground := Ground.chain }, { on := 0, ground := Ground.phase }, { on := 1, ground := Ground.phase }, { on := 2, ground := Ground.phase }, { on := 3, ground := Ground.phase }, { on := 4, ground := Ground.phase }], guard := none }) rfl (fun K hK => ?_) AllReadyH.nil
  refine step_store_row rfl 34 (.tmp 6) (.tmp 8) (by rfl) wd.heap.size cst.toArray (by rfl) (by rfl) 34 _ g2 (by simp only [List.size_toArray, hls]; exact infoS10) (by simp only [List.size_toArray, hls, List.length_cons, List.length_nil]) hone ?_
  refine hK.out _ _ (below_row hB3 (g := wd.heap.size) (by have := hge; omega) cst.toArray) (fun hHeld => ?_)
  clear hHeld hK K
  try simp only [Act.put, List.setIfInBounds_toArray, List.set_cons_zero, List.set_cons_succ]
  have hfin := fin.out _ (wd.heap.size + 1) wd.heap.size (below_row hB3 (g := wd.heap.size) (by have := hge; omega) cst.toArray) (by have := hge; omega) (by have := hge; omega) (((KeptOff.row Y3 wd.heap.size cst.toArray).block (wd.heap.size + 1) (Array.getElem?_eq_some_iff.1 g1).1 (block_ne g1 g2 (by decide))).trans g1) (setRow_heap (new := cst.toArray) g2)
  refine wpAnyH_done (by kernel_rfl) ?_ _
  have hfin2 := Lib.hid hfin
  clear hfin g1 g2 hB3 c0 fz0 hHd hge hst fin
  generalize Y3.setRow wd.heap.size cst.toArray = Y4 at *
  go_wp2
  go_ret
  exact ⟨_, _, rfl, hfin2⟩
theorem spEntries_any {w : World} {f : Nat} {v : Wv} {W : Wd} {S : Sth} :
    Calls Tryz.prog 50 #[.agg (encT S).toArray, .agg (wordC v W).toArray, .int .i64 (f : Int)] w fun e w' => e = .returned (.func (.func 69) #[] #[.pointer (some ⟨w.heap.size, 0, none⟩), .pointer (some ⟨w.heap.size + 1, 0, none⟩), .pointer (some ⟨w.heap.size + 1 + 1, 0, none⟩)]) ∧
      Hid (Tri w w' (.cells (encT S).toArray 68) (.cells (wordC v W).toArray 26) (.cells #[.int .i64 (f : Int)] 3)) := by
  have T0 := Lib.hid (Tri.mk3 w (.cells (encT S).toArray 68) (.cells (wordC v W).toArray 26) (.cells #[.int .i64 (f : Int)] 3))
  have hXA : ∃ XA, (encT S).toArray = XA := ⟨_, rfl⟩
  obtain ⟨XA, hXA⟩ := hXA
  have hWA : ∃ WA, (wordC v W).toArray = WA := ⟨_, rfl⟩
  obtain ⟨WA, hWA⟩ := hWA
  rw [hXA, hWA] at T0 ⊢
  have hcX : (Value.agg XA).cells = XA := rfl
  have hcW : (Value.agg WA).cells = WA := rfl
  go_enter Tryz.func50, Tryz.ntmps50
  go_wp2_with fail
  go_ret
  exact ⟨rfl, T0⟩
theorem infoTh11 : (Tryz.prog.info? 68).map (·.size) = some 11 := by kernel_rfl
theorem infoSp9 : (Tryz.prog.info? 101).map (·.size) = some 9 := by kernel_rfl
/-- An entry handed over; what it sent is a list of its own. -/
def PayE (G : Nat → Prop) (x : En) (vs : Array Value) (X : World) : Prop :=
  ∃ a c, vs = #[.agg (entC x.ev x.bf x.fl (.slice a x.sent.length c)).toArray] ∧ Mgs X a x.sent.length c x.sent ∧ TagV X 42 (.slice a x.sent.length c) ∧ ∀ k, (Value.slice a x.sent.length c).ownBlock = some k → G k
/-- What a stretch's iterator reads. -/
def HE (b : World) (xb wb fb : Nat) (v : Wv) (S : Sth) (k : Nat) : Prop := k < b.heap.size ∨ k = xb ∨ k = wb ∨ k = fb ∨ SRead v S k
/-- What stands ahead of a round. -/
def SpR (b W0 : World) (xb wb fb x1 w1 rb sb f : Nat) (v : Wv) (W : Wd) (S : Sth) (J : (Nat → Prop) → List En → World → Prop) (i k : Nat) (wr : World) : Prop :=
  ∃ Z, J Z (((told W S.kept S.L).drop f).take (i - f)) wr ∧ (∀ q, (q = x1 ∨ q = w1 ∨ q = rb ∨ q = sb) → Z q) ∧ (∀ q, Z q → q < wr.heap.size ∧ W0.heap.size ≤ q) ∧ ReckAt b wr x1 w1 rb sb v W S k ∧ KeptOff (fun q => ¬ HE b xb wb fb v S q) W0 wr
set_option maxHeartbeats 16000000 in
theorem spEntries1_gives {b w : World} {eb : Addr} (hE : ErrIs b eb) (hT : ErrT b) (hb : Below b.heap.size b w) {xb wb fb f : Nat} {v : Wv} {W : Wd} {S : Sth} (hx : w.heap[xb]? = some (.cells (encT S).toArray 68 (0, 0))) (hw : w.heap[wb]? = some (.cells (wordC v W).toArray 26 (0, 0)))
    (hf : w.heap[fb]? = some (.cells #[.int .i64 (f : Int)] 3 (0, 0))) (hfl : f ≤ S.L.length) (rd : SthRd w v W S) (ok : StaOk S.kept ∧ ∀ p ∈ S.L, In64 p.ev.v) (hL : S.L.length < 16384) (hsl : ∀ p ∈ S.L, p.sent.length ≤ 16384) :
    GivesZ Tryz.prog 69 #[.pointer (some ⟨xb, 0, none⟩), .pointer (some ⟨wb, 0, none⟩), .pointer (some ⟨fb, 0, none⟩)] PayE ((told W S.kept S.L).drop f) (HE b xb wb fb v S) w := by
  intro l J K W0 hKW hJ hK hY h0
  have mixed := mixed
  have hWb := Lib.hid (hb.trans (hKW.below (fun k _ e => Nat.le_of_not_lt fun hh => e (.inl hh)) hb.size))
  have hx0 := Lib.hid ((hKW.block xb (Array.getElem?_eq_some_iff.1 hx).1 (fun e => e (.inr (.inl rfl)))).trans hx)
  have hw0 := Lib.hid ((hKW.block wb (Array.getElem?_eq_some_iff.1 hw).1 (fun e => e (.inr (.inr (.inl rfl))))).trans hw)
  have hf0 := Lib.hid ((hKW.block fb (Array.getElem?_eq_some_iff.1 hf).1 (fun e => e (.inr (.inr (.inr (.inl rfl)))))).trans hf)
  have rd0 := Lib.hid (rd.kept hKW (fun k hk e => e (.inr (.inr (.inr (.inr hk))))))
  have hHlt : Hid (∀ k, HE b xb wb fb v S k → k < W0.heap.size) := Lib.hid (fun k hk => by
    rcases hk with hk | rfl | rfl | rfl | hk
    · have := hWb.out.size; omega
    · exact (Array.getElem?_eq_some_iff.1 hx0.out).1
    · exact (Array.getElem?_eq_some_iff.1 hw0.out).1
    · exact (Array.getElem?_eq_some_iff.1 hf0.out).1
    · exact rd0.out.lt k hk)
  have hxr := Lib.hid (range_block hx0.out)
  have hwr := Lib.hid (range_block hw0.out)
  have hfc : ∀ w', Below W0.heap.size W0 w' → w'.cell? ⟨fb, 0, none⟩ = some (.int .i64 (f : Int)) := fun w' h => row_cell ((h.block _ (Array.getElem?_eq_some_iff.1 hf0.out).1).trans hf0.out) 0 rfl
  have hreck := spReck_any hWb.out rd0.out ok
  have hJ' := Lib.hid hJ
  have hK' := Lib.hid hK
  have hY' := Lib.hid hY
  have ok' := Lib.hid ok
  have h0' := Lib.hid h0
  have hEb := Lib.hid hE
  have hTb := Lib.hid hT
  have hlw : (wordC v W).length = 4 := rfl
  have hlx : (encT S).length = 11 := rfl
  clear hJ hK hY hKW hb hx hw hf rd ok h0 hE hT
  refine (callsIn_wide (n := 6)).1 ?_
  refine callsIn_of_wp Tryz.func69 rfl trivial ?_ rfl
  simp only [Tryz.ntmps69, List.size_toArray, List.length_cons, List.length_nil, Nat.reduceAdd, Nat.reduceSub, Array.replicate_succ, Array.replicate_zero, List.push_toArray, List.append_toArray, List.nil_append, List.cons_append]
  refine wpIn_wide.2 ?_
  have hxr1 : W0.rangeAt xb 0 (encT S) := by simpa using hxr.out
  have hwr1 : W0.rangeAt wb 0 (wordC v W) := by simpa using hwr.out
  have hxr2 := Lib.hid hxr1
  have hwr2 := Lib.hid hwr1
  clear hxr hwr hxr1 hwr1
  go_wp2_with (first
    | (refine wpList_load_mid rfl 68 (.tmp 1) rfl xb 0 rfl (encT S) _ hxr2.out Tryz.underlying68 rfl (by rw [hlx]; exact infoTh11) ?_)
    | (refine wpList_load_mid rfl 26 (.tmp 2) rfl wb 0 rfl (wordC v W) _ hwr2.out Tryz.underlying26 rfl (by rw [hlw]; exact infoWo) ?_)
    | (go_at_call 70; refine hreck.mono ?_; rintro e w2 ⟨rb, sb, rfl, hq⟩; have c5 := hfc w2 hq.out.2.1))
  refine (wpIn_wide (n := 6)).1 ?_
  have hq' := Lib.hid hq.out
  have hst : Hid (SpR b W0 xb wb fb W0.heap.size (W0.heap.size + 1) rb sb f v W S J f 0 w2) := Lib.hid (by
    have hR := hq'.out.1
    have hkk : KeptOff (fun _ : Nat => False) W0 w2 := .of_below hq'.out.2.1
    refine ⟨fun q => q = W0.heap.size ∨ q = W0.heap.size + 1 ∨ q = rb ∨ q = sb, ?_, fun q e => e, fun q e => ?_, hR, .of_below hq'.out.2.1⟩
    · rw [Nat.sub_self, List.take_zero]
      exact hJ'.out _ _ [] W0 w2 h0'.out hkk (fun q e => .inr (by have h1 := hq'.out.2.2.1; have h2 := hq'.out.2.2.2; rcases e with rfl | rfl | rfl | rfl <;> omega))
    · have h1 := (Array.getElem?_eq_some_iff.1 hR.hr).1
      have h2 := (Array.getElem?_eq_some_iff.1 hR.hs).1
      have h3 := (Array.getElem?_eq_some_iff.1 hR.hw).1
      have h4 := (Array.getElem?_eq_some_iff.1 hR.hx).1
      have h5 := hq'.out.2.2.1
      have h6 := hq'.out.2.2.2
      rcases e with rfl | rfl | rfl | rfl <;> exact ⟨by assumption, by omega⟩)
  clear hreck hq hq' hfc c5 h0' hxr2 hwr2
  gi_loopw [6] (fun pl wr => ∃ i k : Nat, pl = .int .i64 (i : Int) ∧ f ≤ i ∧ i ≤ S.L.length ∧ k ≤ i ∧ Hid (SpR b W0 xb wb fb W0.heap.size (W0.heap.size + 1) rb sb f v W S J i k wr)) (fun pl _ => S.L.length - (intOf pl).toNat)
  case atStart => exact ⟨f, 0, rfl, Nat.le_refl _, hfl, Nat.zero_le _, hst⟩
  case round =>
    obtain ⟨i, k, rfl, hfi, hil, hki, hS⟩ := hrel
    clear hst
    obtain ⟨Z, hJZ0, hZ1, hZ2, hR0, hKw0⟩ := hS.out
    clear hS
    have hR := Lib.hid hR0
    have hKw := Lib.hid hKw0
    have hJZ := Lib.hid hJZ0
    clear hR0 hKw0 hJZ0
    have hxw : ∀ w', KeptOff (fun q => ¬ HE b xb wb fb v S q) wr w' → w'.cell? ⟨xb, 10, none⟩ = some S.v := fun w' h => by
      have h1 := ((hKw.out.trans h).block xb (Array.getElem?_eq_some_iff.1 hx0.out).1 (fun e => e (.inr (.inl rfl)))).trans hx0.out
      exact (encT_range h1).2
    obtain ⟨sa, sc, hSv, hSc⟩ := RowAt.shape hR.out.rd.stp
    have c10 := hxw wr (KeptOff.refl _ _)
    rw [hSv] at c10
    by_cases hlt : i < S.L.length
    · have hlt3 : (i : Int) < (S.L.length : Int) := by omega
      have hi0 : (0 : Int) ≤ (i : Int) := by omega
      obtain ⟨p, hp⟩ : ∃ p, S.L[i]? = some p := ⟨_, List.getElem?_eq_getElem hlt⟩
      have hpm := List.mem_of_getElem? hp
      obtain ⟨g, off, c, hv⟩ := hR.out.rd.stp.form (by omega)
      rw [hSv] at hv
      obtain ⟨rfl, rfl⟩ : sa = some ⟨g, off, none⟩ ∧ sc = c := by simpa using hv
      obtain ⟨pa, pc, hpv, -⟩ := (hR.out.rd.sents p hpm).1
      have hxw' : Hid (∀ w', KeptOff (fun q => ¬ HE b xb wb fb v S q) wr w' → w'.cell? ⟨xb, 10, none⟩ = some (.slice (some ⟨g, off, none⟩) S.L.length sc)) := Lib.hid (fun w' h => by rw [← hSv]; exact hxw w' h)
      have hpw : Hid (∀ w', KeptOff (fun q => ¬ HE b xb wb fb v S q) wr w' → w'.rangeAt g (off + i * 9) (encP p)) := Lib.hid (fun w' h => (rd0.out.kept (hKw.out.trans h) (fun q hq e => e (.inr (.inr (.inr (.inr hq)))))).stp.range hSv hp)
      have hah : Hid (∀ w', Below wr.heap.size wr w' → Calls Tryz.prog 84 #[.int .i64 (i : Int), .pointer (some ⟨rb, 0, none⟩), .pointer (some ⟨W0.heap.size + 1, 0, none⟩), .pointer (some ⟨sb, 0, none⟩), .pointer (some ⟨W0.heap.size, 0, none⟩)] w' _) := Lib.hid (fun w' hb => spReck1_any hEb.out hTb.out (hR.out.below hb) hki (Nat.le_of_lt hlt) hL)
      have hlp : (encP p).length = 9 := rfl
      have hps := hsl p hpm
      have hrs : ¬ HE b xb wb fb v S rb ∧ ¬ HE b xb wb fb v S sb := ⟨fun e => by have := hHlt.out _ e; have := (hZ2 rb (hZ1 rb (by simp))).2; omega, fun e => by have := hHlt.out _ e; have := (hZ2 sb (hZ1 sb (by simp))).2; omega⟩
      obtain ⟨pe, pf, psv, ps⟩ := p
      simp only at hpv hps
      subst hpv
      have hent : Hid (∀ w', KeptOff (fun q => ¬ HE b xb wb fb v S q) wr w' → Calls Tryz.prog 71 #[.agg (encP ⟨pe, pf, .slice pa ps.length pc, ps⟩).toArray, .agg (encSt (stAt W S.kept S.L i)).toArray] w' fun e w2 => ∃ a c, e = .returned (.agg (entC pe (stAt W S.kept S.L i) pf (.slice a ps.length c)).toArray) ∧ Hid (CloneQ w' w2 (.slice a ps.length c) fun w2 => Mgs w2 a ps.length c ps ∧ TagV w2 42 (.slice a ps.length c))) := Lib.hid (fun w' h => by
        obtain ⟨⟨a, cap, e, hm⟩, hg⟩ := (rd0.out.kept (hKw.out.trans h) (fun q hq e => e (.inr (.inr (.inr (.inr hq)))))).sents _ hpm
        simp only at e
        obtain ⟨rfl, rfl⟩ : pa = a ∧ pc = cap := by simpa using e
        exact lpEntry_any hm hg hps)
      have hpre : Hid (((told W S.kept S.L).drop f).take (i - f) ++ [(⟨pe, stAt W S.kept S.L i, pf, ps⟩ : En)] = ((told W S.kept S.L).drop f).take (i + 1 - f)) := Lib.hid (by
        rw [show i + 1 - f = (i - f) + 1 by omega, List.take_add_one, List.getElem?_drop, show f + (i - f) = i by omega, told_get hp]
        rfl)
      generalize encP ⟨pe, pf, .slice pa ps.length pc, ps⟩ = CP at *
      clear hxw
      refine wpIn_wide.2 ?_
      go_upto_region 4 with fail
      refine (wpIn_wide (n := 6)).1 ?_
      clear c10
      have eg84 : ∀ args w, (callFunc 84 args).run Tryz.prog w = .ok (.enter 84 args) w := enters_of Tryz.func84 (by kernel_rfl) rfl
      have eg71 : ∀ args w, (callFunc 71 args).run Tryz.prog w = .ok (.enter 71 args) w := enters_of Tryz.func71 (by kernel_rfl) rfl
      refine wpIn_region_I (fun w' => KeptOff (fun q => ¬ HE b xb wb fb v S q) wr w') (by kernel_rfl) ?_
      have hHd : KeptOff (fun q => ¬ HE b xb wb fb v S q) wr wr.drew := ⟨rfl, rfl, rfl, Nat.le_refl _, fun _ _ _ => rfl⟩
      refine wpAnyI_take (i := 0) (oi := { dst := some 18, op := Op.move (Operand.tmp 0), type := 103, pos := "stretch.go:47", after := #[], guard := none }) (v := ?iv0_1) rfl (by kernel_rfl) (by kernel_rfl) (by kernel_rfl) (fun _ _ _ h => h) (Or.inl ⟨by rfl, ?iy0_1⟩) hHd ?irest0_1
      case iy0_1 =>
        intro w hSw
        go_simp
        try with_reducible rfl
      try simp only [Act.put, List.setIfInBounds_toArray, List.set_cons_zero, List.set_cons_succ]
      refine wpAnyI_take (i := 1) (oi := { dst := some 19, op := Op.fieldAddr 68 (Operand.tmp 1) 1, type := 0, pos := "stretch.go:47", after := #[], guard := none }) (v := ?iv1_2) rfl (by kernel_rfl) (by kernel_rfl) (by kernel_rfl) (fun _ _ _ h => h) (Or.inl ⟨by rfl, ?iy1_2⟩) hHd ?irest1_2
      case iy1_2 =>
        intro w hSw
        go_simp
        try with_reducible rfl
      try simp only [Act.put, List.setIfInBounds_toArray, List.set_cons_zero, List.set_cons_succ]
      refine wpAnyI_take (i := 3) (oi := { dst := some 21, op := Op.move (Operand.tmp 6), type := 3, pos := "stretch.go:47", after := #[], guard := none }) (v := ?iv3_3) rfl (by kernel_rfl) (by kernel_rfl) (by kernel_rfl) (fun _ _ _ h => h) (Or.inl ⟨by rfl, ?iy3_3⟩) hHd ?irest3_3
      case iy3_3 =>
        intro w hSw
        go_simp
        try with_reducible rfl
      try simp only [Act.put, List.setIfInBounds_toArray, List.set_cons_zero, List.set_cons_succ]
      refine wpAnyI_take (i := 6) (oi := { dst := some 24, op := Op.move (Operand.tmp 5), type := 127, pos := "stretch.go:47", after := #[], guard := none }) (v := ?iv6_4) rfl (by kernel_rfl) (by kernel_rfl) (by kernel_rfl) (fun _ _ _ h => h) (Or.inl ⟨by rfl, ?iy6_4⟩) hHd ?irest6_4
      case iy6_4 =>
        intro w hSw
        go_simp
        try with_reducible rfl
      try simp only [Act.put, List.setIfInBounds_toArray, List.set_cons_zero, List.set_cons_succ]
      refine wpAnyI_take (i := 7) (oi := { dst := some 25, op := Op.move (Operand.tmp 6), type := 3, pos := "stretch.go:47", after := #[], guard := none }) (v := ?iv7_5) rfl (by kernel_rfl) (by kernel_rfl) (by kernel_rfl) (fun _ _ _ h => h) (Or.inl ⟨by rfl, ?iy7_5⟩) hHd ?irest7_5
      case iy7_5 =>
        intro w hSw
        go_simp
        try with_reducible rfl
      try simp only [Act.put, List.setIfInBounds_toArray, List.set_cons_zero, List.set_cons_succ]
      refine wpAnyI_take (i := 2) (oi := { dst := some 20, op := Op.load 66 (Operand.tmp 19), type := 66, pos := "stretch.go:47", after := #[{ on := 1, ground := Ground.data }], guard := none }) (v := ?iv2_6) rfl (by kernel_rfl) (by kernel_rfl) (by kernel_rfl) (fun _ _ _ h => h) (Or.inl ⟨by rfl, ?iy2_6⟩) hHd ?irest2_6
      case iy2_6 =>
        intro w hSw
        have c := hxw'.out w hSw
        go_simp
        try with_reducible rfl
      try simp only [Act.put, List.setIfInBounds_toArray, List.set_cons_zero, List.set_cons_succ]
      refine wpAnyI_take (i := 4) (oi := { dst := some 22, op := Op.indexAddr 66 (Operand.tmp 20) (Operand.tmp 21), type := 0, pos := "stretch.go:47", after := #[{ on := 2, ground := Ground.data }, { on := 3, ground := Ground.data }], guard := none }) (v := ?iv4_7) rfl (by kernel_rfl) (by kernel_rfl) (by kernel_rfl) (fun _ _ _ h => h) (Or.inl ⟨by rfl, ?iy4_7⟩) hHd ?irest4_7
      case iy4_7 =>
        intro w hSw
        go_simp
        try with_reducible rfl
      try simp only [Act.put, List.setIfInBounds_toArray, List.set_cons_zero, List.set_cons_succ]
      refine wpAnyI_take (i := 5) (oi := { dst := some 23, op := Op.load 101 (Operand.tmp 22), type := 101, pos := "stretch.go:47", after := #[{ on := 4, ground := Ground.data }], guard := none }) (v := .agg (CP).toArray) rfl (by kernel_rfl) (by kernel_rfl) (by kernel_rfl) (fun _ _ _ h => h) (yieldsIf_load_mid (by rfl) 101 (.tmp 22) (by rfl) g (off + i * 9) (by rfl) (CP) _ (fun w' h => hpw.out w' h) Tryz.underlying101 rfl (by rw [hlp]; exact infoSp9)) hHd ?_
      try simp only [Act.put, List.setIfInBounds_toArray, List.set_cons_zero, List.set_cons_succ]
      have hb3 : Below wr.heap.size wr wr.drew := (Below.refl _ wr).drew
      refine wpAnyI_call (i := 8) (o := { dst := some 26, op := Op.call { callee := Callee.value (Operand.tmp 24), args := #[Operand.tmp 25], argTypes := #[3] }, type := 34, pos := "stretch.go:47", after := #[{ on := 6, ground := Ground.data }, { on := 7, ground := Ground.data }], guard := none }) (by kernel_rfl) rfl (by rfl) (by simp [execOp, resolve, invoke, go_sem, eg84]) (hah.out wr.drew hb3) ?_
      rintro e w3 ⟨rfl, hq3⟩
      have hS3 : KeptOff (fun q => ¬ HE b xb wb fb v S q) wr w3 := hHd.trans (hq3.out.2.mono (fun q _ e => by rcases e with rfl | rfl; exact hrs.1; exact hrs.2))
      refine ⟨_, rfl, hS3, ?_⟩
      try simp only [Act.put, List.setIfInBounds_toArray, List.set_cons_zero, List.set_cons_succ]
      refine wpAnyI_call (i := 9) (o := { dst := some 27, op := Op.call { callee := Callee.value (Operand.func 71), args := #[Operand.tmp 23, Operand.tmp 26], argTypes := #[101, 34] }, type := 44, pos := "stretch.go:47", after := #[{ on := 5, ground := Ground.data }, { on := 8, ground := Ground.data }, { on := 8, ground := Ground.chain }], guard := none }) (by kernel_rfl) rfl (by rfl) (by simp [execOp, resolve, invoke, go_sem, eg71]) (hent.out w3 hS3) ?_
      rintro e w5 ⟨ea, ec, rfl, hq5⟩
      have hS5 : KeptOff (fun q => ¬ HE b xb wb fb v S q) wr w5 := hS3.trans (.of_below hq5.out.2.1)
      refine ⟨_, rfl, hS5, ?_⟩
      try simp only [Act.put, List.setIfInBounds_toArray, List.set_cons_zero, List.set_cons_succ]
      obtain ⟨Z5, hZ5⟩ : ∃ Z5 : Nat → Prop, Z5 = fun q => Z q ∨ (Value.slice ea ps.length ec).ownBlock = some q := ⟨_, rfl⟩
      have hkZ : KeptOff Z wr w5 := (KeptOff.of_below (S := Z) hb3).trans ((hq3.out.2.mono (fun q _ e => by rcases e with rfl | rfl <;> exact hZ1 _ (by simp))).trans (.of_below hq5.out.2.1))
      have hJ5 : J Z5 (((told W S.kept S.L).drop f).take (i - f)) w5 := hJ'.out Z Z5 _ wr w5 hJZ.out hkZ (fun q hq => by rw [hZ5] at hq; rcases hq with e | e; exact .inl e; exact .inr (by have h1 := hq5.out.2.2 q e; have h2 := hq3.out.2.size; have h3 : wr.drew.heap.size = wr.heap.size := rfl; omega))
      have hyy := hY'.out Z5 (fun q => (Value.slice ea ps.length ec).ownBlock = some q) (((told W S.kept S.L).drop f).take (i - f)) (⟨pe, stAt W S.kept S.L i, pf, ps⟩ : En) #[.agg (entC pe (stAt W S.kept S.L i) pf (.slice ea ps.length ec)).toArray] w5 hJ5 (by rw [hpre.out]; exact List.take_prefix _ _) ⟨ea, ec, rfl, hq5.out.1.1, hq5.out.1.2, fun q e => e⟩ (fun q e => by rw [hZ5]; exact .inr e) (fun q e => by rw [hZ5] at e; rcases e with e | e; exact Nat.lt_of_lt_of_le (hZ2 q e).1 hkZ.size; exact hq5.out.1.2.lt q e)
      subst hZ5
      refine wpAnyI_yield (i := 10) (o := { dst := some 28, op := Op.call { callee := Callee.value (Operand.tmp 18), args := #[Operand.tmp 27], argTypes := #[44] }, type := 4, pos := "stretch.go:47", after := #[{ on := 0, ground := Ground.data }, { on := 9, ground := Ground.data }, { on := 9, ground := Ground.chain }], guard := none }) (by kernel_rfl) rfl (by rfl) (by simp [execOp, resolve, invoke, go_sem]) hyy ?_
      rintro e w6 ⟨bl, rfl, hk6, hif⟩
      have hS6 : KeptOff (fun q => ¬ HE b xb wb fb v S q) wr w6 := hS5.trans (hk6.mono (fun q _ e => e.2))
      refine ⟨_, rfl, hS6, ?_⟩
      try simp only [Act.put, List.setIfInBounds_toArray, List.set_cons_zero, List.set_cons_succ]
      refine wpAnyI_take (i := 11) (oi := { dst := some 29, op := Op.unOp UnOp.not 4 (Operand.tmp 28), type := 4, pos := "stretch.go:47", after := #[{ on := 10, ground := Ground.data }], guard := none }) (v := ?iv11_8) rfl (by kernel_rfl) (by kernel_rfl) (by kernel_rfl) (fun _ _ _ h => h) (Or.inl ⟨by rfl, ?iy11_8⟩) hS6 ?irest11_8
      case iy11_8 =>
        intro w hSw
        go_simp
        try with_reducible rfl
      try simp only [Act.put, List.setIfInBounds_toArray, List.set_cons_zero, List.set_cons_succ]
      refine wpAnyI_done (by kernel_rfl) ?_ _
      have hZ6 : Hid (SpR b W0 xb wb fb W0.heap.size (W0.heap.size + 1) rb sb f v W S (if bl = true then J else K) (i + 1) i w6) := Lib.hid (by
        have hsz3 := hq3.out.2.size
        have hsz5 := hq5.out.2.1.size
        have hsz6 := hk6.size
        have hwd : wr.drew.heap.size = wr.heap.size := rfl
        refine ⟨fun q => (Z q ∨ (Value.slice ea ps.length ec).ownBlock = some q) ∧ ¬ (Value.slice ea ps.length ec).ownBlock = some q, ?_, fun q hq => ⟨.inl (hZ1 q hq), fun e => ?_⟩, fun q hq => ?_, ?_, hKw.out.trans hS6⟩
        · rw [← hpre.out]
          by_cases hbl : bl = true
          · rw [if_pos hbl] at hif ⊢; exact hif
          · rw [if_neg hbl] at hif ⊢; exact hif
        · have := hq5.out.2.2 q e
          have := (hZ2 q (hZ1 q hq)).1
          omega
        · rcases hq.1 with e | e
          · have := hZ2 q e; exact ⟨by omega, this.2⟩
          · have h1 := hq5.out.2.2 q e
            have h2 := hq5.out.1.2.lt q e
            have h3 := hKw.out.size
            exact ⟨by omega, by omega⟩
        · exact (hq3.out.1.below hq5.out.2.1).kept hk6 (fun q e => Nat.le_of_not_lt fun hh => e.2 (.inl hh))
            ⟨fun e => e.1 (.inl (hZ1 _ (by simp))), fun e => e.1 (.inl (hZ1 _ (by simp))), fun e => e.1 (.inl (hZ1 _ (by simp))), fun e => e.1 (.inl (hZ1 _ (by simp)))⟩
            (fun q hq e => e.2 (.inr (.inr (.inr (.inr hq))))))
      clear hS6 hif hk6 hyy hS5 hq5 hS3 hq3 hJZ hR hKw hent hah hpw hxw' hHd hJ5
      cases bl with
      | true =>
        go_wp2
        go_roundw
        case rel => exact ⟨i + 1, i, by go_num, by omega, by omega, by omega, hZ6⟩
        case measure => simp [intOf]; omega
      | false =>
        go_wp2

        refine bodyPost_ret (results_none rfl _ _ _) rfl ?_
        obtain ⟨Z6, hK6, -⟩ := hZ6.out
        exact ⟨⟨_, rfl⟩, Z6, .inr ⟨_, List.take_prefix _ _, hK6⟩⟩
    · obtain rfl : i = S.L.length := by omega
      have hnl : ¬ (S.L.length : Int) < (S.L.length : Int) := by omega
      have hfin : Hid (J Z ((told W S.kept S.L).drop f) wr) := Lib.hid (by
        have := hJZ.out
        rwa [List.take_of_length_le (by rw [List.length_drop, told_length]; exact Nat.le_refl _)] at this)
      clear hxw hJZ hR hKw
      gi_wp2
      go_end0
      exact ⟨⟨_, rfl⟩, Z, .inl hfin.out⟩
end Go.Proofs.YtminfmjgmmkaoaaGreatDoor
