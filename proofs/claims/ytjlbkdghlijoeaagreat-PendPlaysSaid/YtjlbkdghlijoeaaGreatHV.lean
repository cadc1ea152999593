/-
  A calendar: New, First, Pop, Cut.
  A queue: what it holds, in order; New, Len, First, Pop.
  A queue: First, Pop.
-/
import Derived.Test.YtjlbkdghlijoeaaGreatLDQG
import Derived.Test.YtjlbkdghlijoeaaGreatHR
namespace Go.Proofs.YtjlbkdghlijoeaaGreat
open Go.ChangeShapes Go.WideShapes Go.ChangeAt Go.Shelf Go.RowKit Go.Lib Go.Sort Go.Deep Go.Maps
set_option linter.unusedVariables false

/-- The blocks of a new calendar. -/
def newSC (w : World) : Nat → Prop := fun k => w.heap.size ≤ k ∧ k < w.heap.size + 4
set_option maxHeartbeats 1000000 in
theorem hNew_anyC (w : World) {W : Int} (hW : 1 ≤ W) (hwf : (Lit.int .i64 W).wf = true) : Calls Tryz.prog 30 #[.int .i64 W] w fun e w' => e = .returned (.tuple #[.pointer (some ⟨w.heap.size + 3, 0, none⟩), .int .i64 0]) ∧ Hid (CalAtC w' (w.heap.size + 3) (newSC w) [] ∧ Below w.heap.size w w') := by
  have hmm := @run_makeMap Tryz.prog
  have hW1 : ¬ W < 1 := by omega
  obtain ⟨b, hb⟩ : ∃ b, b = w.heap.size := ⟨_, rfl⟩
  obtain ⟨w1, h1⟩ : ∃ w1, w1 = w.alloc (.map #[] 0) := ⟨_, rfl⟩
  have z1 : w1.heap.size = b + 1 := by rw [h1, hb]; simp
  obtain ⟨w2, h2⟩ : ∃ w2, w2 = w1.alloc (.cells #[.int .i64 W, .map (some b), .slice none 0 0] 101) := ⟨_, rfl⟩
  have z2 : w2.heap.size = b + 2 := by rw [h2]; simp [z1]
  obtain ⟨w3, h3⟩ : ∃ w3, w3 = w2.alloc (.map #[] 0) := ⟨_, rfl⟩
  have z3 : w3.heap.size = b + 3 := by rw [h3]; simp [z2]
  obtain ⟨w4, h4⟩ : ∃ w4, w4 = w3.alloc (.cells #[.pointer (some ⟨b + 1, 0, none⟩), .map (some (b + 2))] 91) := ⟨_, rfl⟩
  have z4 : w4.heap.size = b + 4 := by rw [h4]; simp [z3]
  have hB : Below w.heap.size w w4 := by
    rw [h4, h3, h2, h1]
    exact (((Below.refl _ w).alloc (Nat.le_refl _) _).alloc (by simp) _).alloc (by simp; omega) _ |>.alloc (by simp; omega) _
  have b23 : Below w2.heap.size w2 w4 := by rw [h4, h3]; exact ((Below.refl _ w2).alloc (Nat.le_refl _) _).alloc (by simp) _
  have b34 : Below w3.heap.size w3 w4 := by rw [h4]; exact (Below.refl _ w3).alloc (Nat.le_refl _) _
  have b14 : Below w1.heap.size w1 w4 := by rw [h4, h3, h2]; exact (((Below.refl _ w1).alloc (Nat.le_refl _) _).alloc (by simp) _).alloc (by simp; omega) _
  have l4 : ListsAt w4 b [] (fun _ => .slice none 0 0) := by
    have := ListsAt.made w (fun _ => Value.slice none 0 0)
    rw [← h1, ← hb] at this
    exact this.below' b14
  have r4 : w4.heap[b + 1]? = some (.cells #[.int .i64 W, .map (some b), .slice none 0 0] 101 (0, 0)) := by
    rw [b23.block (b + 1) (by omega), h2, ← z1]
    exact heap_alloc_new w1 _
  have k4 : KeysAtC w4 (b + 2) [] := by
    have := KeysAtC.made w2
    rw [← h3, z2] at this
    exact this.below' b34
  have c4 : CalRow w4 (b + 3) (b + 1) (b + 2) := by
    unfold CalRow
    rw [h4, ← z3]
    exact heap_alloc_new w3 _
  have hQ : Hid (CalAtC w4 (w.heap.size + 3) (newSC w) [] ∧ Below w.heap.size w w4) := by
    refine ⟨⟨b + 1, b + 2, W, b, .slice none 0 0, [], fun _ => [], fun _ => .slice none 0 0, ⟨by rw [← hb]; exact c4, ?_, k4, by omega⟩, rfl, ?_, ?_⟩, hB⟩
    · exact { row := r4, lists := l4, order := RowAt.nil _ _ _, days := ⟨List.Pairwise.nil, fun d h => (by cases h)⟩, each := fun d h => (by cases h), apart := fun d h => (by cases h), width := hW, wide := hwf, unlike := List.Pairwise.nil, fits := fun m h => (by cases h), small := by simp }
    · unfold newSC
      rintro k (e | e | e | e | e | ⟨d, hd, e⟩)
      · omega
      · omega
      · omega
      · omega
      · cases e
      · cases hd
    · unfold newSC
      intro k hk
      omega
  rw [h4, h3, h2, h1, hb] at hQ
  clear l4 r4 k4 c4 b14 b23 b34 hB z4 z3 z2 z1 h4 h3 h2 h1 hwf
  go_enter Tryz.func30, Tryz.ntmps30
  go_wp2
  go_ret2
  exact ⟨rfl, hQ.out⟩
theorem hNew_noC (w : World) {W : Int} (hW : W < 1) : Calls Tryz.prog 30 #[.int .i64 W] w fun e w' => e = .returned (.tuple #[.pointer none, .int .i64 1]) ∧ w = w' := by
  go_enter Tryz.func30, Tryz.ntmps30
  go_wp2
  go_ret2
  exact ⟨rfl, rfl⟩
set_option maxHeartbeats 1000000 in
theorem hFirst_noneC {w : World} {hb : Nat} {S : Nat → Prop} (h : CalAtC w hb S []) :
    Calls Tryz.prog 88 #[.pointer (some ⟨hb, 0, none⟩)] w fun e w' => e = .returned (.tuple #[zeroM.val, .int .i64 6]) ∧ Below w.heap.size w w' := by
  obtain ⟨db, mb, W, lb, ov, ds, L, fv, h1, hT, -, -⟩ := h
  have hr := refusal_anyC (h1.below ((Below.refl _ w).alloc (Nat.le_refl _) (.cells #[.int .i64 0, .int .i64 0, .int .i64 0, .int .i64 0, .int .i64 0, .int .i64 0, .bool false] 34))).row (h1.below ((Below.refl _ w).alloc (Nat.le_refl _) (.cells #[.int .i64 0, .int .i64 0, .int .i64 0, .int .i64 0, .int .i64 0, .int .i64 0, .bool false] 34))).keys
  rw [← hT] at hr
  simp only [if_true] at hr
  clear h1 hT
  go_enter Tryz.func88, Tryz.ntmps88
  go_wp2_with (go_at_call 96; refine hr.mono ?_; rintro e w' ⟨rfl, rfl⟩)
  refine bodyPost_ret (v := .tuple #[.agg #[.int .i64 0, .int .i64 0, .int .i64 0, .int .i64 0, .int .i64 0, .int .i64 0, .bool false], .int .i64 6]) (by simp [results, Tryz.results88, go_sem]) rfl ⟨rfl, ?_⟩
  repeat (refine Below.setCell ?_ (by simp) _)
  exact (Below.refl _ w).alloc (Nat.le_refl _) _

set_option maxHeartbeats 1000000 in
theorem hFirst_someC {w : World} {hb : Nat} {S : Nat → Prop} {m : M} {T : List M} (h : CalAtC w hb S (m :: T)) :
    Calls Tryz.prog 88 #[.pointer (some ⟨hb, 0, none⟩)] w fun e w' => e = .returned (.tuple #[m.val, .int .i64 0]) ∧ Below w.heap.size w w' := by
  obtain ⟨W0, hW0⟩ : ∃ W0, W0 = w.alloc (.cells #[.int .i64 0, .int .i64 0, .int .i64 0, .int .i64 0, .int .i64 0, .int .i64 0, .bool false] 34) := ⟨_, rfl⟩
  have hB0 : Hid (Below w.heap.size w W0) := by rw [hW0]; exact (Below.refl _ w).alloc (Nat.le_refl _) _
  have hR0 : Hid (BoxM W0 w.heap.size zeroM) := by rw [hW0]; exact BoxM.mk w zeroM
  obtain ⟨db, mb, W, lb, ov, ds, L, fv, h1, hT, -, -⟩ := h
  have h0 := h1.below hB0.out
  have hr := refusal_anyC h0.row h0.keys
  rw [← hT] at hr
  simp only [reduceCtorEq, if_false] at hr
  have hf := dfirst_any h0.days hT.symm
  have c0 := h0.row.c0
  have hr' := Lib.hid hr
  have hf' := Lib.hid hf
  clear h1 h0 hr hf hT
  go_enter Tryz.func88, Tryz.ntmps88
  go_upto_region 1 with (fail)
  rw [← hW0]
  clear hW0
  go_wp2_with (first
    | (go_at_call 96; refine hr'.out.mono ?_; rintro e w' ⟨rfl, rfl⟩)
    | (go_at_call 97; refine hf'.out.mono ?_; rintro e w3 ⟨rfl, hb3⟩; have hR3 := Lib.hid (hR0.out.below hb3); have hb3' := Lib.hid hb3; clear hb3)
    | (refine wpList_store_row rfl 34 (.tmp 2) (.tmp 15) rfl w.heap.size m.cells rfl rfl 34 zeroM.cells hR3.out infoS rfl (M.cells_one m) ?_))
  obtain ⟨-, s0, s1, s2, s3, s4, s5, s6⟩ := (hR3.out.row m).at
  simp only [Nat.zero_add] at s0 s1 s2 s3 s4 s5 s6
  refine bodyPost_ret (v := .tuple #[m.val, .int .i64 0]) (by simp [results, Tryz.results88, go_sem, s0, s1, s2, s3, s4, s5, s6, M.val]) rfl ⟨rfl, ?_⟩
  exact below_setRow (hB0.out.trans (hb3'.out.mono hB0.out.size)) (Nat.le_refl _) _

set_option maxHeartbeats 1000000 in
theorem hPop_noneC {w : World} {hb : Nat} {S : Nat → Prop} (h : CalAtC w hb S []) :
    Calls Tryz.prog 90 #[.pointer (some ⟨hb, 0, none⟩)] w fun e w' => e = .returned (.tuple #[zeroM.val, .int .i64 6]) ∧ Below w.heap.size w w' := by
  obtain ⟨db, mb, W, lb, ov, ds, L, fv, h1, hT, -, -⟩ := h
  have hr := refusal_anyC (h1.below ((Below.refl _ w).alloc (Nat.le_refl _) (.cells #[.int .i64 0, .int .i64 0, .int .i64 0, .int .i64 0, .int .i64 0, .int .i64 0, .bool false] 34))).row (h1.below ((Below.refl _ w).alloc (Nat.le_refl _) (.cells #[.int .i64 0, .int .i64 0, .int .i64 0, .int .i64 0, .int .i64 0, .int .i64 0, .bool false] 34))).keys
  rw [← hT] at hr
  simp only [if_true] at hr
  clear h1 hT
  go_enter Tryz.func90, Tryz.ntmps90
  go_wp2_with (go_at_call 96; refine hr.mono ?_; rintro e w' ⟨rfl, rfl⟩)
  refine bodyPost_ret (v := .tuple #[.agg #[.int .i64 0, .int .i64 0, .int .i64 0, .int .i64 0, .int .i64 0, .int .i64 0, .bool false], .int .i64 6]) (by simp [results, Tryz.results90, go_sem]) rfl ⟨rfl, ?_⟩
  repeat (refine Below.setCell ?_ (by simp) _)
  exact (Below.refl _ w).alloc (Nat.le_refl _) _

/-- A calendar behind a take, and the result's store. -/
theorem CalAtC.taken {w W0 w3 : World} {hb : Nat} {S : Nat → Prop} {T : List M} (hb0 : Below w.heap.size w W0) (hSl : ∀ k, S k → k < w.heap.size) (h : CalAtC w3 hb S T) (hs : CStep W0 w3 S S) {B : Nat} (hB : w.heap.size ≤ B) (cs : Array Value) : CalAtC (w3.setRow B cs) hb S T ∧ CStep w (w3.setRow B cs) S S := by
  have k := KeptOff.row w3 B cs
  exact ⟨h.kept k (fun k hk e => by have := hSl k hk; omega), ((KeptOff.of_below hb0).trans hs.1).then_new k (fun k hk e => by omega), fun k e => .inl e⟩
set_option maxHeartbeats 1000000 in
theorem hPop_someC {w : World} {hb : Nat} {S : Nat → Prop} {m : M} {T : List M} (h : CalAtC w hb S (m :: T)) :
    Calls Tryz.prog 90 #[.pointer (some ⟨hb, 0, none⟩)] w fun e w' => e = .returned (.tuple #[m.val, .int .i64 0]) ∧ CalAtC w' hb S T ∧ CStep w w' S S := by
  obtain ⟨W0, hW0⟩ : ∃ W0, W0 = w.alloc (.cells #[.int .i64 0, .int .i64 0, .int .i64 0, .int .i64 0, .int .i64 0, .int .i64 0, .bool false] 34) := ⟨_, rfl⟩
  have hB0 : Hid (Below w.heap.size w W0) := by rw [hW0]; exact (Below.refl _ w).alloc (Nat.le_refl _) _
  have hR0 : Hid (BoxM W0 w.heap.size zeroM) := by rw [hW0]; exact BoxM.mk w zeroM
  have hSl : Hid (∀ k, S k → k < w.heap.size) := fun k hk => h.lt hk
  have hO := (List.pairwise_cons.1 h.o).2
  have h0' := h.below hB0.out
  have h0s := h0'
  obtain ⟨db, mb, W, lb, ov, ds, L, fv, h0, hT, -, -⟩ := h0'
  have hr := refusal_anyC h0.row h0.keys
  rw [← hT] at hr
  simp only [reduceCtorEq, if_false] at hr
  have hf := dfirst_any h0.days hT.symm
  have c0 := h0.row.c0
  have htk : Hid (∀ w', Below W0.heap.size W0 w' → Calls Tryz.prog 95 #[.pointer (some ⟨hb, 0, none⟩), .agg #[.int .i64 m.k.f, .int .i64 m.u]] w' fun e w3 => e = .returned m.val ∧ Hid (BoxM w3 w.heap.size zeroM ∧ CalAtC (w3.setRow w.heap.size m.cells) hb S T ∧ CStep w (w3.setRow w.heap.size m.cells) S S)) := by
    intro w' hb'
    refine (htake_any (h0s.below hb') (List.Perm.refl _) hO).mono ?_
    rintro e w3 ⟨he, hC, hst⟩
    have hz : BoxM w3 w.heap.size zeroM := (hR0.out.below hb').kept hst.1 (fun e => by have := hSl.out _ e; omega)
    exact ⟨he, hz, CalAtC.taken (hB0.out.trans (hb'.mono hB0.out.size)) hSl.out hC hst (Nat.le_refl _) _⟩
  have hsend := fun w' => sending_anyC m w'
  simp only [M.val, sendV] at hsend
  rw [show m.val = .agg #[.int .i64 m.k.t, .int .i64 m.k.f, .int .i64 m.k.s, .int .i64 m.to, .int .i64 m.v, .int .i64 m.u, .bool m.anti] from rfl] at hf htk
  have hr' := Lib.hid hr
  have hf' := Lib.hid hf
  have hs' := Lib.hid hsend
  clear h h0 h0s hr hf hT hO hsend
  go_enter Tryz.func90, Tryz.ntmps90
  go_upto_region 1 with (fail)
  rw [← hW0]
  clear hW0
  go_wp2_with (first
    | (go_at_call 96; refine hr'.out.mono ?_; rintro e w' ⟨rfl, rfl⟩)
    | (go_at_call 97; refine hf'.out.mono ?_; rintro e w1 ⟨rfl, hb1⟩; have hb1' := Lib.hid hb1; clear hb1)
    | (go_at_call 98; refine (hs'.out _).mono ?_; rintro e w2 ⟨rfl, hr2⟩; have htk2 := Lib.hid (htk.out w2 (hb1'.out.trans (hr2.below.mono hb1'.out.size))); clear hr2)
    | (go_at_call 95; refine htk2.out.mono ?_; rintro e w3 ⟨rfl, hQ3⟩)
    | (refine wpList_store_row rfl 34 (.tmp 2) (.tmp 18) rfl w.heap.size m.cells rfl rfl 34 zeroM.cells hQ3.out.1 infoS rfl (M.cells_one m) ?_))
  obtain ⟨-, s0, s1, s2, s3, s4, s5, s6⟩ := (hQ3.out.1.row m).at
  simp only [Nat.zero_add] at s0 s1 s2 s3 s4 s5 s6
  exact bodyPost_ret (v := .tuple #[m.val, .int .i64 0]) (by simp [results, Tryz.results90, go_sem, s0, s1, s2, s3, s4, s5, s6, M.val]) rfl ⟨rfl, hQ3.out.2⟩

set_option maxHeartbeats 2000000 in
theorem hCut_noneC {w : World} {hb : Nat} {S : Nat → Prop} {T : List M} (h : CalAtC w hb S T) {f u : Int} (hf : (Lit.int .i64 f).wf = true) (hu : (Lit.int .i64 u).wf = true) (hs : hasS T f u = false) :
    Calls Tryz.prog 87 #[.pointer (some ⟨hb, 0, none⟩), .int .i64 f, .int .i64 u] w fun e w' => e = .returned (.tuple #[zeroM.val, .int .i64 6]) ∧ Below w.heap.size w w' := by
  obtain ⟨W0, hW0⟩ : ∃ W0, W0 = (w.alloc (.cells #[.int .i64 0, .int .i64 0, .int .i64 0, .int .i64 0, .int .i64 0, .int .i64 0, .bool false] 34)).alloc (.cells #[.int .i64 f, .int .i64 u] 150) := ⟨_, rfl⟩
  have hB0 : Hid (Below w.heap.size w W0) := by rw [hW0]; exact ((Below.refl _ w).alloc (Nat.le_refl _) _).alloc (by simp) _
  have hz : BoxM W0 w.heap.size zeroM := by rw [hW0]; exact (BoxM.mk w zeroM).below ((Below.refl _ _).alloc (Nat.le_refl _) _)
  have hsb : W0.heap[w.heap.size + 1]? = some (.cells #[.int .i64 f, .int .i64 u] 150 (0, 0)) := by
    have e := heap_alloc_new (w.alloc (.cells #[.int .i64 0, .int .i64 0, .int .i64 0, .int .i64 0, .int .i64 0, .int .i64 0, .bool false] 34)) (.cells #[.int .i64 f, .int .i64 u] 150)
    have e1 : (w.alloc (.cells #[.int .i64 0, .int .i64 0, .int .i64 0, .int .i64 0, .int .i64 0, .int .i64 0, .bool false] 34)).heap.size = w.heap.size + 1 := by simp
    rw [e1] at e
    rw [hW0]
    exact e
  have b0 : W0.cell? ⟨w.heap.size + 1, 0, none⟩ = some (.int .i64 f) := by simp [World.cell?, hsb]
  have b1 : W0.cell? ⟨w.heap.size + 1, 1, none⟩ = some (.int .i64 u) := by simp [World.cell?, hsb]
  obtain ⟨db, mb, W, lb, ov, ds, L, fv, h1, rfl, -, -⟩ := h
  have h0 := h1.below hB0.out
  have hmd := made_okC h0.row
  have hhs := has_anyC h0.row h0.keys hf hu
  rw [hs] at hhs
  have hfin : Hid (∀ w2, Below W0.heap.size W0 w2 → BoxM w2 w.heap.size zeroM) := fun w2 hb2 => hz.below hb2
  have hhs' := Lib.hid hhs
  clear h1 h0 hhs hs hf hu hsb hz
  go_enter Tryz.func87, Tryz.ntmps87
  go_upto_region 2 with (fail)
  rw [← hW0]
  clear hW0
  go_upto_region 5 with (first
    | (go_at_call 92; refine hmd.mono ?_; rintro e w' ⟨rfl, rfl⟩)
    | (go_at_call 94; refine hhs'.out.mono ?_; rintro e w2 ⟨rfl, hb2⟩; have hz2 := Lib.hid (hfin.out w2 hb2); have hb2' := Lib.hid hb2; clear hb2))
  go_wp2_with (refine wpList_store_row rfl 34 (.tmp 6) (.tmp 22) rfl w.heap.size zeroM.cells rfl rfl 34 zeroM.cells hz2.out infoS rfl (M.cells_one zeroM) ?_)
  obtain ⟨-, s0, s1, s2, s3, s4, s5, s6⟩ := (hz2.out.row zeroM).at
  simp only [Nat.zero_add] at s0 s1 s2 s3 s4 s5 s6
  refine bodyPost_ret (v := .tuple #[zeroM.val, .int .i64 6]) (by simp [results, Tryz.results87, go_sem, s0, s1, s2, s3, s4, s5, s6, M.val]) rfl ⟨rfl, ?_⟩
  exact below_setRow (hB0.out.trans (hb2'.out.mono hB0.out.size)) (Nat.le_refl _) _
set_option maxHeartbeats 2000000 in
theorem hCut_someC {w : World} {hb : Nat} {S : Nat → Prop} {T T' : List M} {x : M} (h : CalAtC w hb S T) (hp : (x :: T').Perm T) (hO : InOrder ltM T') :
    Calls Tryz.prog 87 #[.pointer (some ⟨hb, 0, none⟩), .int .i64 x.k.f, .int .i64 x.u] w fun e w' => e = .returned (.tuple #[x.val, .int .i64 0]) ∧ CalAtC w' hb S T' ∧ CStep w w' S S := by
  obtain ⟨W0, hW0⟩ : ∃ W0, W0 = (w.alloc (.cells #[.int .i64 0, .int .i64 0, .int .i64 0, .int .i64 0, .int .i64 0, .int .i64 0, .bool false] 34)).alloc (.cells #[.int .i64 x.k.f, .int .i64 x.u] 150) := ⟨_, rfl⟩
  have hB0 : Hid (Below w.heap.size w W0) := by rw [hW0]; exact ((Below.refl _ w).alloc (Nat.le_refl _) _).alloc (by simp) _
  have hz : BoxM W0 w.heap.size zeroM := by rw [hW0]; exact (BoxM.mk w zeroM).below ((Below.refl _ _).alloc (Nat.le_refl _) _)
  have hsb : W0.heap[w.heap.size + 1]? = some (.cells #[.int .i64 x.k.f, .int .i64 x.u] 150 (0, 0)) := by
    have e := heap_alloc_new (w.alloc (.cells #[.int .i64 0, .int .i64 0, .int .i64 0, .int .i64 0, .int .i64 0, .int .i64 0, .bool false] 34)) (.cells #[.int .i64 x.k.f, .int .i64 x.u] 150)
    have e1 : (w.alloc (.cells #[.int .i64 0, .int .i64 0, .int .i64 0, .int .i64 0, .int .i64 0, .int .i64 0, .bool false] 34)).heap.size = w.heap.size + 1 := by simp
    rw [e1] at e
    rw [hW0]
    exact e
  have b0 : W0.cell? ⟨w.heap.size + 1, 0, none⟩ = some (.int .i64 x.k.f) := by simp [World.cell?, hsb]
  have b1 : W0.cell? ⟨w.heap.size + 1, 1, none⟩ = some (.int .i64 x.u) := by simp [World.cell?, hsb]
  have hbl : w.heap.size + 1 < W0.heap.size := (Array.getElem?_eq_some_iff.1 hsb).1
  have hSl : Hid (∀ k, S k → k < w.heap.size) := fun k hk => h.lt hk
  have hxT : x ∈ T := hp.mem_iff.1 (List.mem_cons_self ..)
  have hxf := h.fits x hxT
  have h0s := h.below hB0.out
  have hin : hasS T x.k.f x.u = true := hasS_iff.2 ⟨x, hxT, rfl, rfl⟩
  have h0c := h0s
  obtain ⟨db, mb, W, lb, ov, ds, L, fv, h0, hT, -, -⟩ := h0c
  have hmd := made_okC h0.row
  have hhs := has_anyC h0.row h0.keys hxf.1.2.1 hxf.2.2.2
  rw [← hT, hin] at hhs
  have htk : Hid (∀ w', Below W0.heap.size W0 w' → w'.cell? ⟨w.heap.size + 1, 0, none⟩ = some (.int .i64 x.k.f) ∧ w'.cell? ⟨w.heap.size + 1, 1, none⟩ = some (.int .i64 x.u) ∧ Calls Tryz.prog 95 #[.pointer (some ⟨hb, 0, none⟩), .agg #[.int .i64 x.k.f, .int .i64 x.u]] w' fun e w3 => e = .returned x.val ∧ Hid (BoxM w3 w.heap.size zeroM ∧ CalAtC (w3.setRow w.heap.size x.cells) hb S T' ∧ CStep w (w3.setRow w.heap.size x.cells) S S)) := by
    intro w' hb'
    refine ⟨(hb'.cell (p := ⟨w.heap.size + 1, 0, none⟩) hbl).trans b0, (hb'.cell (p := ⟨w.heap.size + 1, 1, none⟩) hbl).trans b1, (htake_any (h0s.below hb') hp hO).mono ?_⟩
    rintro e w3 ⟨he, hC, hst⟩
    have hz3 : BoxM w3 w.heap.size zeroM := (hz.below hb').kept hst.1 (fun e => by have := hSl.out _ e; omega)
    exact ⟨he, hz3, CalAtC.taken (hB0.out.trans (hb'.mono hB0.out.size)) hSl.out hC hst (Nat.le_refl _) _⟩
  have hhs' := Lib.hid hhs
  rw [show x.val = .agg #[.int .i64 x.k.t, .int .i64 x.k.f, .int .i64 x.k.s, .int .i64 x.to, .int .i64 x.v, .int .i64 x.u, .bool x.anti] from rfl] at htk
  clear h h0 h0s hhs hT hp hO hxT hxf hin hsb hz hbl
  go_enter Tryz.func87, Tryz.ntmps87
  go_upto_region 2 with (fail)
  rw [← hW0]
  clear hW0
  go_wp2_with (first
    | (go_at_call 92; refine hmd.mono ?_; rintro e w' ⟨rfl, rfl⟩)
    | (go_at_call 94; refine hhs'.out.mono ?_; rintro e w2 ⟨rfl, hb2⟩; obtain ⟨d0, d1, htk2⟩ := htk.out w2 hb2; have htk2' := Lib.hid htk2; clear htk2 hb2)
    | (go_at_call 95; refine htk2'.out.mono ?_; rintro e w3 ⟨rfl, hQ3⟩)
    | (refine wpList_store_row rfl 34 (.tmp 6) (.tmp 25) rfl w.heap.size x.cells rfl rfl 34 zeroM.cells hQ3.out.1 infoS rfl (M.cells_one x) ?_))
  obtain ⟨-, s0, s1, s2, s3, s4, s5, s6⟩ := (hQ3.out.1.row x).at
  simp only [Nat.zero_add] at s0 s1 s2 s3 s4 s5 s6
  exact bodyPost_ret (v := .tuple #[x.val, .int .i64 0]) (by simp [results, Tryz.results87, go_sem, s0, s1, s2, s3, s4, s5, s6, M.val]) rfl ⟨rfl, hQ3.out.2⟩
end Go.Proofs.YtjlbkdghlijoeaaGreat
namespace Go.Proofs.YtjlbkdghlijoeaaGreat
open Go.ChangeShapes Go.WideShapes Go.ChangeAt Go.Shelf Go.RowKit Go.Lib Go.Sort Go.Deep Go.Maps
set_option linter.unusedVariables false

/-- A queue that holds the messages of T, of unlike sendings, in their order. -/
structure QAt (w : World) (b0 hb tb mb n : Nat) (v : Value) (T : List M) : Prop where
  h : HeapOf w hb tb mb
  t : ∃ l, TreeAt w b0 tb v l ∧ l.Perm T
  s : SendsAt w mb n T
  o : InOrder ltM T
  u : Unlike T
  lh : hb < b0
  lm : mb < b0
  dt : hb ≠ tb ∧ hb ≠ mb ∧ tb ≠ mb
theorem QAt.kept {S : Nat → Prop} {w w' : World} {b0 hb tb mb n : Nat} {v : Value} {T : List M} (h : QAt w b0 hb tb mb n v T) (hk : KeptOff S w w') (h1 : ¬ S hb) (h2 : ¬ S tb) (h3 : ¬ S mb) (h4 : ∀ k, v.ownBlock = some k → ¬ S k) : QAt w' b0 hb tb mb n v T := by
  obtain ⟨l, hl, hp⟩ := h.t
  exact ⟨h.h.kept hk h1, ⟨l, hl.kept hk h2 h4, hp⟩, h.s.kept hk h3, h.o, h.u, h.lh, h.lm, h.dt⟩
theorem QAt.below {w w' : World} {b0 hb tb mb n : Nat} {v : Value} {T : List M} (h : QAt w b0 hb tb mb n v T) (hb' : Below w.heap.size w w') : QAt w' b0 hb tb mb n v T :=
  h.kept (S := fun _ => False) (.of_below hb') (fun e => e) (fun e => e) (fun e => e) (fun _ _ e => e)
theorem QAt.fits {w : World} {b0 hb tb mb n : Nat} {v : Value} {T : List M} (h : QAt w b0 hb tb mb n v T) : ∀ m ∈ T, m.fits := by
  obtain ⟨l, hl, hp⟩ := h.t
  exact fun m hm => hl.fits m (hp.mem_iff.2 hm)
theorem QAt.mono {w : World} {b0 hb tb mb n n' : Nat} {v : Value} {T : List M} (h : QAt w b0 hb tb mb n v T) (hn : n ≤ n') : QAt w b0 hb tb mb n' v T := ⟨h.h, h.t, h.s.mono hn, h.o, h.u, h.lh, h.lm, h.dt⟩
/-- What a step of a queue turns. -/
def QStep (w w' : World) (tb mb : Nat) (v v' : Value) : Prop := KeptOff (fun k => k = tb ∨ k = mb ∨ v.ownBlock = some k) w w' ∧ RowFrom w v v'
theorem QStep.of_below {w w' : World} {tb mb : Nat} {v : Value} (h : Below w.heap.size w w') : QStep w w' tb mb v v := ⟨.of_below h, fun _ h => .inl h⟩

theorem hNew_anyH (w : World) : Calls Tryz.prog 29 #[] w fun e w' => e = .returned (.pointer (some ⟨w.heap.size + 2, 0, none⟩)) ∧ QAt w' (w.heap.size + 3) (w.heap.size + 2) w.heap.size (w.heap.size + 1) 0 (.slice none 0 0) [] ∧ Below w.heap.size w w' := by
  have hmm := @run_makeMap Tryz.prog
  have hW : QAt (((w.alloc (.cells #[.slice none 0 0, .func (.func 34) #[] #[]] 83)).alloc (.map #[] 0)).alloc (.cells #[.pointer (some ⟨w.heap.size, 0, none⟩), .map (some (w.heap.size + 1))] 86)) (w.heap.size + 3) (w.heap.size + 2) w.heap.size (w.heap.size + 1) 0 (.slice none 0 0) [] := by
    have z1 : (w.alloc (.cells #[.slice none 0 0, .func (.func 34) #[] #[]] 83)).heap.size = w.heap.size + 1 := by simp
    have z2 : ((w.alloc (.cells #[.slice none 0 0, .func (.func 34) #[] #[]] 83)).alloc (.map #[] 0)).heap.size = w.heap.size + 2 := by simp
    have t1 : TreeOf (w.alloc (.cells #[.slice none 0 0, .func (.func 34) #[] #[]] 83)) w.heap.size (.slice none 0 0) := heap_alloc_new w _
    have hs := SendsAt.made (w.alloc (.cells #[.slice none 0 0, .func (.func 34) #[] #[]] 83))
    rw [z1] at hs
    have hh := heap_alloc_new ((w.alloc (.cells #[.slice none 0 0, .func (.func 34) #[] #[]] 83)).alloc (.map #[] 0)) (.cells #[.pointer (some ⟨w.heap.size, 0, none⟩), .map (some (w.heap.size + 1))] 86)
    rw [z2] at hh
    have t3 := ((Below.heap_alloc _ (.cells #[.pointer (some ⟨w.heap.size, 0, none⟩), .map (some (w.heap.size + 1))] 86) w.heap.size (by omega)).trans (Below.heap_alloc _ (.map #[] 0) w.heap.size (by omega))).trans t1
    exact ⟨hh, ⟨[], ⟨t3, World.ownsRow_nil _ _ _ _, by omega, by simp, by simp, fun i h0 hi => by simp at hi, by simp⟩, List.Perm.refl _⟩, hs.alloc _, List.Pairwise.nil, List.Pairwise.nil, by omega, by omega, by omega, by omega, by omega⟩
  have hB : Below w.heap.size w (((w.alloc (.cells #[.slice none 0 0, .func (.func 34) #[] #[]] 83)).alloc (.map #[] 0)).alloc (.cells #[.pointer (some ⟨w.heap.size, 0, none⟩), .map (some (w.heap.size + 1))] 86)) := (((Below.refl _ w).alloc (Nat.le_refl _) _).alloc (by simp) _).alloc (by simp; omega) _
  have hQ := Lib.hid (And.intro hW hB)
  clear hW hB
  go_enter Tryz.func29, Tryz.ntmps29
  go_wp2
  go_ret
  exact ⟨rfl, hQ.out⟩

theorem QAt.size {w : World} {b0 hb tb mb n : Nat} {v : Value} {T : List M} (h : QAt w b0 hb tb mb n v T) : ∃ a cap, TreeOf w tb (.slice a T.length cap) ∧ v = .slice a T.length cap := by
  obtain ⟨l, hl, hp⟩ := h.t
  obtain ⟨a, cap, hv⟩ := hl.shape
  rw [hp.length_eq] at hv
  exact ⟨a, cap, hv ▸ hl.t, hv⟩
theorem hLen_anyH {w : World} {b0 hb tb mb n : Nat} {v : Value} {T : List M} (h : QAt w b0 hb tb mb n v T) : Calls Tryz.prog 65 #[.pointer (some ⟨hb, 0, none⟩)] w fun e w' => e = .returned (.int .i64 T.length) ∧ w = w' := by
  obtain ⟨a, cap, ht, _⟩ := h.size
  have hmd := made_okH h.h
  have c0 := h.h.c0
  have hsz := tsize_any tlay tb a T.length cap w ht.c0
  clear h ht
  generalize T.length = k at *
  go_enter Tryz.func65, Tryz.ntmps65
  go_wp2_with (first | (go_at_call 68; refine hmd.mono ?_; rintro e w' ⟨rfl, rfl⟩) | (go_at_call 69; refine hsz.mono ?_; rintro e w' ⟨rfl, rfl⟩))
  go_ret
  exact ⟨rfl, rfl⟩
theorem refusal_anyH {w : World} {b0 hb tb mb n : Nat} {v : Value} {T : List M} (h : QAt w b0 hb tb mb n v T) : Calls Tryz.prog 75 #[.pointer (some ⟨hb, 0, none⟩)] w fun e w' => e = .returned (.int .i64 (if T = [] then 6 else 0)) ∧ w = w' := by
  obtain ⟨a, cap, ht, _⟩ := h.size
  have hmd := made_okH h.h
  have c0 := h.h.c0
  have hsz := tsize_any tlay tb a T.length cap w ht.c0
  clear h ht
  by_cases hT : T = []
  · rw [if_pos hT]
    subst hT
    simp only [List.length_nil] at hsz
    go_enter Tryz.func75, Tryz.ntmps75
    go_wp2_with (first | (go_at_call 68; refine hmd.mono ?_; rintro e w' ⟨rfl, rfl⟩) | (go_at_call 69; refine hsz.mono ?_; rintro e w' ⟨rfl, rfl⟩))
    go_ret
    exact ⟨rfl, rfl⟩
  · rw [if_neg hT]
    have hk : ¬ (T.length : Int) = 0 := by
      intro e
      exact hT (List.eq_nil_of_length_eq_zero (by omega))
    generalize T.length = k at *
    go_enter Tryz.func75, Tryz.ntmps75
    go_wp2_with (first | (go_at_call 68; refine hmd.mono ?_; rintro e w' ⟨rfl, rfl⟩) | (go_at_call 69; refine hsz.mono ?_; rintro e w' ⟨rfl, rfl⟩))
    go_ret
    exact ⟨rfl, rfl⟩
end Go.Proofs.YtjlbkdghlijoeaaGreat
namespace Go.Proofs.YtjlbkdghlijoeaaGreat
open Go.ChangeShapes Go.WideShapes Go.ChangeAt Go.Shelf Go.RowKit Go.Lib Go.Sort Go.Deep Go.Maps
set_option linter.unusedVariables false

theorem root_of {l : List M} (h : HeapOn ltM l.toArray) (h0 : 0 < l.length) : ∀ x ∈ l, ltM x (l.getD 0 default) = false := by
  intro x hx
  obtain ⟨i, hi, rfl⟩ := List.getElem_of_mem hx
  have := root_min ordM h i i (Nat.le_refl _) (by simpa using hi)
  have e0 : l.toArray[0]! = l.getD 0 default := by
    rw [getElem!_pos _ 0 (by simpa using h0)]
    simp [List.getD_eq_getElem?_getD, h0]
  have e1 : l.toArray[i]! = l[i] := by
    rw [getElem!_pos _ i (by simpa using hi)]
    simp
  rwa [e0, e1] at this
/-- The first of a queue is the tree's root. -/
theorem QAt.root {w : World} {b0 hb tb mb n : Nat} {v : Value} {m : M} {T : List M} (h : QAt w b0 hb tb mb n v (m :: T)) : ∃ l, TreeAt w b0 tb v l ∧ l.Perm (m :: T) ∧ 0 < l.length ∧ l.getD 0 default = m ∧ ∀ l', (m :: l').Perm l → l'.Perm T := by
  obtain ⟨l, hl, hp⟩ := h.t
  have h0 : 0 < l.length := by rw [hp.length_eq]; simp
  have key : ∀ l', (l.getD 0 default :: l').Perm l → l.getD 0 default = m ∧ l'.Perm T := by
    intro l' hp'
    obtain ⟨T', e, hT'⟩ := pop_list hp hp' (root_of hl.heap h0) h.o h.u
    cases e
    exact ⟨rfl, hT'⟩
  have e0 : l.getD 0 default = m := by
    cases l with
    | nil => simp at h0
    | cons a l => exact (key l (List.Perm.refl _)).1
  exact ⟨l, hl, hp, h0, e0, fun l' hp' => (key l' (by rw [e0]; exact hp')).2⟩

set_option maxHeartbeats 1000000 in
theorem hFirst_noneH {w : World} {b0 hb tb mb n : Nat} {v : Value} (h : QAt w b0 hb tb mb n v []) :
    Calls Tryz.prog 64 #[.pointer (some ⟨hb, 0, none⟩)] w fun e w' => e = .returned (.tuple #[zeroM.val, .int .i64 6]) ∧ Below w.heap.size w w' := by
  have hr := refusal_anyH (h.below ((Below.refl _ w).alloc (Nat.le_refl _) (.cells #[.int .i64 0, .int .i64 0, .int .i64 0, .int .i64 0, .int .i64 0, .int .i64 0, .bool false] 34)))
  simp only [if_true] at hr
  clear h
  go_enter Tryz.func64, Tryz.ntmps64
  go_wp2_with (go_at_call 75; refine hr.mono ?_; rintro e w' ⟨rfl, rfl⟩)
  refine bodyPost_ret (v := .tuple #[.agg #[.int .i64 0, .int .i64 0, .int .i64 0, .int .i64 0, .int .i64 0, .int .i64 0, .bool false], .int .i64 6]) (by simp [results, Tryz.results64, go_sem]) rfl ⟨rfl, ?_⟩
  repeat (refine Below.setCell ?_ (by simp) _)
  exact (Below.refl _ w).alloc (Nat.le_refl _) _

set_option maxHeartbeats 1000000 in
theorem hFirst_someH {w : World} {b0 hb tb mb n : Nat} {v : Value} {m : M} {T : List M} (h : QAt w b0 hb tb mb n v (m :: T)) :
    Calls Tryz.prog 64 #[.pointer (some ⟨hb, 0, none⟩)] w fun e w' => e = .returned (.tuple #[m.val, .int .i64 0]) ∧ Below w.heap.size w w' := by
  obtain ⟨W0, hW0⟩ : ∃ W0, W0 = w.alloc (.cells #[.int .i64 0, .int .i64 0, .int .i64 0, .int .i64 0, .int .i64 0, .int .i64 0, .bool false] 34) := ⟨_, rfl⟩
  have hB0 : Hid (Below w.heap.size w W0) := by rw [hW0]; exact (Below.refl _ w).alloc (Nat.le_refl _) _
  have hR0 : Hid (BoxM W0 w.heap.size zeroM) := by rw [hW0]; exact BoxM.mk w zeroM
  have h0 := h.below hB0.out
  have hr := refusal_anyH h0
  simp only [reduceCtorEq, if_false] at hr
  obtain ⟨l, hl, _, hlen, he, _⟩ := h0.root
  have hf := tfirst_any hl hlen
  rw [he] at hf
  have c0 := h0.h.c0
  have hr' := Lib.hid hr
  have hf' := Lib.hid hf
  clear h h0 hr hf hl he hlen
  go_enter Tryz.func64, Tryz.ntmps64
  go_upto_region 1 with (fail)
  rw [← hW0]
  clear hW0
  go_wp2_with (first
    | (go_at_call 75; refine hr'.out.mono ?_; rintro e w' ⟨rfl, rfl⟩)
    | (go_at_call 76; refine hf'.out.mono ?_; rintro e w3 ⟨rfl, hb3⟩; have hR3 := Lib.hid (hR0.out.kept (S := fun _ => False) (.of_below hb3) (fun e => e)); have hb3' := Lib.hid hb3; clear hb3)
    | (refine wpList_store_row rfl 34 (.tmp 2) (.tmp 15) rfl w.heap.size m.cells rfl rfl 34 zeroM.cells hR3.out infoS rfl (M.cells_one m) ?_))
  obtain ⟨-, s0, s1, s2, s3, s4, s5, s6⟩ := (hR3.out.row m).at
  simp only [Nat.zero_add] at s0 s1 s2 s3 s4 s5 s6
  refine bodyPost_ret (v := .tuple #[m.val, .int .i64 0]) (by simp [results, Tryz.results64, go_sem, s0, s1, s2, s3, s4, s5, s6, M.val]) rfl ⟨rfl, ?_⟩
  exact ((KeptOff.of_below (S := fun k => False) (hB0.out.trans (hb3'.out.mono hB0.out.size))).then_new (KeptOff.setRow _ _ _) (fun k hk e => by omega)).below (fun _ _ e => e.elim) (Nat.le_refl _)

set_option maxHeartbeats 1000000 in
theorem hPop_noneH {w : World} {b0 hb tb mb n : Nat} {v : Value} (h : QAt w b0 hb tb mb n v []) :
    Calls Tryz.prog 66 #[.pointer (some ⟨hb, 0, none⟩)] w fun e w' => e = .returned (.tuple #[zeroM.val, .int .i64 6]) ∧ Below w.heap.size w w' := by
  have hr := refusal_anyH (h.below ((Below.refl _ w).alloc (Nat.le_refl _) (.cells #[.int .i64 0, .int .i64 0, .int .i64 0, .int .i64 0, .int .i64 0, .int .i64 0, .bool false] 34)))
  simp only [if_true] at hr
  clear h
  go_enter Tryz.func66, Tryz.ntmps66
  go_wp2_with (go_at_call 75; refine hr.mono ?_; rintro e w' ⟨rfl, rfl⟩)
  refine bodyPost_ret (v := .tuple #[.agg #[.int .i64 0, .int .i64 0, .int .i64 0, .int .i64 0, .int .i64 0, .int .i64 0, .bool false], .int .i64 6]) (by simp [results, Tryz.results66, go_sem]) rfl ⟨rfl, ?_⟩
  repeat (refine Below.setCell ?_ (by simp) _)
  exact (Below.refl _ w).alloc (Nat.le_refl _) _

set_option maxHeartbeats 1000000 in
theorem hPop_someH {w : World} {b0 hb tb mb n : Nat} {v : Value} {m : M} {T : List M} (h : QAt w b0 hb tb mb n v (m :: T)) :
    Calls Tryz.prog 66 #[.pointer (some ⟨hb, 0, none⟩)] w fun e w' => e = .returned (.tuple #[m.val, .int .i64 0]) ∧ ∃ v', QAt w' b0 hb tb mb n v' T ∧ QStep w w' tb mb v v' := by
  obtain ⟨W0, hW0⟩ : ∃ W0, W0 = w.alloc (.cells #[.int .i64 0, .int .i64 0, .int .i64 0, .int .i64 0, .int .i64 0, .int .i64 0, .bool false] 34) := ⟨_, rfl⟩
  have hB0 : Hid (Below w.heap.size w W0) := by rw [hW0]; exact (Below.refl _ w).alloc (Nat.le_refl _) _
  have hR0 : Hid (BoxM W0 w.heap.size zeroM) := by rw [hW0]; exact BoxM.mk w zeroM
  have hbw : hb < w.heap.size ∧ tb < w.heap.size ∧ mb < w.heap.size := ⟨h.h.lt, by obtain ⟨l, hl, _⟩ := h.t; exact hl.t.lt, h.s.lt⟩
  have h0 := h.below hB0.out
  have hr := refusal_anyH h0
  simp only [reduceCtorEq, if_false] at hr
  obtain ⟨l, hl, hlp, hlen, he, hre⟩ := h0.root
  have hf := htake_anyH h0.h hl (by obtain ⟨D, d1, d2⟩ := h0.s; exact ⟨D, d1, fun f u hf hu => (d2 f u hf hu).trans (hasS_perm hlp.symm f u)⟩) (h0.u.perm hlp.symm) h0.lh h0.lm h0.dt 0 hlen
  rw [he] at hf
  have hrl : ∀ k, v.ownBlock = some k → k < w.heap.size := by
    obtain ⟨l2, hl2, _⟩ := h.t
    exact fun k hk => (hl2.own.lt k hk).2
  have hfin : ∀ w3, TakeRes W0 b0 hb tb mb n v l 0 w3 → Hid (BoxM w3 w.heap.size zeroM ∧ ∃ v', QAt (w3.setRow w.heap.size m.cells) b0 hb tb mb n v' T ∧ QStep w (w3.setRow w.heap.size m.cells) tb mb v v') := by
    rintro w3 ⟨v', l', t1, t2, t3, t4, t5, t6⟩
    rw [he] at t2
    have hp' := hre l' t2
    have hk5 := KeptOff.setRow w3 w.heap.size m.cells
    have hR3 := hR0.out.kept t5 (fun e => by rcases e with e | e | e; · omega
                                             · omega
                                             · have := hrl _ e; omega)
    refine ⟨hR3, v', ⟨t3.kept hk5 (by omega), ⟨l', t1.kept hk5 (by omega) (fun k hk e => by have := hrl k (t6 ▸ hk); omega), hp'⟩, ?_, (List.pairwise_cons.1 h0.o).2, (List.pairwise_cons.1 h0.u).2, h0.lh, h0.lm, h0.dt⟩, ?_, fun g hg => .inl (t6 ▸ hg)⟩
    · exact (t4.kept hk5 (by omega)).congr (fun f u => hasS_perm hp' f u)
    · exact ((KeptOff.of_below hB0.out).trans (t5.mono (fun _ _ e => e))).then_new hk5 (fun k hk e => by omega)
  have c0 := h0.h.c0
  have hr' := Lib.hid hr
  have hf' : Hid (Calls Tryz.prog 74 #[.pointer (some ⟨hb, 0, none⟩), .int .i64 0] W0 fun e w' => e = .returned m.val ∧ TakeRes W0 b0 hb tb mb n v l 0 w') := hf
  have hfin' := Lib.hid hfin
  clear h h0 hr hf hl he hlen hlp hre hfin hrl
  go_enter Tryz.func66, Tryz.ntmps66
  go_upto_region 1 with (fail)
  rw [← hW0]
  clear hW0
  go_wp2_with (first
    | (go_at_call 75; refine hr'.out.mono ?_; rintro e w' ⟨rfl, rfl⟩)
    | (go_at_call 74; refine hf'.out.mono ?_; rintro e w3 ⟨rfl, ht3⟩; have hQ3 := hfin'.out w3 ht3; clear ht3)
    | (refine wpList_store_row rfl 34 (.tmp 2) (.tmp 12) rfl w.heap.size m.cells rfl rfl 34 zeroM.cells hQ3.out.1 infoS rfl (M.cells_one m) ?_))
  obtain ⟨-, s0, s1, s2, s3, s4, s5, s6⟩ := (hQ3.out.1.row m).at
  simp only [Nat.zero_add] at s0 s1 s2 s3 s4 s5 s6
  exact bodyPost_ret (v := .tuple #[m.val, .int .i64 0]) (by simp [results, Tryz.results66, go_sem, s0, s1, s2, s3, s4, s5, s6, M.val]) rfl ⟨rfl, hQ3.out.2⟩
end Go.Proofs.YtjlbkdghlijoeaaGreat
