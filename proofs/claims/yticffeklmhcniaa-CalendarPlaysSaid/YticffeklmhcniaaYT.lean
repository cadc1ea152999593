/-
  A calendar: New, First, Pop, Cut.
-/
import Derived.Test.YticffeklmhcniaaYS
namespace Go.Proofs.Yticffeklmhcniaa
open Go.ChangeShapes Go.WideShapes Go.ChangeAt Go.Shelf Go.RowKit Go.Lib Go.Sort Go.Deep Go.Maps
set_option linter.unusedVariables false

/-- The blocks of a new calendar. -/
def newS (w : World) : Nat → Prop := fun k => w.heap.size ≤ k ∧ k < w.heap.size + 4
set_option maxHeartbeats 1000000 in
theorem hNew_any (w : World) {W : Int} (hW : 1 ≤ W) (hwf : (Lit.int .i64 W).wf = true) : Calls Try.prog 8 #[.int .i64 W] w fun e w' => e = .returned (.tuple #[.pointer (some ⟨w.heap.size + 3, 0, none⟩), .int .i64 0]) ∧ Hid (CalAt w' (w.heap.size + 3) (newS w) [] ∧ Below w.heap.size w w') := by
  have hmm := @run_makeMap Try.prog
  have hW1 : ¬ W < 1 := by omega
  obtain ⟨b, hb⟩ : ∃ b, b = w.heap.size := ⟨_, rfl⟩
  obtain ⟨w1, h1⟩ : ∃ w1, w1 = w.alloc (.map #[] 0) := ⟨_, rfl⟩
  have z1 : w1.heap.size = b + 1 := by rw [h1, hb]; simp
  obtain ⟨w2, h2⟩ : ∃ w2, w2 = w1.alloc (.cells #[.int .i64 W, .map (some b), .slice none 0 0] 78) := ⟨_, rfl⟩
  have z2 : w2.heap.size = b + 2 := by rw [h2]; simp [z1]
  obtain ⟨w3, h3⟩ : ∃ w3, w3 = w2.alloc (.map #[] 0) := ⟨_, rfl⟩
  have z3 : w3.heap.size = b + 3 := by rw [h3]; simp [z2]
  obtain ⟨w4, h4⟩ : ∃ w4, w4 = w3.alloc (.cells #[.pointer (some ⟨b + 1, 0, none⟩), .map (some (b + 2))] 55) := ⟨_, rfl⟩
  have z4 : w4.heap.size = b + 4 := by rw [h4]; simp [z3]
  have hB : Below w.heap.size w w4 := by
    rw [h4, h3, h2, h1]
    exact (((Below.refl _ w).alloc (Nat.le_refl _) _).alloc (by simp) _).alloc (by simp; omega) _ |>.alloc (by simp; omega) _
  have b23 : Below w2.heap.size w2 w4 := by rw [h4, h3]; exact ((Below.refl _ w2).alloc (Nat.le_refl _) _).alloc (by simp) _
  have b34 : Below w3.heap.size w3 w4 := by rw [h4]; exact (Below.refl _ w3).alloc (Nat.le_refl _) _
  have b14 : Below w1.heap.size w1 w4 := by rw [h4, h3, h2]; exact (((Below.refl _ w1).alloc (Nat.le_refl _) _).alloc (by simp) _).alloc (by simp; omega) _
  have l4 : ListsAt w4 b [] (fun _ => .slice none 0 0) := by
    have := ListsAt.made w (fun _ => Value.slice none 0 0)
    rw [← h1, ← hb] at this
    exact this.below' b14
  have r4 : w4.heap[b + 1]? = some (.cells #[.int .i64 W, .map (some b), .slice none 0 0] 78 (0, 0)) := by
    rw [b23.block (b + 1) (by omega), h2, ← z1]
    exact heap_alloc_new w1 _
  have k4 : KeysAt w4 (b + 2) [] := by
    have := KeysAt.made w2
    rw [← h3, z2] at this
    exact this.below' b34
  have c4 : CalRow w4 (b + 3) (b + 1) (b + 2) := by
    unfold CalRow
    rw [h4, ← z3]
    exact heap_alloc_new w3 _
  have hQ : Hid (CalAt w4 (w.heap.size + 3) (newS w) [] ∧ Below w.heap.size w w4) := by
    refine ⟨⟨b + 1, b + 2, W, b, .slice none 0 0, [], fun _ => [], fun _ => .slice none 0 0, ⟨by rw [← hb]; exact c4, ?_, k4, by omega⟩, rfl, ?_, ?_⟩, hB⟩
    · exact { row := r4, lists := l4, order := RowAt.nil _ _ _, days := ⟨List.Pairwise.nil, fun d h => (by cases h)⟩, each := fun d h => (by cases h), apart := fun d h => (by cases h), width := hW, wide := hwf, unlike := List.Pairwise.nil, fits := fun m h => (by cases h), small := by simp }
    · unfold newS
      rintro k (e | e | e | e | e | ⟨d, hd, e⟩)
      · omega
      · omega
      · omega
      · omega
      · cases e
      · cases hd
    · unfold newS
      intro k hk
      omega
  rw [h4, h3, h2, h1, hb] at hQ
  clear l4 r4 k4 c4 b14 b23 b34 hB z4 z3 z2 z1 h4 h3 h2 h1 hwf
  go_enter Try.func8, Try.ntmps8
  go_wp2
  go_ret2
  exact ⟨rfl, hQ.out⟩
theorem hNew_no (w : World) {W : Int} (hW : W < 1) : Calls Try.prog 8 #[.int .i64 W] w fun e w' => e = .returned (.tuple #[.pointer none, .int .i64 1]) ∧ w = w' := by
  go_enter Try.func8, Try.ntmps8
  go_wp2
  go_ret2
  exact ⟨rfl, rfl⟩
theorem eqErr (a b : Int) (w : World) : Sem.run Try.prog (binOp .neq 24 (.int .i64 a) (.int .i64 b)) w = .ok (.bool (!decide (a = b))) w := by
  go_simp
  try (by_cases h : a = b <;> simp [h])

set_option maxHeartbeats 1000000 in
theorem hFirst_none {w : World} {hb : Nat} {S : Nat → Prop} (h : CalAt w hb S []) :
    Calls Try.prog 19 #[.pointer (some ⟨hb, 0, none⟩)] w fun e w' => e = .returned (.tuple #[zeroM.val, .int .i64 6]) ∧ Below w.heap.size w w' := by
  obtain ⟨db, mb, W, lb, ov, ds, L, fv, h1, hT, -, -⟩ := h
  have hr := refusal_any (h1.below ((Below.refl _ w).alloc (Nat.le_refl _) (.cells #[.int .i64 0, .int .i64 0, .int .i64 0, .int .i64 0, .int .i64 0, .int .i64 0, .bool false] 34))).row (h1.below ((Below.refl _ w).alloc (Nat.le_refl _) (.cells #[.int .i64 0, .int .i64 0, .int .i64 0, .int .i64 0, .int .i64 0, .int .i64 0, .bool false] 34))).keys
  rw [← hT] at hr
  simp only [if_true] at hr
  clear h1 hT
  go_enter Try.func19, Try.ntmps19
  go_wp2_with (go_at_call 33; refine hr.mono ?_; rintro e w' ⟨rfl, rfl⟩)
  refine bodyPost_ret (v := .tuple #[.agg #[.int .i64 0, .int .i64 0, .int .i64 0, .int .i64 0, .int .i64 0, .int .i64 0, .bool false], .int .i64 6]) (by simp [results, Try.results19, go_sem]) rfl ⟨rfl, ?_⟩
  repeat (refine Below.setCell ?_ (by simp) _)
  exact (Below.refl _ w).alloc (Nat.le_refl _) _

set_option maxHeartbeats 1000000 in
theorem hFirst_some {w : World} {hb : Nat} {S : Nat → Prop} {m : M} {T : List M} (h : CalAt w hb S (m :: T)) :
    Calls Try.prog 19 #[.pointer (some ⟨hb, 0, none⟩)] w fun e w' => e = .returned (.tuple #[m.val, .int .i64 0]) ∧ Below w.heap.size w w' := by
  obtain ⟨W0, hW0⟩ : ∃ W0, W0 = w.alloc (.cells #[.int .i64 0, .int .i64 0, .int .i64 0, .int .i64 0, .int .i64 0, .int .i64 0, .bool false] 34) := ⟨_, rfl⟩
  have hB0 : Hid (Below w.heap.size w W0) := by rw [hW0]; exact (Below.refl _ w).alloc (Nat.le_refl _) _
  have hR0 : Hid (BoxM W0 w.heap.size zeroM) := by rw [hW0]; exact BoxM.mk w zeroM
  obtain ⟨db, mb, W, lb, ov, ds, L, fv, h1, hT, -, -⟩ := h
  have h0 := h1.below hB0.out
  have hr := refusal_any h0.row h0.keys
  rw [← hT] at hr
  simp only [reduceCtorEq, if_false] at hr
  have hf := dfirst_any h0.days hT.symm
  have c0 := h0.row.c0
  have hr' := Lib.hid hr
  have hf' := Lib.hid hf
  clear h1 h0 hr hf hT
  go_enter Try.func19, Try.ntmps19
  go_upto_region 1 with (fail)
  rw [← hW0]
  clear hW0
  go_wp2_with (first
    | (go_at_call 33; refine hr'.out.mono ?_; rintro e w' ⟨rfl, rfl⟩)
    | (go_at_call 35; refine hf'.out.mono ?_; rintro e w3 ⟨rfl, hb3⟩; have hR3 := Lib.hid (hR0.out.below hb3); have hb3' := Lib.hid hb3; clear hb3)
    | (refine wpList_store_row rfl 34 (.tmp 2) (.tmp 15) rfl w.heap.size m.cells rfl rfl 34 zeroM.cells hR3.out infoS rfl (M.cells_one m) ?_))
  obtain ⟨-, s0, s1, s2, s3, s4, s5, s6⟩ := (hR3.out.row m).at
  simp only [Nat.zero_add] at s0 s1 s2 s3 s4 s5 s6
  refine bodyPost_ret (v := .tuple #[m.val, .int .i64 0]) (by simp [results, Try.results19, go_sem, s0, s1, s2, s3, s4, s5, s6, M.val]) rfl ⟨rfl, ?_⟩
  exact below_setRow (hB0.out.trans (hb3'.out.mono hB0.out.size)) (Nat.le_refl _) _

set_option maxHeartbeats 1000000 in
theorem hPop_none {w : World} {hb : Nat} {S : Nat → Prop} (h : CalAt w hb S []) :
    Calls Try.prog 17 #[.pointer (some ⟨hb, 0, none⟩)] w fun e w' => e = .returned (.tuple #[zeroM.val, .int .i64 6]) ∧ Below w.heap.size w w' := by
  obtain ⟨db, mb, W, lb, ov, ds, L, fv, h1, hT, -, -⟩ := h
  have hr := refusal_any (h1.below ((Below.refl _ w).alloc (Nat.le_refl _) (.cells #[.int .i64 0, .int .i64 0, .int .i64 0, .int .i64 0, .int .i64 0, .int .i64 0, .bool false] 34))).row (h1.below ((Below.refl _ w).alloc (Nat.le_refl _) (.cells #[.int .i64 0, .int .i64 0, .int .i64 0, .int .i64 0, .int .i64 0, .int .i64 0, .bool false] 34))).keys
  rw [← hT] at hr
  simp only [if_true] at hr
  clear h1 hT
  go_enter Try.func17, Try.ntmps17
  go_wp2_with (go_at_call 33; refine hr.mono ?_; rintro e w' ⟨rfl, rfl⟩)
  refine bodyPost_ret (v := .tuple #[.agg #[.int .i64 0, .int .i64 0, .int .i64 0, .int .i64 0, .int .i64 0, .int .i64 0, .bool false], .int .i64 6]) (by simp [results, Try.results17, go_sem]) rfl ⟨rfl, ?_⟩
  repeat (refine Below.setCell ?_ (by simp) _)
  exact (Below.refl _ w).alloc (Nat.le_refl _) _

/-- A calendar behind a take, and the result's store. -/
theorem CalAt.taken {w W0 w3 : World} {hb : Nat} {S : Nat → Prop} {T : List M} (hb0 : Below w.heap.size w W0) (hSl : ∀ k, S k → k < w.heap.size) (h : CalAt w3 hb S T) (hs : CStep W0 w3 S S) {B : Nat} (hB : w.heap.size ≤ B) (cs : Array Value) : CalAt (w3.setRow B cs) hb S T ∧ CStep w (w3.setRow B cs) S S := by
  have k := KeptOff.row w3 B cs
  exact ⟨h.kept k (fun k hk e => by have := hSl k hk; omega), ((KeptOff.of_below hb0).trans hs.1).then_new k (fun k hk e => by omega), fun k e => .inl e⟩
set_option maxHeartbeats 1000000 in
theorem hPop_some {w : World} {hb : Nat} {S : Nat → Prop} {m : M} {T : List M} (h : CalAt w hb S (m :: T)) :
    Calls Try.prog 17 #[.pointer (some ⟨hb, 0, none⟩)] w fun e w' => e = .returned (.tuple #[m.val, .int .i64 0]) ∧ CalAt w' hb S T ∧ CStep w w' S S := by
  obtain ⟨W0, hW0⟩ : ∃ W0, W0 = w.alloc (.cells #[.int .i64 0, .int .i64 0, .int .i64 0, .int .i64 0, .int .i64 0, .int .i64 0, .bool false] 34) := ⟨_, rfl⟩
  have hB0 : Hid (Below w.heap.size w W0) := by rw [hW0]; exact (Below.refl _ w).alloc (Nat.le_refl _) _
  have hR0 : Hid (BoxM W0 w.heap.size zeroM) := by rw [hW0]; exact BoxM.mk w zeroM
  have hSl : Hid (∀ k, S k → k < w.heap.size) := fun k hk => h.lt hk
  have hO := (List.pairwise_cons.1 h.o).2
  have h0' := h.below hB0.out
  have h0s := h0'
  obtain ⟨db, mb, W, lb, ov, ds, L, fv, h0, hT, -, -⟩ := h0'
  have hr := refusal_any h0.row h0.keys
  rw [← hT] at hr
  simp only [reduceCtorEq, if_false] at hr
  have hf := dfirst_any h0.days hT.symm
  have c0 := h0.row.c0
  have htk : Hid (∀ w', Below W0.heap.size W0 w' → Calls Try.prog 34 #[.pointer (some ⟨hb, 0, none⟩), .agg #[.int .i64 m.k.f, .int .i64 m.u]] w' fun e w3 => e = .returned m.val ∧ Hid (BoxM w3 w.heap.size zeroM ∧ CalAt (w3.setRow w.heap.size m.cells) hb S T ∧ CStep w (w3.setRow w.heap.size m.cells) S S)) := by
    intro w' hb'
    refine (htake_any (h0s.below hb') (List.Perm.refl _) hO).mono ?_
    rintro e w3 ⟨he, hC, hst⟩
    have hz : BoxM w3 w.heap.size zeroM := (hR0.out.below hb').kept hst.1 (fun e => by have := hSl.out _ e; omega)
    exact ⟨he, hz, CalAt.taken (hB0.out.trans (hb'.mono hB0.out.size)) hSl.out hC hst (Nat.le_refl _) _⟩
  have hsend := fun w' => sending_any m w'
  simp only [M.val, sendV] at hsend
  rw [show m.val = .agg #[.int .i64 m.k.t, .int .i64 m.k.f, .int .i64 m.k.s, .int .i64 m.to, .int .i64 m.v, .int .i64 m.u, .bool m.anti] from rfl] at hf htk
  have hr' := Lib.hid hr
  have hf' := Lib.hid hf
  have hs' := Lib.hid hsend
  clear h h0 h0s hr hf hT hO hsend
  go_enter Try.func17, Try.ntmps17
  go_upto_region 1 with (fail)
  rw [← hW0]
  clear hW0
  go_wp2_with (first
    | (go_at_call 33; refine hr'.out.mono ?_; rintro e w' ⟨rfl, rfl⟩)
    | (go_at_call 35; refine hf'.out.mono ?_; rintro e w1 ⟨rfl, hb1⟩; have hb1' := Lib.hid hb1; clear hb1)
    | (go_at_call 28; refine (hs'.out _).mono ?_; rintro e w2 ⟨rfl, hr2⟩; have htk2 := Lib.hid (htk.out w2 (hb1'.out.trans (hr2.below.mono hb1'.out.size))); clear hr2)
    | (go_at_call 34; refine htk2.out.mono ?_; rintro e w3 ⟨rfl, hQ3⟩)
    | (refine wpList_store_row rfl 34 (.tmp 2) (.tmp 18) rfl w.heap.size m.cells rfl rfl 34 zeroM.cells hQ3.out.1 infoS rfl (M.cells_one m) ?_))
  obtain ⟨-, s0, s1, s2, s3, s4, s5, s6⟩ := (hQ3.out.1.row m).at
  simp only [Nat.zero_add] at s0 s1 s2 s3 s4 s5 s6
  exact bodyPost_ret (v := .tuple #[m.val, .int .i64 0]) (by simp [results, Try.results17, go_sem, s0, s1, s2, s3, s4, s5, s6, M.val]) rfl ⟨rfl, hQ3.out.2⟩

set_option maxHeartbeats 2000000 in
theorem hCut_none {w : World} {hb : Nat} {S : Nat → Prop} {T : List M} (h : CalAt w hb S T) {f u : Int} (hf : (Lit.int .i64 f).wf = true) (hu : (Lit.int .i64 u).wf = true) (hs : hasS T f u = false) :
    Calls Try.prog 18 #[.pointer (some ⟨hb, 0, none⟩), .int .i64 f, .int .i64 u] w fun e w' => e = .returned (.tuple #[zeroM.val, .int .i64 6]) ∧ Below w.heap.size w w' := by
  obtain ⟨W0, hW0⟩ : ∃ W0, W0 = (w.alloc (.cells #[.int .i64 0, .int .i64 0, .int .i64 0, .int .i64 0, .int .i64 0, .int .i64 0, .bool false] 34)).alloc (.cells #[.int .i64 f, .int .i64 u] 66) := ⟨_, rfl⟩
  have hB0 : Hid (Below w.heap.size w W0) := by rw [hW0]; exact ((Below.refl _ w).alloc (Nat.le_refl _) _).alloc (by simp) _
  have hz : BoxM W0 w.heap.size zeroM := by rw [hW0]; exact (BoxM.mk w zeroM).below ((Below.refl _ _).alloc (Nat.le_refl _) _)
  have hsb : W0.heap[w.heap.size + 1]? = some (.cells #[.int .i64 f, .int .i64 u] 66 (0, 0)) := by
    have e := heap_alloc_new (w.alloc (.cells #[.int .i64 0, .int .i64 0, .int .i64 0, .int .i64 0, .int .i64 0, .int .i64 0, .bool false] 34)) (.cells #[.int .i64 f, .int .i64 u] 66)
    have e1 : (w.alloc (.cells #[.int .i64 0, .int .i64 0, .int .i64 0, .int .i64 0, .int .i64 0, .int .i64 0, .bool false] 34)).heap.size = w.heap.size + 1 := by simp
    rw [e1] at e
    rw [hW0]
    exact e
  have b0 : W0.cell? ⟨w.heap.size + 1, 0, none⟩ = some (.int .i64 f) := by simp [World.cell?, hsb]
  have b1 : W0.cell? ⟨w.heap.size + 1, 1, none⟩ = some (.int .i64 u) := by simp [World.cell?, hsb]
  obtain ⟨db, mb, W, lb, ov, ds, L, fv, h1, rfl, -, -⟩ := h
  have h0 := h1.below hB0.out
  have hmd := made_ok h0.row
  have hhs := has_any h0.row h0.keys hf hu
  rw [hs] at hhs
  have hfin : Hid (∀ w2, Below W0.heap.size W0 w2 → BoxM w2 w.heap.size zeroM) := fun w2 hb2 => hz.below hb2
  have hhs' := Lib.hid hhs
  clear h1 h0 hhs hs hf hu hsb hz
  go_enter Try.func18, Try.ntmps18
  go_upto_region 2 with (fail)
  rw [← hW0]
  clear hW0
  go_upto_region 5 with (first
    | (go_at_call 25; refine hmd.mono ?_; rintro e w' ⟨rfl, rfl⟩)
    | (go_at_call 27; refine hhs'.out.mono ?_; rintro e w2 ⟨rfl, hb2⟩; have hz2 := Lib.hid (hfin.out w2 hb2); have hb2' := Lib.hid hb2; clear hb2))
  go_wp2_with (refine wpList_store_row rfl 34 (.tmp 6) (.tmp 22) rfl w.heap.size zeroM.cells rfl rfl 34 zeroM.cells hz2.out infoS rfl (M.cells_one zeroM) ?_)
  obtain ⟨-, s0, s1, s2, s3, s4, s5, s6⟩ := (hz2.out.row zeroM).at
  simp only [Nat.zero_add] at s0 s1 s2 s3 s4 s5 s6
  refine bodyPost_ret (v := .tuple #[zeroM.val, .int .i64 6]) (by simp [results, Try.results18, go_sem, s0, s1, s2, s3, s4, s5, s6, M.val]) rfl ⟨rfl, ?_⟩
  exact below_setRow (hB0.out.trans (hb2'.out.mono hB0.out.size)) (Nat.le_refl _) _
set_option maxHeartbeats 2000000 in
theorem hCut_some {w : World} {hb : Nat} {S : Nat → Prop} {T T' : List M} {x : M} (h : CalAt w hb S T) (hp : (x :: T').Perm T) (hO : InOrder ltM T') :
    Calls Try.prog 18 #[.pointer (some ⟨hb, 0, none⟩), .int .i64 x.k.f, .int .i64 x.u] w fun e w' => e = .returned (.tuple #[x.val, .int .i64 0]) ∧ CalAt w' hb S T' ∧ CStep w w' S S := by
  obtain ⟨W0, hW0⟩ : ∃ W0, W0 = (w.alloc (.cells #[.int .i64 0, .int .i64 0, .int .i64 0, .int .i64 0, .int .i64 0, .int .i64 0, .bool false] 34)).alloc (.cells #[.int .i64 x.k.f, .int .i64 x.u] 66) := ⟨_, rfl⟩
  have hB0 : Hid (Below w.heap.size w W0) := by rw [hW0]; exact ((Below.refl _ w).alloc (Nat.le_refl _) _).alloc (by simp) _
  have hz : BoxM W0 w.heap.size zeroM := by rw [hW0]; exact (BoxM.mk w zeroM).below ((Below.refl _ _).alloc (Nat.le_refl _) _)
  have hsb : W0.heap[w.heap.size + 1]? = some (.cells #[.int .i64 x.k.f, .int .i64 x.u] 66 (0, 0)) := by
    have e := heap_alloc_new (w.alloc (.cells #[.int .i64 0, .int .i64 0, .int .i64 0, .int .i64 0, .int .i64 0, .int .i64 0, .bool false] 34)) (.cells #[.int .i64 x.k.f, .int .i64 x.u] 66)
    have e1 : (w.alloc (.cells #[.int .i64 0, .int .i64 0, .int .i64 0, .int .i64 0, .int .i64 0, .int .i64 0, .bool false] 34)).heap.size = w.heap.size + 1 := by simp
    rw [e1] at e
    rw [hW0]
    exact e
  have b0 : W0.cell? ⟨w.heap.size + 1, 0, none⟩ = some (.int .i64 x.k.f) := by simp [World.cell?, hsb]
  have b1 : W0.cell? ⟨w.heap.size + 1, 1, none⟩ = some (.int .i64 x.u) := by simp [World.cell?, hsb]
  have hbl : w.heap.size + 1 < W0.heap.size := (Array.getElem?_eq_some_iff.1 hsb).1
  have hSl : Hid (∀ k, S k → k < w.heap.size) := fun k hk => h.lt hk
  have hxT : x ∈ T := hp.mem_iff.1 (List.mem_cons_self ..)
  have hxf := h.fits x hxT
  have h0s := h.below hB0.out
  have hin : hasS T x.k.f x.u = true := hasS_iff.2 ⟨x, hxT, rfl, rfl⟩
  have h0c := h0s
  obtain ⟨db, mb, W, lb, ov, ds, L, fv, h0, hT, -, -⟩ := h0c
  have hmd := made_ok h0.row
  have hhs := has_any h0.row h0.keys hxf.1.2.1 hxf.2.2.2
  rw [← hT, hin] at hhs
  have htk : Hid (∀ w', Below W0.heap.size W0 w' → w'.cell? ⟨w.heap.size + 1, 0, none⟩ = some (.int .i64 x.k.f) ∧ w'.cell? ⟨w.heap.size + 1, 1, none⟩ = some (.int .i64 x.u) ∧ Calls Try.prog 34 #[.pointer (some ⟨hb, 0, none⟩), .agg #[.int .i64 x.k.f, .int .i64 x.u]] w' fun e w3 => e = .returned x.val ∧ Hid (BoxM w3 w.heap.size zeroM ∧ CalAt (w3.setRow w.heap.size x.cells) hb S T' ∧ CStep w (w3.setRow w.heap.size x.cells) S S)) := by
    intro w' hb'
    refine ⟨(hb'.cell (p := ⟨w.heap.size + 1, 0, none⟩) hbl).trans b0, (hb'.cell (p := ⟨w.heap.size + 1, 1, none⟩) hbl).trans b1, (htake_any (h0s.below hb') hp hO).mono ?_⟩
    rintro e w3 ⟨he, hC, hst⟩
    have hz3 : BoxM w3 w.heap.size zeroM := (hz.below hb').kept hst.1 (fun e => by have := hSl.out _ e; omega)
    exact ⟨he, hz3, CalAt.taken (hB0.out.trans (hb'.mono hB0.out.size)) hSl.out hC hst (Nat.le_refl _) _⟩
  have hhs' := Lib.hid hhs
  rw [show x.val = .agg #[.int .i64 x.k.t, .int .i64 x.k.f, .int .i64 x.k.s, .int .i64 x.to, .int .i64 x.v, .int .i64 x.u, .bool x.anti] from rfl] at htk
  clear h h0 h0s hhs hT hp hO hxT hxf hin hsb hz hbl
  go_enter Try.func18, Try.ntmps18
  go_upto_region 2 with (fail)
  rw [← hW0]
  clear hW0
  go_wp2_with (first
    | (go_at_call 25; refine hmd.mono ?_; rintro e w' ⟨rfl, rfl⟩)
    | (go_at_call 27; refine hhs'.out.mono ?_; rintro e w2 ⟨rfl, hb2⟩; obtain ⟨d0, d1, htk2⟩ := htk.out w2 hb2; have htk2' := Lib.hid htk2; clear htk2 hb2)
    | (go_at_call 34; refine htk2'.out.mono ?_; rintro e w3 ⟨rfl, hQ3⟩)
    | (refine wpList_store_row rfl 34 (.tmp 6) (.tmp 25) rfl w.heap.size x.cells rfl rfl 34 zeroM.cells hQ3.out.1 infoS rfl (M.cells_one x) ?_))
  obtain ⟨-, s0, s1, s2, s3, s4, s5, s6⟩ := (hQ3.out.1.row x).at
  simp only [Nat.zero_add] at s0 s1 s2 s3 s4 s5 s6
  exact bodyPost_ret (v := .tuple #[x.val, .int .i64 0]) (by simp [results, Try.results18, go_sem, s0, s1, s2, s3, s4, s5, s6, M.val]) rfl ⟨rfl, hQ3.out.2⟩
end Go.Proofs.Yticffeklmhcniaa
