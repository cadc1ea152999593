/-
  A Pend's calls, each by its queue's, whatever kind it is: the type of the queue and its function are variables that the walk gets two facts of.
-/
import Derived.Test.YtjlbkdghlijoeaaGreatPDA
import Derived.Deep.RegionWith
namespace Go.Proofs.YtjlbkdghlijoeaaGreat
open Go.ChangeShapes Go.WideShapes Go.ChangeAt Go.Shelf Go.RowKit Go.Lib Go.Sort Go.Deep Go.Maps
set_option linter.unusedVariables false

/-- A type's method of that name is that function, and the function has a body. -/
def Leads (ty : TypeId) (name : String) (f : FuncId) : Prop := (∀ v w, (method 292 ty v name).run Tryz.prog w = .ok (f, v) w) ∧ ∀ args w, (callFunc f args).run Tryz.prog w = .ok (.enter f args) w
theorem leadsLen {K : Nat} (hK : K = 0 ∨ K = 1 ∨ K = 2) : Leads (tyK K) "Len" (fLen K) := by
  rcases hK with rfl | rfl | rfl
  · exact ⟨fun v w => by kernel_rfl, enters_of Tryz.func65 (by kernel_rfl) rfl⟩
  · exact ⟨fun v w => by kernel_rfl, enters_of Tryz.func89 (by kernel_rfl) rfl⟩
  · exact ⟨fun v w => by kernel_rfl, enters_of Tryz.func116 (by kernel_rfl) rfl⟩
theorem leadsAll {K : Nat} (hK : K = 0 ∨ K = 1 ∨ K = 2) : Leads (tyK K) "All" (fAll K) := by
  rcases hK with rfl | rfl | rfl
  · exact ⟨fun v w => by kernel_rfl, enters_of Tryz.func62 (by kernel_rfl) rfl⟩
  · exact ⟨fun v w => by kernel_rfl, enters_of Tryz.func86 (by kernel_rfl) rfl⟩
  · exact ⟨fun v w => by kernel_rfl, enters_of Tryz.func113 (by kernel_rfl) rfl⟩
theorem leadsPush {K : Nat} (hK : K = 0 ∨ K = 1 ∨ K = 2) : Leads (tyK K) "Push" (fPush K) := by
  rcases hK with rfl | rfl | rfl
  · exact ⟨fun v w => by kernel_rfl, enters_of Tryz.func67 (by kernel_rfl) rfl⟩
  · exact ⟨fun v w => by kernel_rfl, enters_of Tryz.func91 (by kernel_rfl) rfl⟩
  · exact ⟨fun v w => by kernel_rfl, enters_of Tryz.func118 (by kernel_rfl) rfl⟩
theorem leadsFirst {K : Nat} (hK : K = 0 ∨ K = 1 ∨ K = 2) : Leads (tyK K) "First" (fFirst K) := by
  rcases hK with rfl | rfl | rfl
  · exact ⟨fun v w => by kernel_rfl, enters_of Tryz.func64 (by kernel_rfl) rfl⟩
  · exact ⟨fun v w => by kernel_rfl, enters_of Tryz.func88 (by kernel_rfl) rfl⟩
  · exact ⟨fun v w => by kernel_rfl, enters_of Tryz.func115 (by kernel_rfl) rfl⟩
theorem leadsPop {K : Nat} (hK : K = 0 ∨ K = 1 ∨ K = 2) : Leads (tyK K) "Pop" (fPop K) := by
  rcases hK with rfl | rfl | rfl
  · exact ⟨fun v w => by kernel_rfl, enters_of Tryz.func66 (by kernel_rfl) rfl⟩
  · exact ⟨fun v w => by kernel_rfl, enters_of Tryz.func90 (by kernel_rfl) rfl⟩
  · exact ⟨fun v w => by kernel_rfl, enters_of Tryz.func117 (by kernel_rfl) rfl⟩
theorem leadsCut {K : Nat} (hK : K = 0 ∨ K = 1 ∨ K = 2) : Leads (tyK K) "Cut" (fCut K) := by
  rcases hK with rfl | rfl | rfl
  · exact ⟨fun v w => by kernel_rfl, enters_of Tryz.func63 (by kernel_rfl) rfl⟩
  · exact ⟨fun v w => by kernel_rfl, enters_of Tryz.func87 (by kernel_rfl) rfl⟩
  · exact ⟨fun v w => by kernel_rfl, enters_of Tryz.func114 (by kernel_rfl) rfl⟩
theorem pdMade_ok {w : World} {pb hb : Nat} {ty : TypeId} (c0 : w.cell? ⟨pb, 0, none⟩ = some (.iface ty (.pointer (some ⟨hb, 0, none⟩)))) : Calls Tryz.prog 28 #[.pointer (some ⟨pb, 0, none⟩)] w fun e w' => e = .returned (.bool true) ∧ w = w' := by
  go_enter Tryz.func28, Tryz.ntmps28
  go_wp2
  go_ret
  exact ⟨rfl, rfl⟩
theorem pdNow_ok {w : World} {pb hb : Nat} {ty : TypeId} (c0 : w.cell? ⟨pb, 0, none⟩ = some (.iface ty (.pointer (some ⟨hb, 0, none⟩)))) : Calls Tryz.prog 26 #[.pointer (some ⟨pb, 0, none⟩)] w fun e w' => e = .returned (.iface ty (.pointer (some ⟨hb, 0, none⟩))) ∧ w = w' := by
  have hm := pdMade_ok c0
  go_enter Tryz.func26, Tryz.ntmps26
  go_wp2_with (go_at_call 28; (with_reducible refine hm.mono ?_); rintro e w1 ⟨rfl, rfl⟩)
  go_ret
  exact ⟨rfl, rfl⟩
theorem isCP (v : Value) (w : World) : (Instr.typeAssert (.iface 70 v) 55 72 true).run Tryz.prog w = .ok (.tuple #[.pointer none, .bool false]) w := by kernel_rfl
theorem isLP (v : Value) (w : World) : (Instr.typeAssert (.iface 70 v) 55 75 true).run Tryz.prog w = .ok (.tuple #[.pointer none, .bool false]) w := by kernel_rfl
theorem isCC (v : Value) (w : World) : (Instr.typeAssert (.iface 72 v) 55 72 true).run Tryz.prog w = .ok (.tuple #[v, .bool true]) w := by kernel_rfl
theorem isCL (v : Value) (w : World) : (Instr.typeAssert (.iface 75 v) 55 72 true).run Tryz.prog w = .ok (.tuple #[.pointer none, .bool false]) w := by kernel_rfl
theorem isLL (v : Value) (w : World) : (Instr.typeAssert (.iface 75 v) 55 75 true).run Tryz.prog w = .ok (.tuple #[v, .bool true]) w := by kernel_rfl
set_option maxRecDepth 100000 in
theorem pdKindOf_0 (w : World) (v : Value) : Calls Tryz.prog 27 #[.iface 70 v] w fun e w' => e = .returned (.int .i64 0) ∧ w = w' := by
  have f0 := fun w => isCP v w
  have f1 := fun w => isLP v w
  go_enter Tryz.func27, Tryz.ntmps27
  go_wp2
  go_ret
  exact ⟨rfl, rfl⟩
set_option maxRecDepth 100000 in
theorem pdKindOf_1 (w : World) (v : Value) : Calls Tryz.prog 27 #[.iface 72 v] w fun e w' => e = .returned (.int .i64 1) ∧ w = w' := by
  have f0 := fun w => isCC v w
  go_enter Tryz.func27, Tryz.ntmps27
  go_wp2
  go_ret
  exact ⟨rfl, rfl⟩
set_option maxRecDepth 100000 in
theorem pdKindOf_2 (w : World) (v : Value) : Calls Tryz.prog 27 #[.iface 75 v] w fun e w' => e = .returned (.int .i64 2) ∧ w = w' := by
  have f0 := fun w => isCL v w
  have f1 := fun w => isLL v w
  go_enter Tryz.func27, Tryz.ntmps27
  go_wp2
  go_ret
  exact ⟨rfl, rfl⟩
theorem pdKind_of {w : World} {pb hb K : Nat} (hK : K = 0 ∨ K = 1 ∨ K = 2) (c0 : w.cell? ⟨pb, 0, none⟩ = some (.iface (tyK K) (.pointer (some ⟨hb, 0, none⟩)))) : Calls Tryz.prog 9 #[.pointer (some ⟨pb, 0, none⟩)] w fun e w' => e = .returned (.int .i64 K) ∧ w = w' := by
  have hn := pdNow_ok c0
  have hk : Calls Tryz.prog 27 #[.iface (tyK K) (.pointer (some ⟨hb, 0, none⟩))] w fun e w' => e = .returned (.int .i64 K) ∧ w = w' := by
    rcases hK with rfl | rfl | rfl
    · exact pdKindOf_0 w _
    · exact pdKindOf_1 w _
    · exact pdKindOf_2 w _
  clear hK c0
  generalize tyK K = ty at hn hk
  go_enter Tryz.func9, Tryz.ntmps9
  go_wp2_with (first
    | (go_at_call 26; (with_reducible refine hn.mono ?_); rintro e w1 ⟨rfl, rfl⟩)
    | (go_at_call 27; (with_reducible refine hk.mono ?_); rintro e w1 ⟨rfl, rfl⟩))
  go_ret
  exact ⟨rfl, rfl⟩
/-- A row written behind a step, in a block that is younger than the step's beginning. -/
theorem QK.taken {w W0 w1 : World} {K hb n A : Nat} {S S' : Nat → Prop} {T : List M} (hSl : ∀ k, S k → k < w.heap.size) (hb0 : Below w.heap.size w W0) (hA : w.heap.size ≤ A) (hlt : A < W0.heap.size) (h : QK w1 K hb n S' T) (hs : CStep W0 w1 S S') (cs : Array Value) : QK (w1.setRow A cs) K hb n S' T ∧ CStep w (w1.setRow A cs) S S' := by
  have k := KeptOff.row w1 A cs
  have hz := hb0.size
  refine ⟨h.kept k (fun j hj e => ?_), ((KeptOff.of_below hb0).trans hs.1).then_new k (fun j hj e => by omega), fun j hj => (hs.2 j hj).imp id (fun e => by omega)⟩
  rcases hs.2 j hj with e2 | e2
  · have := hSl j e2
    omega
  · omega
theorem pdLen_of {w : World} {pb hb : Nat} {ty : TypeId} {f : FuncId} (c0 : w.cell? ⟨pb, 0, none⟩ = some (.iface ty (.pointer (some ⟨hb, 0, none⟩)))) (hl : Leads ty "Len" f) {r : Int} (hq : Calls Tryz.prog f #[.pointer (some ⟨hb, 0, none⟩)] w fun e w' => e = .returned (.int .i64 r) ∧ w = w') : Calls Tryz.prog 8 #[.pointer (some ⟨pb, 0, none⟩)] w fun e w' => e = .returned (.int .i64 r) ∧ w = w' := by
  have hn := pdNow_ok c0
  obtain ⟨hl1, hl2⟩ := hl
  go_enter Tryz.func8, Tryz.ntmps8
  go_wp2_with (first
    | (go_at_call 26; (with_reducible refine hn.mono ?_); rintro e w1 ⟨rfl, rfl⟩)
    | ((with_reducible refine hq.mono ?_); rintro e w1 ⟨rfl, rfl⟩))
  go_ret
  exact ⟨rfl, rfl⟩
theorem pdAll_of {w : World} {pb hb N : Nat} {ty : TypeId} {f : FuncId} (c0 : w.cell? ⟨pb, 0, none⟩ = some (.iface ty (.pointer (some ⟨hb, 0, none⟩)))) (hl : Leads ty "All" f) {Q : Option Addr → Nat → World → Prop} (hq : Calls Tryz.prog f #[.pointer (some ⟨hb, 0, none⟩)] w fun e w' => ∃ (a' : Option Addr) (c' : Nat), e = .returned (.slice a' N c') ∧ Hid (Q a' c' w')) : Calls Tryz.prog 11 #[.pointer (some ⟨pb, 0, none⟩)] w fun e w' => ∃ (a' : Option Addr) (c' : Nat), e = .returned (.slice a' N c') ∧ Hid (Q a' c' w') := by
  have hn := pdNow_ok c0
  obtain ⟨hl1, hl2⟩ := hl
  go_enter Tryz.func11, Tryz.ntmps11
  go_wp2_with (first
    | (go_at_call 26; (with_reducible refine hn.mono ?_); rintro e w1 ⟨rfl, rfl⟩)
    | ((with_reducible refine hq.mono ?_); rintro e w1 ⟨a1, c1, rfl, hQ1⟩))
  go_ret
  exact ⟨_, _, rfl, hQ1⟩
set_option maxHeartbeats 1000000 in
theorem pdPush_of {w : World} {pb hb : Nat} {ty : TypeId} {f : FuncId} (c0 : w.cell? ⟨pb, 0, none⟩ = some (.iface ty (.pointer (some ⟨hb, 0, none⟩)))) (hpb : pb < w.heap.size) (hl : Leads ty "Push" f) (m : M) {r : Int} {R : World → World → Prop} (hq : ∀ W, Below w.heap.size w W → Calls Tryz.prog f #[.pointer (some ⟨hb, 0, none⟩), m.val] W fun e w' => e = .returned (.int .i64 r) ∧ R W w') : Calls Tryz.prog 13 #[.pointer (some ⟨pb, 0, none⟩), m.val] w fun e w' => e = .returned (.int .i64 r) ∧ ∃ W, Below w.heap.size w W ∧ R W w' := by
  have hB0 : Hid (Below w.heap.size w (w.alloc (.cells m.cells 34))) := (Below.refl _ w).alloc (Nat.le_refl _) _
  have hR0 := Lib.hid (BoxM.mk w m)
  obtain ⟨W0, hW0⟩ : ∃ W0, W0 = w.alloc (.cells m.cells 34) := ⟨_, rfl⟩
  rw [← hW0] at hB0 hR0
  have hbd := hB0.out.drew
  have cd : W0.drew.cell? ⟨pb, 0, none⟩ = some (.iface ty (.pointer (some ⟨hb, 0, none⟩))) := (hbd.cell (p := ⟨pb, 0, none⟩) hpb).trans c0
  have hn := pdNow_ok cd
  have hp := hq W0.drew hbd
  have hfin : Hid (∀ w', R W0.drew w' → ∃ W, Below w.heap.size w W ∧ R W w') := fun w' h => ⟨_, hbd, h⟩
  obtain ⟨-, y0, y1, y2, y3, y4, y5, y6⟩ := hR0.out.at
  simp only [Nat.zero_add] at y0 y1 y2 y3 y4 y5 y6
  simp only [M.val] at hp ⊢
  simp only [M.cells] at hW0
  have hp' := Lib.hid hp
  obtain ⟨hl1, hl2⟩ := hl
  clear hp hq hbd c0 cd hR0 hB0
  go_enter Tryz.func13, Tryz.ntmps13
  go_upto_region 1 with (fail)
  rw [← hW0]
  clear hW0
  go_region_with (first
    | (go_at_call 26; (with_reducible refine hn.mono ?_); rintro e w1 ⟨rfl, rfl⟩)
    | ((with_reducible refine hp'.out.mono ?_); rintro e w2 ⟨rfl, hR2⟩; have hR2' := Lib.hid hR2; clear hR2))
  all_goals
    go_wp2
    go_ret
    exact ⟨rfl, hfin.out _ hR2'.out⟩
set_option maxHeartbeats 1000000 in
theorem pdFirst_of {w : World} {pb hb n K : Nat} {S : Nat → Prop} {T' : List M} {ty : TypeId} {f : FuncId} (c0 : w.cell? ⟨pb, 0, none⟩ = some (.iface ty (.pointer (some ⟨hb, 0, none⟩)))) (hpb : pb < w.heap.size) (hS : ∀ k, S k → k < w.heap.size) (hl : Leads ty "First" f) (x : M) {r : Int} (hq : ∀ W, Below w.heap.size w W → Calls Tryz.prog f #[.pointer (some ⟨hb, 0, none⟩)] W fun e w' => e = .returned (.tuple #[x.val, .int .i64 r]) ∧ ∃ S', QK w' K hb n S' T' ∧ CStep W w' S S') :
    Calls Tryz.prog 20 #[.pointer (some ⟨pb, 0, none⟩)] w fun e w' => e = .returned (.tuple #[x.val, .int .i64 r]) ∧ ∃ S', QK w' K hb n S' T' ∧ CStep w w' S S' := by
  obtain ⟨W0, hW0⟩ : ∃ W0, W0 = w.alloc (.cells #[.int .i64 0, .int .i64 0, .int .i64 0, .int .i64 0, .int .i64 0, .int .i64 0, .bool false] 34) := ⟨_, rfl⟩
  have hB0 : Hid (Below w.heap.size w W0) := by rw [hW0]; exact (Below.refl _ w).alloc (Nat.le_refl _) _
  have hR0 : Hid (BoxM W0 w.heap.size zeroM) := by rw [hW0]; exact BoxM.mk w zeroM
  have hs0 : w.heap.size < W0.heap.size := hR0.out.lt
  have cd : W0.cell? ⟨pb, 0, none⟩ = some (.iface ty (.pointer (some ⟨hb, 0, none⟩))) := (hB0.out.cell (p := ⟨pb, 0, none⟩) hpb).trans c0
  have hn := pdNow_ok cd
  have hp := hq W0 hB0.out
  have hfin : Hid (∀ w', (∃ S', QK w' K hb n S' T' ∧ CStep W0 w' S S') → BoxM w' w.heap.size zeroM ∧ ∃ S', QK (w'.setRow w.heap.size x.cells) K hb n S' T' ∧ CStep w (w'.setRow w.heap.size x.cells) S S') := fun w' ⟨S', h1, h2⟩ =>
    ⟨hR0.out.kept h2.1 (fun e => by have := hS _ e; omega), S', QK.taken hS hB0.out (Nat.le_refl _) hs0 h1 h2 x.cells⟩
  simp only [M.val] at hp
  have hp' := Lib.hid hp
  obtain ⟨hl1, hl2⟩ := hl
  clear hp hq c0 cd hR0 hB0 hs0 hS
  go_enter Tryz.func20, Tryz.ntmps20
  go_upto_region 1 with (fail)
  rw [← hW0]
  clear hW0
  go_wp2_with (first
    | (go_at_call 26; (with_reducible refine hn.mono ?_); rintro e w1 ⟨rfl, rfl⟩)
    | ((with_reducible refine hp'.out.mono ?_); rintro e w2 ⟨rfl, hR2⟩; have hR2' := Lib.hid (hfin.out _ hR2); clear hR2)
    | (refine wpList_store_row rfl 34 (.tmp 2) (.tmp 7) rfl w.heap.size x.cells rfl rfl 34 zeroM.cells hR2'.out.1 infoS rfl (M.cells_one x) ?_))
  obtain ⟨-, s0, s1, s2, s3, s4, s5, s6⟩ := (hR2'.out.1.row x).at
  simp only [Nat.zero_add] at s0 s1 s2 s3 s4 s5 s6
  exact bodyPost_ret (v := .tuple #[x.val, .int .i64 r]) (by simp [results, Tryz.results20, go_sem, s0, s1, s2, s3, s4, s5, s6, M.val]) rfl ⟨rfl, hR2'.out.2⟩
set_option maxHeartbeats 1000000 in
theorem pdPop_of {w : World} {pb hb n K : Nat} {S : Nat → Prop} {T' : List M} {ty : TypeId} {f : FuncId} (c0 : w.cell? ⟨pb, 0, none⟩ = some (.iface ty (.pointer (some ⟨hb, 0, none⟩)))) (hpb : pb < w.heap.size) (hS : ∀ k, S k → k < w.heap.size) (hl : Leads ty "Pop" f) (x : M) {r : Int} (hq : ∀ W, Below w.heap.size w W → Calls Tryz.prog f #[.pointer (some ⟨hb, 0, none⟩)] W fun e w' => e = .returned (.tuple #[x.val, .int .i64 r]) ∧ ∃ S', QK w' K hb n S' T' ∧ CStep W w' S S') :
    Calls Tryz.prog 15 #[.pointer (some ⟨pb, 0, none⟩)] w fun e w' => e = .returned (.tuple #[x.val, .int .i64 r]) ∧ ∃ S', QK w' K hb n S' T' ∧ CStep w w' S S' := by
  obtain ⟨W0, hW0⟩ : ∃ W0, W0 = w.alloc (.cells #[.int .i64 0, .int .i64 0, .int .i64 0, .int .i64 0, .int .i64 0, .int .i64 0, .bool false] 34) := ⟨_, rfl⟩
  have hB0 : Hid (Below w.heap.size w W0) := by rw [hW0]; exact (Below.refl _ w).alloc (Nat.le_refl _) _
  have hR0 : Hid (BoxM W0 w.heap.size zeroM) := by rw [hW0]; exact BoxM.mk w zeroM
  have hs0 : w.heap.size < W0.heap.size := hR0.out.lt
  have cd : W0.cell? ⟨pb, 0, none⟩ = some (.iface ty (.pointer (some ⟨hb, 0, none⟩))) := (hB0.out.cell (p := ⟨pb, 0, none⟩) hpb).trans c0
  have hn := pdNow_ok cd
  have hp := hq W0 hB0.out
  have hfin : Hid (∀ w', (∃ S', QK w' K hb n S' T' ∧ CStep W0 w' S S') → BoxM w' w.heap.size zeroM ∧ ∃ S', QK (w'.setRow w.heap.size x.cells) K hb n S' T' ∧ CStep w (w'.setRow w.heap.size x.cells) S S') := fun w' ⟨S', h1, h2⟩ =>
    ⟨hR0.out.kept h2.1 (fun e => by have := hS _ e; omega), S', QK.taken hS hB0.out (Nat.le_refl _) hs0 h1 h2 x.cells⟩
  simp only [M.val] at hp
  have hp' := Lib.hid hp
  obtain ⟨hl1, hl2⟩ := hl
  clear hp hq c0 cd hR0 hB0 hs0 hS
  go_enter Tryz.func15, Tryz.ntmps15
  go_upto_region 1 with (fail)
  rw [← hW0]
  clear hW0
  go_wp2_with (first
    | (go_at_call 26; (with_reducible refine hn.mono ?_); rintro e w1 ⟨rfl, rfl⟩)
    | ((with_reducible refine hp'.out.mono ?_); rintro e w2 ⟨rfl, hR2⟩; have hR2' := Lib.hid (hfin.out _ hR2); clear hR2)
    | (refine wpList_store_row rfl 34 (.tmp 2) (.tmp 7) rfl w.heap.size x.cells rfl rfl 34 zeroM.cells hR2'.out.1 infoS rfl (M.cells_one x) ?_))
  obtain ⟨-, s0, s1, s2, s3, s4, s5, s6⟩ := (hR2'.out.1.row x).at
  simp only [Nat.zero_add] at s0 s1 s2 s3 s4 s5 s6
  exact bodyPost_ret (v := .tuple #[x.val, .int .i64 r]) (by simp [results, Tryz.results15, go_sem, s0, s1, s2, s3, s4, s5, s6, M.val]) rfl ⟨rfl, hR2'.out.2⟩
set_option maxHeartbeats 1000000 in
theorem pdCut_of {w : World} {pb hb n K : Nat} {S : Nat → Prop} {T' : List M} {ty : TypeId} {f : FuncId} (c0 : w.cell? ⟨pb, 0, none⟩ = some (.iface ty (.pointer (some ⟨hb, 0, none⟩)))) (hpb : pb < w.heap.size) (hS : ∀ k, S k → k < w.heap.size) (hl : Leads ty "Cut" f) (f1 u1 : Int) (x : M) {r : Int} (hq : ∀ W, Below w.heap.size w W → Calls Tryz.prog f #[.pointer (some ⟨hb, 0, none⟩), .int .i64 f1, .int .i64 u1] W fun e w' => e = .returned (.tuple #[x.val, .int .i64 r]) ∧ ∃ S', QK w' K hb n S' T' ∧ CStep W w' S S') :
    Calls Tryz.prog 23 #[.pointer (some ⟨pb, 0, none⟩), .int .i64 f1, .int .i64 u1] w fun e w' => e = .returned (.tuple #[x.val, .int .i64 r]) ∧ ∃ S', QK w' K hb n S' T' ∧ CStep w w' S S' := by
  obtain ⟨W0, hW0⟩ : ∃ W0, W0 = w.alloc (.cells #[.int .i64 0, .int .i64 0, .int .i64 0, .int .i64 0, .int .i64 0, .int .i64 0, .bool false] 34) := ⟨_, rfl⟩
  have hB0 : Hid (Below w.heap.size w W0) := by rw [hW0]; exact (Below.refl _ w).alloc (Nat.le_refl _) _
  have hR0 : Hid (BoxM W0 w.heap.size zeroM) := by rw [hW0]; exact BoxM.mk w zeroM
  have hs0 : w.heap.size < W0.heap.size := hR0.out.lt
  have cd : W0.cell? ⟨pb, 0, none⟩ = some (.iface ty (.pointer (some ⟨hb, 0, none⟩))) := (hB0.out.cell (p := ⟨pb, 0, none⟩) hpb).trans c0
  have hn := pdNow_ok cd
  have hp := hq W0 hB0.out
  have hfin : Hid (∀ w', (∃ S', QK w' K hb n S' T' ∧ CStep W0 w' S S') → BoxM w' w.heap.size zeroM ∧ ∃ S', QK (w'.setRow w.heap.size x.cells) K hb n S' T' ∧ CStep w (w'.setRow w.heap.size x.cells) S S') := fun w' ⟨S', h1, h2⟩ =>
    ⟨hR0.out.kept h2.1 (fun e => by have := hS _ e; omega), S', QK.taken hS hB0.out (Nat.le_refl _) hs0 h1 h2 x.cells⟩
  simp only [M.val] at hp
  have hp' := Lib.hid hp
  obtain ⟨hl1, hl2⟩ := hl
  clear hp hq c0 cd hR0 hB0 hs0 hS
  go_enter Tryz.func23, Tryz.ntmps23
  go_upto_region 1 with (fail)
  rw [← hW0]
  clear hW0
  go_wp2_with (first
    | (go_at_call 26; (with_reducible refine hn.mono ?_); rintro e w1 ⟨rfl, rfl⟩)
    | ((with_reducible refine hp'.out.mono ?_); rintro e w2 ⟨rfl, hR2⟩; have hR2' := Lib.hid (hfin.out _ hR2); clear hR2)
    | (refine wpList_store_row rfl 34 (.tmp 6) (.tmp 13) rfl w.heap.size x.cells rfl rfl 34 zeroM.cells hR2'.out.1 infoS rfl (M.cells_one x) ?_))
  obtain ⟨-, s0, s1, s2, s3, s4, s5, s6⟩ := (hR2'.out.1.row x).at
  simp only [Nat.zero_add] at s0 s1 s2 s3 s4 s5 s6
  exact bodyPost_ret (v := .tuple #[x.val, .int .i64 r]) (by simp [results, Tryz.results23, go_sem, s0, s1, s2, s3, s4, s5, s6, M.val]) rfl ⟨rfl, hR2'.out.2⟩
end Go.Proofs.YtjlbkdghlijoeaaGreat
