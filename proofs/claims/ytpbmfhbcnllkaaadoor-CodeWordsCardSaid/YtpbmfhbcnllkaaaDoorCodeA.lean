/-
  The contract of the document's Text, at every instruction.
-/
import Derived.Test.YtpbmfhbcnllkaaaDoorCode8
namespace Go.Proofs.YtpbmfhbcnllkaaaDoor
open Go.ChangeShapes Go.WideShapes Go.ChangeAt Go.RowKit Go.Sort
set_option linter.unusedVariables false

/-- The document's two lists. -/
def nameCells : Array Value := #[.string ⟨#[104, 97, 108, 116]⟩, .string ⟨#[115, 101, 116]⟩, .string ⟨#[109, 111, 118, 101]⟩, .string ⟨#[97, 100, 100]⟩, .string ⟨#[115, 117, 98]⟩, .string ⟨#[109, 117, 108]⟩, .string ⟨#[100, 105, 118]⟩, .string ⟨#[109, 111, 100]⟩, .string ⟨#[108, 101, 115, 115]⟩, .string ⟨#[115, 97, 109, 101]⟩,
  .string ⟨#[106, 117, 109, 112]⟩, .string ⟨#[122, 101, 114, 111]⟩, .string ⟨#[115, 101, 110, 100]⟩, .string ⟨#[100, 114, 97, 119]⟩, .string ⟨#[118, 97, 108, 117, 101]⟩, .string ⟨#[116, 105, 109, 101]⟩, .string ⟨#[115, 101, 108, 102]⟩]
def manyCells : Array Value := #[.int .i64 0, .int .i64 2, .int .i64 2, .int .i64 3, .int .i64 3, .int .i64 3, .int .i64 3, .int .i64 3, .int .i64 3, .int .i64 3, .int .i64 1, .int .i64 2, .int .i64 3, .int .i64 2, .int .i64 1, .int .i64 1, .int .i64 1]
theorem lists_at (k : Nat) (h : k < 17) : nameCells[k]? = some (.string (nameOf k)) ∧ manyCells[k]? = some (.int .i64 (usedOf k)) := by
  rcases (by omega : k = 0 ∨ k = 1 ∨ k = 2 ∨ k = 3 ∨ k = 4 ∨ k = 5 ∨ k = 6 ∨ k = 7 ∨ k = 8 ∨ k = 9 ∨ k = 10 ∨ k = 11 ∨ k = 12 ∨ k = 13 ∨ k = 14 ∨ k = 15 ∨ k = 16) with rfl | rfl | rfl | rfl | rfl | rfl | rfl | rfl | rfl | rfl | rfl | rfl | rfl | rfl | rfl | rfl | rfl
  all_goals exact ⟨rfl, rfl⟩
theorem add_two (nm : List UInt8) (x : Int) (h : nm.length ≤ 80) (h0 : inI x) (w : World) :
    (Op.stringOp .add ⟨(nm ++ [32]).toArray⟩ ⟨(Lib.itoa x).toArray⟩).run Tryd.prog w = .ok (.string ⟨(nm ++ (32 :: Lib.itoa x)).toArray⟩) w := by
  have := itoa_len x h0.1 h0.2
  have e := add_lists (nm ++ [32]) (Lib.itoa x) (by simp; omega) (by omega) w
  rw [e]
  simp
theorem add_one (nm : List UInt8) (h : nm.length ≤ 80) (w : World) :
    (Op.stringOp .add ⟨nm.toArray⟩ ⟨#[32]⟩).run Tryd.prog w = .ok (.string ⟨(nm ++ [32]).toArray⟩) w := add_lists nm [32] (by omega) (by simp) w

theorem heapN (w : World) (A : Obj) (k : Nat) (v : Value) (h : nameCells[k]? = some v) : (((w.alloc A).alloc (.cells nameCells 9)).alloc (.cells manyCells 3)).cell? ⟨w.heap.size + 1, k, none⟩ = some v := by
  have hg : (((w.alloc A).alloc (.cells nameCells 9)).alloc (.cells manyCells 3)).heap[w.heap.size + 1]? = some (.cells nameCells 9) := by
    have := heap_alloc2_old (w.alloc A) (.cells nameCells 9) (.cells manyCells 3)
    simpa using this
  rw [cell_of_row _ (w.heap.size + 1) k nameCells 9 (0, 0) hg]
  exact h
theorem heapM (w : World) (A : Obj) (k : Nat) (v : Value) (h : manyCells[k]? = some v) : (((w.alloc A).alloc (.cells nameCells 9)).alloc (.cells manyCells 3)).cell? ⟨w.heap.size + 1 + 1, k, none⟩ = some v := by
  have hg : (((w.alloc A).alloc (.cells nameCells 9)).alloc (.cells manyCells 3)).heap[w.heap.size + 1 + 1]? = some (.cells manyCells 3) := by
    have := heap_alloc2_new (w.alloc A) (.cells nameCells 9) (.cells manyCells 3)
    simpa using this
  rw [cell_of_row _ (w.heap.size + 1 + 1) k manyCells 3 (0, 0) hg]
  exact h
theorem Nums.mk (w : World) (a b c : Int) : Nums (w.alloc (.cells #[.int .i64 a, .int .i64 b, .int .i64 c] 3)) w.heap.size a b c := ⟨by simp, by simp, by simp, by simp⟩


set_option maxRecDepth 100000 in
set_option maxHeartbeats 2000000 in
theorem r3text_in_0 (nm : List UInt8) (hl : nm.length ≤ 5) (k : Nat) (hk17 : k < 17) (h1 : nameCells[k]? = some (.string ⟨nm.toArray⟩)) (h2 : manyCells[k]? = some (.int .i64 0)) (xa xb xc : Int) (hfa : inI xa) (hfb : inI xb) (hfc : inI xc) (w : World) :
    Calls Tryd.prog 20 #[.agg #[.int .i64 k, .int .i64 xa, .int .i64 xb, .int .i64 xc]] w fun e w' => e = .returned (.string ⟨(words nm []).toArray⟩) ∧ Read w w' := by
  rw [words_nil]
  replace hfa := Lib.hid hfa
  replace hfb := Lib.hid hfb
  replace hfc := Lib.hid hfc
  go_enter Tryd.func20, Tryd.ntmps20
  go_upto_region 5 with (fail)
  have hat := (InsAt.mk w k xa xb xc).read (Read.two _ (.cells nameCells 9) (.cells manyCells 3))
  have hrd : Read w (((w.alloc (.cells #[.int .i64 k, .int .i64 xa, .int .i64 xb, .int .i64 xc] 40)).alloc (.cells nameCells 9)).alloc (.cells manyCells 3)) := (Read.mk _ _).trans (Read.two _ _ _)
  have hN : (((w.alloc (.cells #[.int .i64 k, .int .i64 xa, .int .i64 xb, .int .i64 xc] 40)).alloc (.cells nameCells 9)).alloc (.cells manyCells 3)).cell? ⟨w.heap.size + 1, k, none⟩ = some (.string ⟨nm.toArray⟩) := heapN w _ k _ h1
  have hM : (((w.alloc (.cells #[.int .i64 k, .int .i64 xa, .int .i64 xb, .int .i64 xc] 40)).alloc (.cells nameCells 9)).alloc (.cells manyCells 3)).cell? ⟨w.heap.size + 1 + 1, k, none⟩ = some (.int .i64 0) := heapM w _ k _ h2
  change Code.wp _ _ _ _ (((w.alloc (.cells #[.int .i64 k, .int .i64 xa, .int .i64 xb, .int .i64 xc] 40)).alloc (.cells nameCells 9)).alloc (.cells manyCells 3))
  generalize (((w.alloc (.cells #[.int .i64 k, .int .i64 xa, .int .i64 xb, .int .i64 xc] 40)).alloc (.cells nameCells 9)).alloc (.cells manyCells 3)) = W at *
  obtain ⟨-, y0, y1, y2, y3⟩ := hat
  simp only [Nat.zero_add] at y0 y1 y2 y3
  have hn0 := Lib.hid (Nums.mk W xa xb xc)
  have hfin := hrd.trans (Read.mk W (.cells #[.int .i64 xa, .int .i64 xb, .int .i64 xc] 3))

  clear hrd
  go_wp2
  clear y0 y1 y2 y3
  obtain ⟨-, n0, n1, n2⟩ := hn0.out
  refine wp_loop_rounds 1 ?_
  rw [rounds_succ]
  go_wp2
  go_ret
  exact ⟨rfl, hfin⟩

set_option maxRecDepth 100000 in
set_option maxHeartbeats 2000000 in
theorem r3text_in_1 (nm : List UInt8) (hl : nm.length ≤ 5) (k : Nat) (hk17 : k < 17) (h1 : nameCells[k]? = some (.string ⟨nm.toArray⟩)) (h2 : manyCells[k]? = some (.int .i64 1)) (xa xb xc : Int) (hfa : inI xa) (hfb : inI xb) (hfc : inI xc) (w : World) :
    Calls Tryd.prog 20 #[.agg #[.int .i64 k, .int .i64 xa, .int .i64 xb, .int .i64 xc]] w fun e w' => e = .returned (.string ⟨(words nm [xa]).toArray⟩) ∧ Read w w' := by
  simp only [words_cons, words_nil]
  have la := itoa_len xa hfa.1 hfa.2
  have lb := itoa_len xb hfb.1 hfb.2
  have ha0 := fun w => add_two nm xa (by omega) hfa w
  have hb0 := fun w => add_one nm (by omega) w
  clear la lb
  generalize nm ++ 32 :: Lib.itoa xa = s1 at ha0 hb0 ⊢
  generalize nm ++ [32] = t0 at ha0 hb0
  replace hfa := Lib.hid hfa
  replace hfb := Lib.hid hfb
  replace hfc := Lib.hid hfc
  go_enter Tryd.func20, Tryd.ntmps20
  go_upto_region 5 with (fail)
  have hat := (InsAt.mk w k xa xb xc).read (Read.two _ (.cells nameCells 9) (.cells manyCells 3))
  have hrd : Read w (((w.alloc (.cells #[.int .i64 k, .int .i64 xa, .int .i64 xb, .int .i64 xc] 40)).alloc (.cells nameCells 9)).alloc (.cells manyCells 3)) := (Read.mk _ _).trans (Read.two _ _ _)
  have hN : (((w.alloc (.cells #[.int .i64 k, .int .i64 xa, .int .i64 xb, .int .i64 xc] 40)).alloc (.cells nameCells 9)).alloc (.cells manyCells 3)).cell? ⟨w.heap.size + 1, k, none⟩ = some (.string ⟨nm.toArray⟩) := heapN w _ k _ h1
  have hM : (((w.alloc (.cells #[.int .i64 k, .int .i64 xa, .int .i64 xb, .int .i64 xc] 40)).alloc (.cells nameCells 9)).alloc (.cells manyCells 3)).cell? ⟨w.heap.size + 1 + 1, k, none⟩ = some (.int .i64 1) := heapM w _ k _ h2
  change Code.wp _ _ _ _ (((w.alloc (.cells #[.int .i64 k, .int .i64 xa, .int .i64 xb, .int .i64 xc] 40)).alloc (.cells nameCells 9)).alloc (.cells manyCells 3))
  generalize (((w.alloc (.cells #[.int .i64 k, .int .i64 xa, .int .i64 xb, .int .i64 xc] 40)).alloc (.cells nameCells 9)).alloc (.cells manyCells 3)) = W at *
  obtain ⟨-, y0, y1, y2, y3⟩ := hat
  simp only [Nat.zero_add] at y0 y1 y2 y3
  have hn0 := Lib.hid (Nums.mk W xa xb xc)
  have hfin := hrd.trans (Read.mk W (.cells #[.int .i64 xa, .int .i64 xb, .int .i64 xc] 3))

  clear hrd
  go_wp2
  clear y0 y1 y2 y3
  obtain ⟨-, n0, n1, n2⟩ := hn0.out
  refine wp_loop_rounds 2 ?_
  rw [rounds_succ]
  go_wp2_with (go_at_call 29; refine (number_any xa hfa.out _).mono ?_; rintro e v0 ⟨rfl, hq0⟩)
  clear n0 n1 n2
  have hn1 := Lib.hid (hn0.out.read hq0)
  obtain ⟨-, n0, n1, n2⟩ := hn0.out.read hq0
  rw [rounds_succ]
  go_wp2
  go_ret
  exact ⟨rfl, (hfin.trans hq0)⟩

set_option maxRecDepth 100000 in
set_option maxHeartbeats 2000000 in
theorem r3text_in_2 (nm : List UInt8) (hl : nm.length ≤ 5) (k : Nat) (hk17 : k < 17) (h1 : nameCells[k]? = some (.string ⟨nm.toArray⟩)) (h2 : manyCells[k]? = some (.int .i64 2)) (xa xb xc : Int) (hfa : inI xa) (hfb : inI xb) (hfc : inI xc) (w : World) :
    Calls Tryd.prog 20 #[.agg #[.int .i64 k, .int .i64 xa, .int .i64 xb, .int .i64 xc]] w fun e w' => e = .returned (.string ⟨(words nm [xa, xb]).toArray⟩) ∧ Read w w' := by
  simp only [words_cons, words_nil]
  have la := itoa_len xa hfa.1 hfa.2
  have lb := itoa_len xb hfb.1 hfb.2
  have ha0 := fun w => add_two nm xa (by omega) hfa w
  have hb0 := fun w => add_one nm (by omega) w
  have ha1 := fun w => add_two (nm ++ (32 :: Lib.itoa xa)) xb (by simp; omega) hfb w
  have hb1 := fun w => add_one (nm ++ (32 :: Lib.itoa xa)) (by simp; omega) w
  clear la lb
  generalize nm ++ 32 :: Lib.itoa xa = s1 at ha0 hb0 ha1 hb1 ⊢
  generalize nm ++ [32] = t0 at ha0 hb0 ha1 hb1
  generalize s1 ++ 32 :: Lib.itoa xb = s2 at ha0 hb0 ha1 hb1 ⊢
  generalize s1 ++ [32] = t1 at ha0 hb0 ha1 hb1
  replace hfa := Lib.hid hfa
  replace hfb := Lib.hid hfb
  replace hfc := Lib.hid hfc
  go_enter Tryd.func20, Tryd.ntmps20
  go_upto_region 5 with (fail)
  have hat := (InsAt.mk w k xa xb xc).read (Read.two _ (.cells nameCells 9) (.cells manyCells 3))
  have hrd : Read w (((w.alloc (.cells #[.int .i64 k, .int .i64 xa, .int .i64 xb, .int .i64 xc] 40)).alloc (.cells nameCells 9)).alloc (.cells manyCells 3)) := (Read.mk _ _).trans (Read.two _ _ _)
  have hN : (((w.alloc (.cells #[.int .i64 k, .int .i64 xa, .int .i64 xb, .int .i64 xc] 40)).alloc (.cells nameCells 9)).alloc (.cells manyCells 3)).cell? ⟨w.heap.size + 1, k, none⟩ = some (.string ⟨nm.toArray⟩) := heapN w _ k _ h1
  have hM : (((w.alloc (.cells #[.int .i64 k, .int .i64 xa, .int .i64 xb, .int .i64 xc] 40)).alloc (.cells nameCells 9)).alloc (.cells manyCells 3)).cell? ⟨w.heap.size + 1 + 1, k, none⟩ = some (.int .i64 2) := heapM w _ k _ h2
  change Code.wp _ _ _ _ (((w.alloc (.cells #[.int .i64 k, .int .i64 xa, .int .i64 xb, .int .i64 xc] 40)).alloc (.cells nameCells 9)).alloc (.cells manyCells 3))
  generalize (((w.alloc (.cells #[.int .i64 k, .int .i64 xa, .int .i64 xb, .int .i64 xc] 40)).alloc (.cells nameCells 9)).alloc (.cells manyCells 3)) = W at *
  obtain ⟨-, y0, y1, y2, y3⟩ := hat
  simp only [Nat.zero_add] at y0 y1 y2 y3
  have hn0 := Lib.hid (Nums.mk W xa xb xc)
  have hfin := hrd.trans (Read.mk W (.cells #[.int .i64 xa, .int .i64 xb, .int .i64 xc] 3))

  clear hrd
  go_wp2
  clear y0 y1 y2 y3
  obtain ⟨-, n0, n1, n2⟩ := hn0.out
  refine wp_loop_rounds 3 ?_
  rw [rounds_succ]
  go_wp2_with (go_at_call 29; refine (number_any xa hfa.out _).mono ?_; rintro e v0 ⟨rfl, hq0⟩)
  clear n0 n1 n2
  have hn1 := Lib.hid (hn0.out.read hq0)
  obtain ⟨-, n0, n1, n2⟩ := hn0.out.read hq0
  rw [rounds_succ]
  go_wp2_with (go_at_call 29; refine (number_any xb hfb.out _).mono ?_; rintro e v1 ⟨rfl, hq1⟩)
  clear n0 n1 n2
  have hn2 := Lib.hid (hn1.out.read hq1)
  obtain ⟨-, n0, n1, n2⟩ := hn1.out.read hq1
  rw [rounds_succ]
  go_wp2
  go_ret
  exact ⟨rfl, ((hfin.trans hq0).trans hq1)⟩

set_option maxRecDepth 100000 in
set_option maxHeartbeats 2000000 in
theorem r3text_in_3 (nm : List UInt8) (hl : nm.length ≤ 5) (k : Nat) (hk17 : k < 17) (h1 : nameCells[k]? = some (.string ⟨nm.toArray⟩)) (h2 : manyCells[k]? = some (.int .i64 3)) (xa xb xc : Int) (hfa : inI xa) (hfb : inI xb) (hfc : inI xc) (w : World) :
    Calls Tryd.prog 20 #[.agg #[.int .i64 k, .int .i64 xa, .int .i64 xb, .int .i64 xc]] w fun e w' => e = .returned (.string ⟨(words nm [xa, xb, xc]).toArray⟩) ∧ Read w w' := by
  simp only [words_cons, words_nil]
  have la := itoa_len xa hfa.1 hfa.2
  have lb := itoa_len xb hfb.1 hfb.2
  have ha0 := fun w => add_two nm xa (by omega) hfa w
  have hb0 := fun w => add_one nm (by omega) w
  have ha1 := fun w => add_two (nm ++ (32 :: Lib.itoa xa)) xb (by simp; omega) hfb w
  have hb1 := fun w => add_one (nm ++ (32 :: Lib.itoa xa)) (by simp; omega) w
  have ha2 := fun w => add_two ((nm ++ (32 :: Lib.itoa xa)) ++ (32 :: Lib.itoa xb)) xc (by simp; omega) hfc w
  have hb2 := fun w => add_one ((nm ++ (32 :: Lib.itoa xa)) ++ (32 :: Lib.itoa xb)) (by simp; omega) w
  clear la lb
  generalize nm ++ 32 :: Lib.itoa xa = s1 at ha0 hb0 ha1 hb1 ha2 hb2 ⊢
  generalize nm ++ [32] = t0 at ha0 hb0 ha1 hb1 ha2 hb2
  generalize s1 ++ 32 :: Lib.itoa xb = s2 at ha0 hb0 ha1 hb1 ha2 hb2 ⊢
  generalize s1 ++ [32] = t1 at ha0 hb0 ha1 hb1 ha2 hb2
  generalize s2 ++ 32 :: Lib.itoa xc = s3 at ha0 hb0 ha1 hb1 ha2 hb2 ⊢
  generalize s2 ++ [32] = t2 at ha0 hb0 ha1 hb1 ha2 hb2
  replace hfa := Lib.hid hfa
  replace hfb := Lib.hid hfb
  replace hfc := Lib.hid hfc
  go_enter Tryd.func20, Tryd.ntmps20
  go_upto_region 5 with (fail)
  have hat := (InsAt.mk w k xa xb xc).read (Read.two _ (.cells nameCells 9) (.cells manyCells 3))
  have hrd : Read w (((w.alloc (.cells #[.int .i64 k, .int .i64 xa, .int .i64 xb, .int .i64 xc] 40)).alloc (.cells nameCells 9)).alloc (.cells manyCells 3)) := (Read.mk _ _).trans (Read.two _ _ _)
  have hN : (((w.alloc (.cells #[.int .i64 k, .int .i64 xa, .int .i64 xb, .int .i64 xc] 40)).alloc (.cells nameCells 9)).alloc (.cells manyCells 3)).cell? ⟨w.heap.size + 1, k, none⟩ = some (.string ⟨nm.toArray⟩) := heapN w _ k _ h1
  have hM : (((w.alloc (.cells #[.int .i64 k, .int .i64 xa, .int .i64 xb, .int .i64 xc] 40)).alloc (.cells nameCells 9)).alloc (.cells manyCells 3)).cell? ⟨w.heap.size + 1 + 1, k, none⟩ = some (.int .i64 3) := heapM w _ k _ h2
  change Code.wp _ _ _ _ (((w.alloc (.cells #[.int .i64 k, .int .i64 xa, .int .i64 xb, .int .i64 xc] 40)).alloc (.cells nameCells 9)).alloc (.cells manyCells 3))
  generalize (((w.alloc (.cells #[.int .i64 k, .int .i64 xa, .int .i64 xb, .int .i64 xc] 40)).alloc (.cells nameCells 9)).alloc (.cells manyCells 3)) = W at *
  obtain ⟨-, y0, y1, y2, y3⟩ := hat
  simp only [Nat.zero_add] at y0 y1 y2 y3
  have hn0 := Lib.hid (Nums.mk W xa xb xc)
  have hfin := hrd.trans (Read.mk W (.cells #[.int .i64 xa, .int .i64 xb, .int .i64 xc] 3))

  clear hrd
  go_wp2
  clear y0 y1 y2 y3
  obtain ⟨-, n0, n1, n2⟩ := hn0.out
  refine wp_loop_rounds 4 ?_
  rw [rounds_succ]
  go_wp2_with (go_at_call 29; refine (number_any xa hfa.out _).mono ?_; rintro e v0 ⟨rfl, hq0⟩)
  clear n0 n1 n2
  have hn1 := Lib.hid (hn0.out.read hq0)
  obtain ⟨-, n0, n1, n2⟩ := hn0.out.read hq0
  rw [rounds_succ]
  go_wp2_with (go_at_call 29; refine (number_any xb hfb.out _).mono ?_; rintro e v1 ⟨rfl, hq1⟩)
  clear n0 n1 n2
  have hn2 := Lib.hid (hn1.out.read hq1)
  obtain ⟨-, n0, n1, n2⟩ := hn1.out.read hq1
  rw [rounds_succ]
  go_wp2_with (go_at_call 29; refine (number_any xc hfc.out _).mono ?_; rintro e v2 ⟨rfl, hq2⟩)
  clear n0 n1 n2
  have hn3 := Lib.hid (hn2.out.read hq2)
  obtain ⟨-, n0, n1, n2⟩ := hn2.out.read hq2
  rw [rounds_succ]
  go_wp2
  go_ret
  exact ⟨rfl, (((hfin.trans hq0).trans hq1).trans hq2)⟩

set_option maxRecDepth 100000 in
set_option maxHeartbeats 2000000 in
theorem r3text_out_3 (nm : List UInt8) (hl : nm.length ≤ 5) (op : Int) (hop : op < 0 ∨ 17 ≤ op) (hnm : nm = [63]) (xa xb xc : Int) (hfa : inI xa) (hfb : inI xb) (hfc : inI xc) (w : World) :
    Calls Tryd.prog 20 #[.agg #[.int .i64 op, .int .i64 xa, .int .i64 xb, .int .i64 xc]] w fun e w' => e = .returned (.string ⟨(words nm [xa, xb, xc]).toArray⟩) ∧ Read w w' := by
  simp only [words_cons, words_nil]
  have la := itoa_len xa hfa.1 hfa.2
  have lb := itoa_len xb hfb.1 hfb.2
  have ha0 := fun w => add_two nm xa (by omega) hfa w
  have hb0 := fun w => add_one nm (by omega) w
  have ha1 := fun w => add_two (nm ++ (32 :: Lib.itoa xa)) xb (by simp; omega) hfb w
  have hb1 := fun w => add_one (nm ++ (32 :: Lib.itoa xa)) (by simp; omega) w
  have ha2 := fun w => add_two ((nm ++ (32 :: Lib.itoa xa)) ++ (32 :: Lib.itoa xb)) xc (by simp; omega) hfc w
  have hb2 := fun w => add_one ((nm ++ (32 :: Lib.itoa xa)) ++ (32 :: Lib.itoa xb)) (by simp; omega) w
  clear la lb
  generalize nm ++ 32 :: Lib.itoa xa = s1 at ha0 hb0 ha1 hb1 ha2 hb2 ⊢
  generalize nm ++ [32] = t0 at ha0 hb0 ha1 hb1 ha2 hb2
  generalize s1 ++ 32 :: Lib.itoa xb = s2 at ha0 hb0 ha1 hb1 ha2 hb2 ⊢
  generalize s1 ++ [32] = t1 at ha0 hb0 ha1 hb1 ha2 hb2
  generalize s2 ++ 32 :: Lib.itoa xc = s3 at ha0 hb0 ha1 hb1 ha2 hb2 ⊢
  generalize s2 ++ [32] = t2 at ha0 hb0 ha1 hb1 ha2 hb2
  replace hfa := Lib.hid hfa
  replace hfb := Lib.hid hfb
  replace hfc := Lib.hid hfc
  go_enter Tryd.func20, Tryd.ntmps20
  go_upto_region 5 with (fail)
  have hat := (InsAt.mk w op xa xb xc).read (Read.two _ (.cells nameCells 9) (.cells manyCells 3))
  have hrd : Read w (((w.alloc (.cells #[.int .i64 op, .int .i64 xa, .int .i64 xb, .int .i64 xc] 40)).alloc (.cells nameCells 9)).alloc (.cells manyCells 3)) := (Read.mk _ _).trans (Read.two _ _ _)
  subst hnm
  change Code.wp _ _ _ _ (((w.alloc (.cells #[.int .i64 op, .int .i64 xa, .int .i64 xb, .int .i64 xc] 40)).alloc (.cells nameCells 9)).alloc (.cells manyCells 3))
  generalize (((w.alloc (.cells #[.int .i64 op, .int .i64 xa, .int .i64 xb, .int .i64 xc] 40)).alloc (.cells nameCells 9)).alloc (.cells manyCells 3)) = W at *
  obtain ⟨-, y0, y1, y2, y3⟩ := hat
  simp only [Nat.zero_add] at y0 y1 y2 y3
  rcases hop with hop | hop
  rotate_left
  have hop0 : 0 ≤ op := by omega
  all_goals
    have hn0 := Lib.hid (Nums.mk W xa xb xc)
    have hfin := hrd.trans (Read.mk W (.cells #[.int .i64 xa, .int .i64 xb, .int .i64 xc] 3))

    clear hrd
    go_wp2
    clear y0 y1 y2 y3
    obtain ⟨-, n0, n1, n2⟩ := hn0.out
    refine wp_loop_rounds 4 ?_
    rw [rounds_succ]
    go_wp2_with (go_at_call 29; refine (number_any xa hfa.out _).mono ?_; rintro e v0 ⟨rfl, hq0⟩)
    clear n0 n1 n2
    have hn1 := Lib.hid (hn0.out.read hq0)
    obtain ⟨-, n0, n1, n2⟩ := hn0.out.read hq0
    rw [rounds_succ]
    go_wp2_with (go_at_call 29; refine (number_any xb hfb.out _).mono ?_; rintro e v1 ⟨rfl, hq1⟩)
    clear n0 n1 n2
    have hn2 := Lib.hid (hn1.out.read hq1)
    obtain ⟨-, n0, n1, n2⟩ := hn1.out.read hq1
    rw [rounds_succ]
    go_wp2_with (go_at_call 29; refine (number_any xc hfc.out _).mono ?_; rintro e v2 ⟨rfl, hq2⟩)
    clear n0 n1 n2
    have hn3 := Lib.hid (hn2.out.read hq2)
    obtain ⟨-, n0, n1, n2⟩ := hn2.out.read hq2
    rw [rounds_succ]
    go_wp2
    go_ret
    exact ⟨rfl, (((hfin.trans hq0).trans hq1).trans hq2)⟩

theorem r3Text_any (i : I) (hf : i.inAll) (w : World) : Calls Tryd.prog 20 #[i.val] w fun e w' => e = .returned (.string ⟨(textI i).toArray⟩) ∧ Read w w' := by
  obtain ⟨op, a, b, c⟩ := i
  obtain ⟨fa, fb, fc⟩ := hf
  by_cases h : op < 0 ∨ 17 ≤ op
  · have e1 : nameL op = [63] := by
      have : nameOf op = ⟨#[63]⟩ := by unfold nameOf; repeat (rw [if_neg (by omega)])
      unfold nameL
      rw [this]
    have e2 : usedOf op = 3 := by unfold usedOf; repeat (rw [if_neg (by omega)])
    unfold textI I.val
    simp only
    rw [e2]
    exact r3text_out_3 (nameL op) (nameL_len op) op h e1 a b c fa fb fc w
  · obtain ⟨k, rfl⟩ : ∃ k : Nat, op = k := ⟨op.toNat, by omega⟩
    obtain ⟨h1, h2⟩ := lists_at k (by omega)
    have hl := nameL_len (k : Int)
    have hu := usedOf_le (k : Int)
    rw [← nameL_mk] at h1
    unfold textI I.val
    simp only at *
    have h17 : k < 17 := by omega
    generalize usedOf (k : Int) = u at h2 hu ⊢
    rcases (by omega : u = 0 ∨ u = 1 ∨ u = 2 ∨ u = 3) with rfl | rfl | rfl | rfl
    · exact r3text_in_0 _ hl k h17 h1 h2 a b c fa fb fc w
    · exact r3text_in_1 _ hl k h17 h1 h2 a b c fa fb fc w
    · exact r3text_in_2 _ hl k h17 h1 h2 a b c fa fb fc w
    · exact r3text_in_3 _ hl k h17 h1 h2 a b c fa fb fc w

end Go.Proofs.YtpbmfhbcnllkaaaDoor
