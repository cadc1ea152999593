/-
  The law of two numbers and an instruction.
-/
import Derived.Test.YtghbdpjegmdhbaaDoorVmL2
import Derived.Test.YtghbdpjegmdhbaaDoorVmF
import Derived.Test.YtghbdpjegmdhbaaDoorVmI
namespace Go.Proofs.YtghbdpjegmdhbaaDoor
open Go.ChangeShapes Go.WideShapes Go.ChangeAt Go.RowKit Go.Sort
set_option linter.unusedVariables false
set_option maxRecDepth 4000

theorem wf_i32 {n : Int} (h : (Lit.int .i32 n).wf = true) : -2147483648 ≤ n ∧ n ≤ 2147483647 := by
  simp [Lit.wf, IntKind.min, IntKind.max, IntKind.signed, IntKind.bits] at h
  omega
theorem sums_fits {o a b : Int} (ho : o = 3 ∨ o = 4 ∨ o = 5 ∨ o = 6 ∨ o = 7 ∨ o = 8 ∨ o = 9) (ha : -2147483648 ≤ a ∧ a ≤ 2147483647) (hb : -2147483648 ≤ b ∧ b ≤ 2147483647) : ∀ i ∈ sumsI o a b, i.fits := by
  intro i hi
  simp only [sumsI, List.mem_cons, List.not_mem_nil, or_false] at hi
  rcases hi with rfl | rfl | rfl <;> exact ⟨WalkArith.wf_i64 (by simp only; omega), WalkArith.wf_i64 (by simp only; omega), WalkArith.wf_i64 (by simp only; omega), WalkArith.wf_i64 (by simp only; omega)⟩
theorem Lib.second {w : World} {o1 : Obj} (A : Obj) : ((w.alloc o1).alloc A).heap[w.heap.size + 1]? = some A := by
  have := heap_alloc_new (w.alloc o1) A; rwa [World.size_alloc] at this
theorem two_below (w : World) (o1 o2 : Obj) : Below w.heap.size w ((w.alloc o1).alloc o2) := ((Below.refl _ w).alloc (Nat.le_refl _) o1).alloc (by simp) o2
theorem sums_call {w : World} {eb : Addr} (hE : ErrIs w eb) (hT : ErrT w) {o a b z : Int} (ho : o = 3 ∨ o = 4 ∨ o = 5 ∨ o = 6 ∨ o = 7 ∨ o = 8 ∨ o = 9) (ha : -2147483648 ≤ a ∧ a ≤ 2147483647) (hb : -2147483648 ≤ b ∧ b ≤ 2147483647) (hz : mathP o a b = z) (o1 : Obj) :
    Calls Tryd.prog 11 #[Wv.val ⟨some ⟨w.heap.size + 1, 0, none⟩, 3, 3, none, 0, 0⟩ ⟨sumsI o a b, 0, [], 0⟩, Sta.zero.val, noM.val] ((w.alloc o1).alloc (.cells (flatI (sumsI o a b)).toArray 56)) (RunL ((w.alloc o1).alloc (.cells (flatI (sumsI o a b)).toArray 56)) z 0 0 0 0 0 0 0 0 0 [] 0) := by
  have hb0 := two_below w o1 (.cells (flatI (sumsI o a b)).toArray 56)
  refine vmRun_lit ⟨inss_of_block (Lib.second _) rfl (by show 3 ≤ _; unfold maxLen; omega) (by rfl) (sums_fits ho ha hb), lks_nil _, by show 0 < _; omega, by show (Lit.int .i64 0).wf = true; decide⟩ (hE.below hb0) (hT.below hb0) (s := Sta.zero) rfl zero_in (by unfold In64; decide) ?_
  rw [← hz]
  exact sumsR ho ha hb

set_option maxHeartbeats 4000000 in
theorem sums_add {w : World} {eb : Addr} (hE : ErrIs w eb) (hT : ErrT w) (a b n : Int) (ha : -2147483648 ≤ a ∧ a ≤ 2147483647) (hb : -2147483648 ≤ b ∧ b ≤ 2147483647) (hn : 0 ≤ n ∧ n ≤ 255) (hj : n % 7 = 0) :
    Calls Tryd.prog 6 #[.int .i32 a, .int .i32 b, .int .u8 n] w fun e w' => e = .returned (.bool true) ∧ Below w.heap.size w w' := by
  have hc1 := sums_call hE hT (o := 3) (by omega) ha hb (z := a + b) (by simp [mathP]; unfold wrap64; omega)
  simp only [Wv.val, M.val, noM, Sta.val, Sta.cells, Sta.zero, List.map_cons, List.map_nil, List.cons_append, List.nil_append, sumsI, flatI, List.flatMap_cons, List.flatMap_nil, cellsOfI] at hc1
  have hBB := Lib.hid (two_below w)
  clear hE hT
  go_enter Tryd.func6, Tryd.ntmps6
  go_wp2_with fail
  refine (hc1 _).mono ?_
  rintro e w1 ⟨a', cap, rfl, hq1⟩
  have hB := Lib.hid ((hBB.out _ _).trans (hq1.out.2.mono (by simp; omega)))
  clear hc1 hq1
  go_wp2
  go_ret
  exact ⟨rfl, hB.out.alloc hB.out.size _⟩

set_option maxHeartbeats 4000000 in
theorem sums_sub {w : World} {eb : Addr} (hE : ErrIs w eb) (hT : ErrT w) (a b n : Int) (ha : -2147483648 ≤ a ∧ a ≤ 2147483647) (hb : -2147483648 ≤ b ∧ b ≤ 2147483647) (hn : 0 ≤ n ∧ n ≤ 255) (hj : n % 7 = 1) :
    Calls Tryd.prog 6 #[.int .i32 a, .int .i32 b, .int .u8 n] w fun e w' => e = .returned (.bool true) ∧ Below w.heap.size w w' := by
  have hc1 := sums_call hE hT (o := 4) (by omega) ha hb (z := a - b) (by simp [mathP]; unfold wrap64; omega)
  simp only [Wv.val, M.val, noM, Sta.val, Sta.cells, Sta.zero, List.map_cons, List.map_nil, List.cons_append, List.nil_append, sumsI, flatI, List.flatMap_cons, List.flatMap_nil, cellsOfI] at hc1
  have hBB := Lib.hid (two_below w)
  clear hE hT
  go_enter Tryd.func6, Tryd.ntmps6
  go_wp2_with fail
  refine (hc1 _).mono ?_
  rintro e w1 ⟨a', cap, rfl, hq1⟩
  have hB := Lib.hid ((hBB.out _ _).trans (hq1.out.2.mono (by simp; omega)))
  clear hc1 hq1
  go_wp2
  go_ret
  exact ⟨rfl, hB.out.alloc hB.out.size _⟩

set_option maxHeartbeats 4000000 in
theorem sums_mul {w : World} {eb : Addr} (hE : ErrIs w eb) (hT : ErrT w) (a b n : Int) (ha : -2147483648 ≤ a ∧ a ≤ 2147483647) (hb : -2147483648 ≤ b ∧ b ≤ 2147483647) (hn : 0 ≤ n ∧ n ≤ 255) (hj : n % 7 = 2) :
    Calls Tryd.prog 6 #[.int .i32 a, .int .i32 b, .int .u8 n] w fun e w' => e = .returned (.bool true) ∧ Below w.heap.size w w' := by
  have hc1 := sums_call hE hT (o := 5) (by omega) ha hb (z := wrap64 (a * b)) (by simp [mathP])
  simp only [Wv.val, M.val, noM, Sta.val, Sta.cells, Sta.zero, List.map_cons, List.map_nil, List.cons_append, List.nil_append, sumsI, flatI, List.flatMap_cons, List.flatMap_nil, cellsOfI] at hc1
  have hBB := Lib.hid (two_below w)
  clear hE hT
  go_enter Tryd.func6, Tryd.ntmps6
  go_wp2_with fail
  refine (hc1 _).mono ?_
  rintro e w1 ⟨a', cap, rfl, hq1⟩
  have hB := Lib.hid ((hBB.out _ _).trans (hq1.out.2.mono (by simp; omega)))
  clear hc1 hq1
  go_wp2
  go_ret
  exact ⟨rfl, hB.out.alloc hB.out.size _⟩

set_option maxHeartbeats 4000000 in
theorem sums_lss {w : World} {eb : Addr} (hE : ErrIs w eb) (hT : ErrT w) (a b n : Int) (ha : -2147483648 ≤ a ∧ a ≤ 2147483647) (hb : -2147483648 ≤ b ∧ b ≤ 2147483647) (hn : 0 ≤ n ∧ n ≤ 255) (hj : n % 7 = 3) (hh : a < b) :
    Calls Tryd.prog 6 #[.int .i32 a, .int .i32 b, .int .u8 n] w fun e w' => e = .returned (.bool true) ∧ Below w.heap.size w w' := by
  have hc1 := sums_call hE hT (o := 8) (by omega) ha hb (z := 1) (by simp [mathP, hh])
  simp only [Wv.val, M.val, noM, Sta.val, Sta.cells, Sta.zero, List.map_cons, List.map_nil, List.cons_append, List.nil_append, sumsI, flatI, List.flatMap_cons, List.flatMap_nil, cellsOfI] at hc1
  have hBB := Lib.hid (two_below w)
  clear hE hT
  go_enter Tryd.func6, Tryd.ntmps6
  go_wp2_with fail
  refine (hc1 _).mono ?_
  rintro e w1 ⟨a', cap, rfl, hq1⟩
  have hB := Lib.hid ((hBB.out _ _).trans (hq1.out.2.mono (by simp; omega)))
  clear hc1 hq1
  go_wp2
  go_ret
  exact ⟨rfl, hB.out.alloc hB.out.size _⟩

set_option maxHeartbeats 4000000 in
theorem sums_geq {w : World} {eb : Addr} (hE : ErrIs w eb) (hT : ErrT w) (a b n : Int) (ha : -2147483648 ≤ a ∧ a ≤ 2147483647) (hb : -2147483648 ≤ b ∧ b ≤ 2147483647) (hn : 0 ≤ n ∧ n ≤ 255) (hj : n % 7 = 3) (hh : ¬ a < b) :
    Calls Tryd.prog 6 #[.int .i32 a, .int .i32 b, .int .u8 n] w fun e w' => e = .returned (.bool true) ∧ Below w.heap.size w w' := by
  have hc1 := sums_call hE hT (o := 8) (by omega) ha hb (z := 0) (by simp [mathP, hh])
  simp only [Wv.val, M.val, noM, Sta.val, Sta.cells, Sta.zero, List.map_cons, List.map_nil, List.cons_append, List.nil_append, sumsI, flatI, List.flatMap_cons, List.flatMap_nil, cellsOfI] at hc1
  have hBB := Lib.hid (two_below w)
  clear hE hT
  go_enter Tryd.func6, Tryd.ntmps6
  go_wp2_with fail
  refine (hc1 _).mono ?_
  rintro e w1 ⟨a', cap, rfl, hq1⟩
  have hB := Lib.hid ((hBB.out _ _).trans (hq1.out.2.mono (by simp; omega)))
  clear hc1 hq1
  go_wp2
  go_ret
  exact ⟨rfl, hB.out.alloc hB.out.size _⟩

set_option maxHeartbeats 4000000 in
theorem sums_eql {w : World} {eb : Addr} (hE : ErrIs w eb) (hT : ErrT w) (a b n : Int) (ha : -2147483648 ≤ a ∧ a ≤ 2147483647) (hb : -2147483648 ≤ b ∧ b ≤ 2147483647) (hn : 0 ≤ n ∧ n ≤ 255) (hj : n % 7 = 4) (hh : a = b) :
    Calls Tryd.prog 6 #[.int .i32 a, .int .i32 b, .int .u8 n] w fun e w' => e = .returned (.bool true) ∧ Below w.heap.size w w' := by
  subst hh
  have hc1 := sums_call hE hT (o := 9) (by omega) ha hb (z := 1) (by simp [mathP])
  simp only [Wv.val, M.val, noM, Sta.val, Sta.cells, Sta.zero, List.map_cons, List.map_nil, List.cons_append, List.nil_append, sumsI, flatI, List.flatMap_cons, List.flatMap_nil, cellsOfI] at hc1
  have hBB := Lib.hid (two_below w)
  clear hE hT
  go_enter Tryd.func6, Tryd.ntmps6
  go_wp2_with fail
  refine (hc1 _).mono ?_
  rintro e w1 ⟨a', cap, rfl, hq1⟩
  have hB := Lib.hid ((hBB.out _ _).trans (hq1.out.2.mono (by simp; omega)))
  clear hc1 hq1
  go_wp2
  go_ret
  exact ⟨rfl, hB.out.alloc hB.out.size _⟩

set_option maxHeartbeats 4000000 in
theorem sums_neq {w : World} {eb : Addr} (hE : ErrIs w eb) (hT : ErrT w) (a b n : Int) (ha : -2147483648 ≤ a ∧ a ≤ 2147483647) (hb : -2147483648 ≤ b ∧ b ≤ 2147483647) (hn : 0 ≤ n ∧ n ≤ 255) (hj : n % 7 = 4) (hh : ¬ a = b) :
    Calls Tryd.prog 6 #[.int .i32 a, .int .i32 b, .int .u8 n] w fun e w' => e = .returned (.bool true) ∧ Below w.heap.size w w' := by
  have hc1 := sums_call hE hT (o := 9) (by omega) ha hb (z := 0) (by simp [mathP, hh])
  simp only [Wv.val, M.val, noM, Sta.val, Sta.cells, Sta.zero, List.map_cons, List.map_nil, List.cons_append, List.nil_append, sumsI, flatI, List.flatMap_cons, List.flatMap_nil, cellsOfI] at hc1
  have hBB := Lib.hid (two_below w)
  clear hE hT
  go_enter Tryd.func6, Tryd.ntmps6
  go_wp2_with fail
  refine (hc1 _).mono ?_
  rintro e w1 ⟨a', cap, rfl, hq1⟩
  have hB := Lib.hid ((hBB.out _ _).trans (hq1.out.2.mono (by simp; omega)))
  clear hc1 hq1
  go_wp2
  go_ret
  exact ⟨rfl, hB.out.alloc hB.out.size _⟩

set_option maxHeartbeats 4000000 in
theorem sums_qz {w : World} {eb : Addr} (hE : ErrIs w eb) (hT : ErrT w) (a b n : Int) (ha : -2147483648 ≤ a ∧ a ≤ 2147483647) (hb : -2147483648 ≤ b ∧ b ≤ 2147483647) (hn : 0 ≤ n ∧ n ≤ 255) (hj : n % 7 = 5) (hh : b = 0) :
    Calls Tryd.prog 6 #[.int .i32 a, .int .i32 b, .int .u8 n] w fun e w' => e = .returned (.bool true) ∧ Below w.heap.size w w' := by
  subst hh
  have hc1 := sums_call hE hT (o := 6) (by omega) ha hb (z := 0) (by simp [mathP])
  simp only [Wv.val, M.val, noM, Sta.val, Sta.cells, Sta.zero, List.map_cons, List.map_nil, List.cons_append, List.nil_append, sumsI, flatI, List.flatMap_cons, List.flatMap_nil, cellsOfI] at hc1
  have hBB := Lib.hid (two_below w)
  clear hE hT
  go_enter Tryd.func6, Tryd.ntmps6
  go_wp2_with fail
  refine (hc1 _).mono ?_
  rintro e w1 ⟨a', cap, rfl, hq1⟩
  have hB := Lib.hid ((hBB.out _ _).trans (hq1.out.2.mono (by simp; omega)))
  clear hc1 hq1
  go_wp2
  go_ret
  exact ⟨rfl, hB.out.alloc hB.out.size _⟩

set_option maxHeartbeats 4000000 in
theorem sums_quo {w : World} {eb : Addr} (hE : ErrIs w eb) (hT : ErrT w) (a b n : Int) (ha : -2147483648 ≤ a ∧ a ≤ 2147483647) (hb : -2147483648 ≤ b ∧ b ≤ 2147483647) (hn : 0 ≤ n ∧ n ≤ 255) (hj : n % 7 = 5) (hh : ¬ b = 0) :
    Calls Tryd.prog 6 #[.int .i32 a, .int .i32 b, .int .u8 n] w fun e w' => e = .returned (.bool true) ∧ Below w.heap.size w w' := by
  have hc1 := sums_call hE hT (o := 6) (by omega) ha hb (z := wrap64 (a.tdiv b)) (by simp [mathP, hh])
  simp only [Wv.val, M.val, noM, Sta.val, Sta.cells, Sta.zero, List.map_cons, List.map_nil, List.cons_append, List.nil_append, sumsI, flatI, List.flatMap_cons, List.flatMap_nil, cellsOfI] at hc1
  have hBB := Lib.hid (two_below w)
  clear hE hT
  go_enter Tryd.func6, Tryd.ntmps6
  go_wp2_with fail
  refine (hc1 _).mono ?_
  rintro e w1 ⟨a', cap, rfl, hq1⟩
  have hB := Lib.hid ((hBB.out _ _).trans (hq1.out.2.mono (by simp; omega)))
  clear hc1 hq1
  go_wp2
  go_ret
  exact ⟨rfl, hB.out.alloc hB.out.size _⟩

set_option maxHeartbeats 4000000 in
theorem sums_rz {w : World} {eb : Addr} (hE : ErrIs w eb) (hT : ErrT w) (a b n : Int) (ha : -2147483648 ≤ a ∧ a ≤ 2147483647) (hb : -2147483648 ≤ b ∧ b ≤ 2147483647) (hn : 0 ≤ n ∧ n ≤ 255) (hj : n % 7 = 6) (hh : b = 0) :
    Calls Tryd.prog 6 #[.int .i32 a, .int .i32 b, .int .u8 n] w fun e w' => e = .returned (.bool true) ∧ Below w.heap.size w w' := by
  subst hh
  have hc1 := sums_call hE hT (o := 7) (by omega) ha hb (z := 0) (by simp [mathP])
  simp only [Wv.val, M.val, noM, Sta.val, Sta.cells, Sta.zero, List.map_cons, List.map_nil, List.cons_append, List.nil_append, sumsI, flatI, List.flatMap_cons, List.flatMap_nil, cellsOfI] at hc1
  have hBB := Lib.hid (two_below w)
  clear hE hT
  go_enter Tryd.func6, Tryd.ntmps6
  go_wp2_with fail
  refine (hc1 _).mono ?_
  rintro e w1 ⟨a', cap, rfl, hq1⟩
  have hB := Lib.hid ((hBB.out _ _).trans (hq1.out.2.mono (by simp; omega)))
  clear hc1 hq1
  go_wp2
  go_ret
  exact ⟨rfl, hB.out.alloc hB.out.size _⟩

set_option maxHeartbeats 4000000 in
theorem sums_rem {w : World} {eb : Addr} (hE : ErrIs w eb) (hT : ErrT w) (a b n : Int) (ha : -2147483648 ≤ a ∧ a ≤ 2147483647) (hb : -2147483648 ≤ b ∧ b ≤ 2147483647) (hn : 0 ≤ n ∧ n ≤ 255) (hj : n % 7 = 6) (hh : ¬ b = 0) :
    Calls Tryd.prog 6 #[.int .i32 a, .int .i32 b, .int .u8 n] w fun e w' => e = .returned (.bool true) ∧ Below w.heap.size w w' := by
  have hc1 := sums_call hE hT (o := 7) (by omega) ha hb (z := a.tmod b) (by simp [mathP, hh])
  simp only [Wv.val, M.val, noM, Sta.val, Sta.cells, Sta.zero, List.map_cons, List.map_nil, List.cons_append, List.nil_append, sumsI, flatI, List.flatMap_cons, List.flatMap_nil, cellsOfI] at hc1
  have hBB := Lib.hid (two_below w)
  clear hE hT
  go_enter Tryd.func6, Tryd.ntmps6
  go_wp2_with fail
  refine (hc1 _).mono ?_
  rintro e w1 ⟨a', cap, rfl, hq1⟩
  have hB := Lib.hid ((hBB.out _ _).trans (hq1.out.2.mono (by simp; omega)))
  clear hc1 hq1
  go_wp2
  go_ret
  exact ⟨rfl, hB.out.alloc hB.out.size _⟩

theorem lawVmSums {w : World} {eb : Addr} (hE : ErrIs w eb) (hT : ErrT w) (a : Int) (ha' : (Lit.int .i32 a).wf = true) (b : Int) (hb' : (Lit.int .i32 b).wf = true) (n : Int) (hn' : (Lit.int .u8 n).wf = true) :
    Calls Tryd.prog 6 #[.int .i32 a, .int .i32 b, .int .u8 n] w fun e w' => e = .returned (.bool true) ∧ Below w.heap.size w w' := by
  have ha := wf_i32 ha'
  have hb := wf_i32 hb'
  have hn := wf_u8 hn'
  rcases (by omega : n % 7 = 0 ∨ n % 7 = 1 ∨ n % 7 = 2 ∨ n % 7 = 3 ∨ n % 7 = 4 ∨ n % 7 = 5 ∨ n % 7 = 6) with h | h | h | h | h | h | h
  · exact sums_add hE hT a b n ha hb hn h
  · exact sums_sub hE hT a b n ha hb hn h
  · exact sums_mul hE hT a b n ha hb hn h
  · by_cases hh : a < b
    · exact sums_lss hE hT a b n ha hb hn h hh
    · exact sums_geq hE hT a b n ha hb hn h hh
  · by_cases hh : a = b
    · exact sums_eql hE hT a b n ha hb hn h hh
    · exact sums_neq hE hT a b n ha hb hn h hh
  · by_cases hh : b = 0
    · exact sums_qz hE hT a b n ha hb hn h hh
    · exact sums_quo hE hT a b n ha hb hn h hh
  · by_cases hh : b = 0
    · exact sums_rz hE hT a b n ha hb hn h hh
    · exact sums_rem hE hT a b n ha hb hn h hh
end Go.Proofs.YtghbdpjegmdhbaaDoor
