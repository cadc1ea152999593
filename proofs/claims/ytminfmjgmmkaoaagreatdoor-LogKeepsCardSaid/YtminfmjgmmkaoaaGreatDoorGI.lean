/-
  A log's small calls: made, Len, Kept, State, last, Last, follows, isCount, isEvery.
  The order of two messages; a log's last event, whether a message may follow.
  Whether a message may be done next.
  Why a message may not be done next: refusal.
  The names of what is sent: old ones where a kept message fits, else new ones.
  The program's name.
-/
import Derived.Test.YtminfmjgmmkaoaaGreatDoorGC
namespace Go.Proofs.YtminfmjgmmkaoaaGreatDoor
open Go.ChangeShapes Go.WideShapes Go.ChangeAt Go.Shelf Go.RowKit Go.Lib Go.Sort Go.Deep
set_option linter.unusedVariables false
set_option maxRecDepth 4000

def lcountB (z : Int) : Bool := decide (0 ≤ z ∧ z ≤ 1099511627776)
def leveryB (z : Int) : Bool := decide (1 ≤ z ∧ z ≤ 1024)
theorem lgIsCount_any (z : Int) (w : World) : Calls Tryz.prog 22 #[.int .i64 z] w fun e w' => e = .returned (.bool (lcountB z)) ∧ w = w' := by
  by_cases h0 : 0 ≤ z <;> by_cases h1 : z ≤ 1099511627776
  all_goals
    first
      | rw [show lcountB z = true by simp [lcountB]; omega]
      | rw [show lcountB z = false by simp [lcountB]; omega]
    go_enter Tryz.func22, Tryz.ntmps22
    go_wp2
    go_ret
    exact ⟨by first | rfl | (refine ret_bool ?_; simp; omega), rfl⟩
theorem lgIsEvery_any (z : Int) (w : World) : Calls Tryz.prog 23 #[.int .i64 z] w fun e w' => e = .returned (.bool (leveryB z)) ∧ w = w' := by
  by_cases h0 : 1 ≤ z <;> by_cases h1 : z ≤ 1024
  all_goals
    first
      | rw [show leveryB z = true by simp [leveryB]; omega]
      | rw [show leveryB z = false by simp [leveryB]; omega]
    go_enter Tryz.func23, Tryz.ntmps23
    go_wp2
    go_ret
    exact ⟨by first | rfl | (refine ret_bool ?_; simp; omega), rfl⟩

theorem lgMade_any {w : World} {lb n cap : Nat} {a : Option Addr} (c5 : w.cell? ⟨lb, 5, none⟩ = some (.slice a n cap)) (hn : 0 < n) :
    Calls Tryz.prog 32 #[.pointer (some ⟨lb, 0, none⟩)] w fun e w' => e = .returned (.bool true) ∧ w = w' := by
  have hn' : (0 : Int) < (n : Int) := by omega
  go_enter Tryz.func32, Tryz.ntmps32
  go_wp2
  go_ret
  exact ⟨rfl, rfl⟩
theorem lgLen_any {w : World} {lb n cap : Nat} {z : Int} {a : Option Addr} (c5 : w.cell? ⟨lb, 5, none⟩ = some (.slice a n cap)) (hn : 0 < n) (c6 : w.cell? ⟨lb, 6, none⟩ = some (.int .i64 z)) :
    Calls Tryz.prog 15 #[.pointer (some ⟨lb, 0, none⟩)] w fun e w' => e = .returned (.int .i64 z) ∧ w = w' := by
  have hm := lgMade_any c5 hn
  clear hn
  go_enter Tryz.func15, Tryz.ntmps15
  go_wp2_with (go_at_call 32; refine hm.mono ?_; rintro e w' ⟨rfl, rfl⟩)
  go_ret
  exact ⟨rfl, rfl⟩
theorem lgKept_any {w : World} {lb n cap : Nat} {a : Option Addr} (c5 : w.cell? ⟨lb, 5, none⟩ = some (.slice a n cap)) (hn : 0 < n) :
    Calls Tryz.prog 19 #[.pointer (some ⟨lb, 0, none⟩)] w fun e w' => e = .returned (.int .i64 n) ∧ w = w' := by
  have hm := lgMade_any c5 hn
  clear hn
  go_enter Tryz.func19, Tryz.ntmps19
  go_wp2_with (go_at_call 32; refine hm.mono ?_; rintro e w' ⟨rfl, rfl⟩)
  go_ret
  exact ⟨rfl, rfl⟩
theorem lgLast_any {w : World} {lb g off k cap : Nat} (c5 : w.cell? ⟨lb, 5, none⟩ = some (.slice (some ⟨g, off, none⟩) (k + 1) cap)) (hk : k < 1000000) :
    Calls Tryz.prog 46 #[.pointer (some ⟨lb, 0, none⟩)] w fun e w' => e = .returned (.pointer (some ⟨g, off + k * 11, none⟩)) ∧ Read w w' := by
  have mixed := mixed
  have a1 : IntKind.i64.wrap ((k + 1 : Nat) - 1 : Int) = (k : Int) := by rw [IntWalk.i64_in _ (by omega)]; omega
  have a2 : (0 : Int) ≤ (k : Int) := by omega
  have a3 : (k : Int) < ((k + 1 : Nat) : Int) := by omega
  go_enter Tryz.func46, Tryz.ntmps46
  go_wp2_with fail
  go_quiet (fail)
  go_wp2
  go_ret
  exact ⟨rfl, Read.drew _ _⟩
end Go.Proofs.YtminfmjgmmkaoaaGreatDoor
namespace Go.Proofs.YtminfmjgmmkaoaaGreatDoor
open Go.ChangeShapes Go.WideShapes Go.ChangeAt Go.Shelf Go.RowKit Go.Lib Go.Sort Go.Deep
set_option linter.unusedVariables false
set_option maxRecDepth 4000

theorem cmpK_ne {a b : K} (h : a ≠ b) : cmpK a b ≠ 0 := by
  obtain ⟨t, f, s⟩ := a
  obtain ⟨t', f', s'⟩ := b
  unfold cmpK sgn
  simp only [ne_eq, K.mk.injEq, not_and] at h ⊢
  repeat' split
  all_goals first | omega | (exfalso; apply h <;> omega) | skip
theorem cmpK_self (a : K) : cmpK a a = 0 := by simp [cmpK, sgn]
theorem eBefore_any (a b : M) (w : World) : Calls Tryz.prog 75 #[a.val, b.val] w fun e w' => e = .returned (.bool (ltM a b)) ∧ Read w w' := by
  have he := fun w => neqK a.k b.k w
  by_cases h : a.k = b.k
  · have hd : decide (a.k = b.k) = true := by simpa using h
    have hr : ltM a b = decide (a.u < b.u) := by simp [ltM, h, cmpK_self]
    rw [hd] at he
    rw [hr]
    clear h hd hr
    obtain ⟨⟨t, f, s⟩, to0, v, u, an⟩ := a
    obtain ⟨⟨t', f', s'⟩, to1, v', u', an'⟩ := b
    simp only [K.val, M.val, Bool.not_true] at he ⊢
    go_enter Tryz.func75, Tryz.ntmps75
    go_wp2
    go_ret
    exact ⟨rfl, Read.alloc _ (Read.mk _ _)⟩
  · have hd : decide (a.k = b.k) = false := by simpa using h
    have hr : ltM a b = decide (cmpK a.k b.k < 0) := by simp [ltM, cmpK_ne h]
    have hcon := fun w => eCompare_any a.k b.k w
    rw [hd] at he
    rw [hr]
    clear h hd hr
    generalize cmpK a.k b.k = r at hcon ⊢
    obtain ⟨⟨t, f, s⟩, to0, v, u, an⟩ := a
    obtain ⟨⟨t', f', s'⟩, to1, v', u', an'⟩ := b
    simp only [K.val, M.val, Bool.not_false] at he hcon ⊢
    go_enter Tryz.func75, Tryz.ntmps75
    go_wp2_with (go_at_call 85; refine (hcon _).mono ?_; rintro e w' ⟨rfl, hr⟩)
    go_ret
    exact ⟨rfl, Read.alloc _ (Read.alloc _ hr)⟩


/-- The block of a message of the call's own. -/
def z7 : Array Value := #[.int .i64 0, .int .i64 0, .int .i64 0, .int .i64 0, .int .i64 0, .int .i64 0, .bool false]
theorem z7_one : z7.all (·.oneCell') = true := by simp [z7, Value.oneCell']
theorem M.cells_one (m : M) : m.cells.all (·.oneCell') = true := by simp [M.cells, Value.oneCell']
theorem infoM7 : (Tryz.prog.info? 42).map (·.size) = some 7 := by kernel_rfl
set_option maxHeartbeats 2000000 in
theorem lgLastM_none {w : World} {lb n cap : Nat} {a : Option Addr} (c5 : w.cell? ⟨lb, 5, none⟩ = some (.slice a n cap)) (hn : 0 < n) (c6 : w.cell? ⟨lb, 6, none⟩ = some (.int .i64 0)) :
    Calls Tryz.prog 80 #[.pointer (some ⟨lb, 0, none⟩)] w fun e w' => e = .returned (.tuple #[.agg z7, .bool false]) ∧ Below w.heap.size w w' := by
  have hb : ∀ o, Below w.heap.size w (w.alloc o) := fun o => (Below.refl _ w).alloc (Nat.le_refl _) o
  have hlt : lb < w.heap.size := World.block_lt_of_cell? w ⟨lb, 5, none⟩ c5
  have hm := fun o => lgLen_any (w := w.alloc o) (((hb o).cell (p := ⟨lb, 5, none⟩) hlt).trans c5) hn (((hb o).cell (p := ⟨lb, 6, none⟩) hlt).trans c6)
  have hz0 := heap_alloc_new w (.cells z7 42)
  simp only [z7] at hz0
  have hz0' := Lib.hid hz0
  clear c5 c6 hn hlt hz0
  go_enter Tryz.func80, Tryz.ntmps80
  go_wp2_with fail
  refine (hm _).mono ?_
  rintro e w' ⟨rfl, rfl⟩
  have hB0 := Lib.hid (hb (.cells z7 42))
  simp only [z7] at hB0
  clear hm hb
  generalize w.alloc (.cells #[.int .i64 0, .int .i64 0, .int .i64 0, .int .i64 0, .int .i64 0, .int .i64 0, .bool false] 42) = W1 at *
  go_wp2_with (refine wpList_store_row rfl 42 (.tmp 2) (.tmp 8) rfl w.heap.size z7 rfl rfl 42 z7 hz0'.out infoM7 rfl z7_one ?_)
  have hz3 := setRow_heap (new := z7) hz0'.out
  have hB := Lib.hid (below_row hB0.out (g := w.heap.size) (Nat.le_refl _) z7)
  generalize W1.setRow w.heap.size z7 = W3 at *
  obtain ⟨q0, q1, q2, q3, q4, q5, q6⟩ := row7 hz3
  clear hz3
  go_wp2
  exact bodyPost_ret (v := .tuple #[.agg z7, .bool false]) (by simp [results, Tryz.results80, go_sem, z7, q0, q1, q2, q3, q4, q5, q6]) rfl ⟨rfl, hB.out⟩
set_option maxHeartbeats 4000000 in
theorem lgLastM_some {w : World} {lb g off k cap h o2 j c2 : Nat} {z : Int} {m : M} (c5 : w.cell? ⟨lb, 5, none⟩ = some (.slice (some ⟨g, off, none⟩) (k + 1) cap)) (hk : k < 1000000) (c6 : w.cell? ⟨lb, 6, none⟩ = some (.int .i64 z)) (hz : z ≠ 0)
    (cs : w.cell? ⟨g, off + k * 11 + 10, none⟩ = some (.slice (some ⟨h, o2, none⟩) (j + 1) c2)) (hj : j < 1000000) (hM : MsgAt w h (o2 + j * 9) m) :
    Calls Tryz.prog 80 #[.pointer (some ⟨lb, 0, none⟩)] w fun e w' => e = .returned (.tuple #[m.val, .bool true]) ∧ Below w.heap.size w w' := by
  have mixed := mixed
  have hb : ∀ o, Below w.heap.size w (w.alloc o) := fun o => (Below.refl _ w).alloc (Nat.le_refl _) o
  have hlt : lb < w.heap.size := World.block_lt_of_cell? w ⟨lb, 5, none⟩ c5
  have hgt : g < w.heap.size := World.block_lt_of_cell? w ⟨g, _, none⟩ cs
  have hm := fun o => lgLen_any (w := w.alloc o) (((hb o).cell (p := ⟨lb, 5, none⟩) hlt).trans c5) (Nat.succ_pos k) (((hb o).cell (p := ⟨lb, 6, none⟩) hlt).trans c6)
  have hl := fun o => lgLast_any (w := w.alloc o) (((hb o).cell (p := ⟨lb, 5, none⟩) hlt).trans c5) hk
  have hz' : (z == 0) = false := by simpa using hz
  obtain ⟨⟨t, f, q⟩, to', vv, u, an⟩ := m
  have hcs := Lib.hid cs
  have hM' := Lib.hid hM
  have hz0 := heap_alloc_new w (.cells z7 42)
  clear c5 c6 hz hM cs
  simp only [z7] at hz0
  have hz0' := Lib.hid hz0
  clear hz0
  go_enter Tryz.func80, Tryz.ntmps80
  go_wp2_with fail
  refine (hm _).mono ?_
  rintro e w' ⟨rfl, rfl⟩
  go_wp2_with fail
  refine (hl _).mono ?_
  rintro e w2 ⟨rfl, hr⟩
  have hb2 := Lib.hid ((hb (.cells z7 42)).trans (hr.below.mono (by simp)))
  have c10 : w2.cell? ⟨g, off + k * 11 + 10, none⟩ = some (.slice (some ⟨h, o2, none⟩) (j + 1) c2) := (hb2.out.cell (p := ⟨g, off + k * 11 + 10, none⟩) hgt).trans hcs.out
  have hz2 : w2.heap[w.heap.size]? = some (.cells z7 42 (0, 0)) := (hr.below.block _ (by simp)).trans hz0'.out
  obtain ⟨-, m0, m1, m2, m3, m4, m5, m6⟩ := hM'.out.below hb2.out
  have a1 : IntKind.i64.wrap ((j + 1 : Nat) - 1 : Int) = (j : Int) := by rw [IntWalk.i64_in _ (by omega)]; omega
  have a2 : (0 : Int) ≤ (j : Int) := by omega
  have a3 : (j : Int) < ((j + 1 : Nat) : Int) := by omega
  clear hm hl hr hz0'
  go_wp2_with (refine wpList_store_row rfl 42 (.tmp 2) (.tmp 20) rfl w.heap.size (M.cells ⟨⟨t, f, q⟩, to', vv, u, an⟩) rfl rfl 42 z7 hz2 infoM7 rfl (M.cells_one _) ?_)
  have hz3 := setRow_heap (new := M.cells ⟨⟨t, f, q⟩, to', vv, u, an⟩) hz2
  have hB := Lib.hid (below_row hb2.out (g := w.heap.size) (Nat.le_refl _) (M.cells ⟨⟨t, f, q⟩, to', vv, u, an⟩))
  generalize w2.setRow w.heap.size (M.cells ⟨⟨t, f, q⟩, to', vv, u, an⟩) = W3 at *
  obtain ⟨q0, q1, q2, q3, q4, q5, q6⟩ := row7 hz3
  clear hz3 hz2 m0 m1 m2 m3 m4 m5 m6 c10
  go_wp2
  exact bodyPost_ret (v := .tuple #[M.val ⟨⟨t, f, q⟩, to', vv, u, an⟩, .bool true]) (by simp [results, Tryz.results80, go_sem, M.val, q0, q1, q2, q3, q4, q5, q6]) rfl ⟨rfl, hB.out⟩
end Go.Proofs.YtminfmjgmmkaoaaGreatDoor
namespace Go.Proofs.YtminfmjgmmkaoaaGreatDoor
open Go.ChangeShapes Go.WideShapes Go.ChangeAt Go.Shelf Go.RowKit Go.Lib Go.Sort Go.Deep
set_option linter.unusedVariables false
set_option maxRecDepth 4000

/-- The last event, or none. -/
def LastIs (w : World) (lb : Nat) : Option M → Prop
  | none => ∀ w', Below w.heap.size w w' → Calls Tryz.prog 80 #[.pointer (some ⟨lb, 0, none⟩)] w' fun e w2 => e = .returned (.tuple #[.agg z7, .bool false]) ∧ Below w'.heap.size w' w2
  | some m => ∀ w', Below w.heap.size w w' → Calls Tryz.prog 80 #[.pointer (some ⟨lb, 0, none⟩)] w' fun e w2 => e = .returned (.tuple #[m.val, .bool true]) ∧ Below w'.heap.size w' w2
theorem LastIs.below {w w' : World} {lb : Nat} {l : Option M} (h : LastIs w lb l) (hb : Below w.heap.size w w') : LastIs w' lb l := by
  cases l with
  | none => exact fun w2 h2 => h w2 (hb.trans (h2.mono hb.size))
  | some m => exact fun w2 h2 => h w2 (hb.trans (h2.mono hb.size))
def followsB (l : Option M) (m : M) : Bool := match l with
  | none => true
  | some x => ltM x m
set_option maxHeartbeats 4000000 in
theorem lgFollows_any {w : World} {lb : Nat} {l : Option M} {m : M} (h : LastIs w lb l) :
    Calls Tryz.prog 63 #[.pointer (some ⟨lb, 0, none⟩), m.val] w fun e w' => e = .returned (.bool (followsB l m)) ∧ Below w.heap.size w w' := by
  have hb : ∀ o, Below w.heap.size w (w.alloc o) := fun o => (Below.refl _ w).alloc (Nat.le_refl _) o
  have hz := heap_alloc_new w (.cells m.cells 42)
  cases l with
  | none =>
    have hc := fun o => h (w.alloc o) (hb o)
    have hb1 := Lib.hid (hb (.cells m.cells 42))
    clear h hb
    obtain ⟨⟨t, f, q⟩, to', vv, u, an⟩ := m
    simp only [M.val, M.cells, followsB] at *
    have hz' := Lib.hid hz
    clear hz
    go_enter Tryz.func63, Tryz.ntmps63
    go_wp2_with fail
    refine (hc _).mono ?_
    rintro e w1 ⟨rfl, hb2⟩
    have hB := Lib.hid (hb1.out.trans (hb2.mono (by simp)))
    have hz2 := heap_alloc_new w1 (.cells z7 42)
    simp only [z7] at hz2
    have hz2' := Lib.hid hz2
    have hB1 := Lib.hid (hB.out.alloc hB.out.size (.cells z7 42))
    simp only [z7] at hB1
    have hsz := hB.out.size
    clear hc hb2 hz2 hB
    simp only [z7]
    go_upto_region 2 with (refine wpList_store_row rfl 42 (.tmp 5) (.tmp 10) rfl w1.heap.size z7 rfl rfl 42 z7 hz2'.out infoM7 rfl z7_one ?_)
    have hB3 := Lib.hid (below_row hB1.out (g := w1.heap.size) hsz z7)
    generalize (w1.alloc (.cells #[.int .i64 0, .int .i64 0, .int .i64 0, .int .i64 0, .int .i64 0, .int .i64 0, .bool false] 42)).setRow w1.heap.size z7 = W3 at *
    go_wp2
    go_ret
    exact ⟨rfl, hB3.out⟩
  | some x =>
    have hc := fun o => h (w.alloc o) (hb o)
    have hb1 := Lib.hid (hb (.cells m.cells 42))
    have hlt := fun w => eBefore_any x m w
    clear h hb
    simp only [followsB]
    generalize ltM x m = B at hlt ⊢
    obtain ⟨⟨t, f, q⟩, to', vv, u, an⟩ := m
    obtain ⟨⟨t', f', q'⟩, to1, vv', u', an'⟩ := x
    simp only [M.val, M.cells] at *
    have hz' := Lib.hid hz
    clear hz
    go_enter Tryz.func63, Tryz.ntmps63
    go_wp2_with fail
    refine (hc _).mono ?_
    rintro e w1 ⟨rfl, hb2⟩
    have hB := Lib.hid (hb1.out.trans (hb2.mono (by simp)))
    have hz1 := Lib.hid ((hb2.block w.heap.size (by simp)).trans hz'.out)
    have hz2 := heap_alloc_new w1 (.cells z7 42)
    simp only [z7] at hz2
    have hz2' := Lib.hid hz2
    have hB1 := Lib.hid (hB.out.alloc hB.out.size (.cells z7 42))
    simp only [z7] at hB1
    have hsz := hB.out.size
    have hlt1 : w.heap.size < w1.heap.size := (Array.getElem?_eq_some_iff.1 hz1.out).1
    clear hc hb2 hz2 hB hz'
    go_upto_region 2 with (refine wpList_store_row rfl 42 (.tmp 5) (.tmp 10) rfl w1.heap.size #[.int .i64 t', .int .i64 f', .int .i64 q', .int .i64 to1, .int .i64 vv', .int .i64 u', .bool an'] rfl rfl 42 z7 hz2'.out infoM7 rfl (M.cells_one ⟨⟨t', f', q'⟩, to1, vv', u', an'⟩) ?_)
    have hB3 := Lib.hid (below_row hB1.out (g := w1.heap.size) hsz #[.int .i64 t', .int .i64 f', .int .i64 q', .int .i64 to1, .int .i64 vv', .int .i64 u', .bool an'])
    have hz3 := setRow_heap (new := #[.int .i64 t', .int .i64 f', .int .i64 q', .int .i64 to1, .int .i64 vv', .int .i64 u', .bool an']) hz2'.out
    have hz4 := (setRow_other (w1.alloc (.cells #[.int .i64 0, .int .i64 0, .int .i64 0, .int .i64 0, .int .i64 0, .int .i64 0, .bool false] 42)) w1.heap.size w.heap.size #[.int .i64 t', .int .i64 f', .int .i64 q', .int .i64 to1, .int .i64 vv', .int .i64 u', .bool an'] (by omega)).trans ((((Below.refl _ w1).alloc (Nat.le_refl _) _).block _ hlt1).trans hz1.out)
    generalize (w1.alloc (.cells #[.int .i64 0, .int .i64 0, .int .i64 0, .int .i64 0, .int .i64 0, .int .i64 0, .bool false] 42)).setRow w1.heap.size #[.int .i64 t', .int .i64 f', .int .i64 q', .int .i64 to1, .int .i64 vv', .int .i64 u', .bool an'] = W3 at *
    obtain ⟨x0, x1, x2, x3, x4, x5, x6⟩ := row7 hz3
    obtain ⟨y0, y1, y2, y3, y4, y5, y6⟩ := row7 hz4
    clear hz3 hz4 hz1 hz2' hB1
    go_wp2_with (go_at_call 75; refine (hlt _).mono ?_; rintro e w' ⟨rfl, hr⟩)
    go_ret
    exact ⟨rfl, hB3.out.trans (hr.below.mono hB3.out.size)⟩
end Go.Proofs.YtminfmjgmmkaoaaGreatDoor
namespace Go.Proofs.YtminfmjgmmkaoaaGreatDoor
open Go.ChangeShapes Go.WideShapes Go.ChangeAt Go.Shelf Go.RowKit Go.Lib Go.Sort Go.Deep
set_option linter.unusedVariables false
set_option maxRecDepth 4000

def refP (m : M) (stuck : Bool) : Int := if chkM m ≠ 0 ∨ m.anti = true then 1 else if stuck then 5 else 0
set_option maxHeartbeats 4000000 in
theorem lgRefusal_any {w : World} {lb n cap : Nat} {a : Option Addr} {z uid : Int} {stuck : Bool} {l : Option M} {m : M} (c5 : w.cell? ⟨lb, 5, none⟩ = some (.slice a n cap)) (hn : 0 < n) (c6 : w.cell? ⟨lb, 6, none⟩ = some (.int .i64 z)) (hz : z < 16384)
    (c17 : w.cell? ⟨lb, 17, none⟩ = some (.bool stuck)) (hl : LastIs w lb l) (hf : followsB l m = true) (hu : lcountB uid = true) :
    Calls Tryz.prog 42 #[.pointer (some ⟨lb, 0, none⟩), m.val, .int .i64 uid] w fun e w' => e = .returned (.int .i64 (refP m stuck)) ∧ Below w.heap.size w w' := by
  have hb : ∀ o, Below w.heap.size w (w.alloc o) := fun o => (Below.refl _ w).alloc (Nat.le_refl _) o
  have hlt : lb < w.heap.size := World.block_lt_of_cell? w ⟨lb, 5, none⟩ c5
  have hm := fun o => lgMade_any (w := w.alloc o) (((hb o).cell (p := ⟨lb, 5, none⟩) hlt).trans c5) hn
  have hck := fun w => eCheck_any m w
  have hbx := heap_alloc_new w (.cells m.cells 42)
  have hB1 := Lib.hid (hb (.cells m.cells 42))
  have hcu := fun w => lgIsCount_any uid w
  rw [hu] at hcu
  have hfo := Lib.hid (fun (w' : World) (h : Below w.heap.size w w') => lgFollows_any (w := w') (m := m) (hl.below h))
  have c6' := Lib.hid (fun (w' : World) (h : Below w.heap.size w w') => (h.cell (p := ⟨lb, 6, none⟩) hlt).trans c6)
  have c17' := Lib.hid (fun (w' : World) (h : Below w.heap.size w w') => (h.cell (p := ⟨lb, 17, none⟩) hlt).trans c17)
  by_cases h1 : chkM m ≠ 0
  · have hr : refP m stuck = 1 := by simp [refP, h1]
    rw [hr]
    have h1' : (chkM m != 0) = true := by simpa using h1
    generalize chkM m = cm at *
    clear hr h1 c5 c6 c17 hn hz hl hf hu hcu hb hfo c6' c17'
    obtain ⟨⟨t, f, q⟩, to', vv, u, an⟩ := m
    simp only [M.val, M.cells] at *
    obtain ⟨x0, x1, x2, x3, x4, x5, x6⟩ := row7 hbx
    clear hbx
    go_enter Tryz.func42, Tryz.ntmps42
    go_wp2_with (first | (go_at_call 32; refine (hm _).mono ?_; rintro e w' ⟨rfl, rfl⟩) | (go_at_call 21; refine (hck _).mono ?_; rintro e w' ⟨rfl, hrd⟩))
    go_ret
    exact ⟨rfl, hB1.out.trans (hrd.below.mono (by simp))⟩
  · have h1 : chkM m = 0 := by simpa using h1
    by_cases h2 : m.anti = true
    · have hr : refP m stuck = 1 := by simp [refP, h2]
      rw [hr]
      rw [h1] at hck
      clear hr h1 c5 c6 c17 hn hz hl hf hu hcu hb hfo c6' c17'
      obtain ⟨⟨t, f, q⟩, to', vv, u, an⟩ := m
      simp only at h2
      subst h2
      simp only [M.val, M.cells] at *
      have hbx' := Lib.hid hbx
      obtain ⟨x0, x1, x2, x3, x4, x5, x6⟩ := row7 hbx
      clear hbx
      go_enter Tryz.func42, Tryz.ntmps42
      go_wp2_with fail
      refine (hm _).mono ?_
      rintro e w' ⟨rfl, rfl⟩
      go_wp2_with fail
      refine (hck _).mono ?_
      rintro e w1 ⟨rfl, hrd⟩
      have hb2 := hrd.below
      have hB2 := Lib.hid (hB1.out.trans (hb2.mono (by simp)))
      obtain ⟨y0, y1, y2, y3, y4, y5, y6⟩ := row7 ((hb2.block w.heap.size (by simp)).trans hbx'.out)
      clear x0 x1 x2 x3 x4 x5 x6 hbx' hrd hb2
      go_wp2
      go_ret
      exact ⟨rfl, hB2.out⟩
    · have h2 : m.anti = false := by simpa using h2
      have hr : refP m stuck = if stuck then 5 else 0 := by simp [refP, h1, h2]
      rw [hr]
      rw [h1] at hck
      rw [hf] at hfo
      clear hr h1 c5 c6 c17 hn hl hf hu hb
      obtain ⟨⟨t, f, q⟩, to', vv, u, an⟩ := m
      simp only at h2
      subst h2
      simp only [M.val, M.cells] at *
      have hbx' := Lib.hid hbx
      obtain ⟨x0, x1, x2, x3, x4, x5, x6⟩ := row7 hbx
      clear hbx
      cases stuck
      all_goals
        simp only [if_true, Bool.false_eq_true, if_false]
        go_enter Tryz.func42, Tryz.ntmps42
        go_wp2_with fail
        refine (hm _).mono ?_
        rintro e w' ⟨rfl, rfl⟩
        go_wp2_with fail
        refine (hck _).mono ?_
        rintro e w1 ⟨rfl, hrd⟩
        have hb2 := hrd.below
        have hB2 := Lib.hid (hB1.out.trans (hb2.mono (by simp)))
        obtain ⟨y0, y1, y2, y3, y4, y5, y6⟩ := row7 ((hb2.block w.heap.size (by simp)).trans hbx'.out)
        clear x0 x1 x2 x3 x4 x5 x6 hbx' hrd hb2 hm hck hB1
        go_wp2_with fail
        refine (hcu _).mono ?_
        rintro e w' ⟨rfl, rfl⟩
        go_wp2_with fail
        refine (hfo.out _ hB2.out).mono ?_
        rintro e w2 ⟨rfl, hb3⟩
        have hB3 := Lib.hid (hB2.out.trans (hb3.mono hB2.out.size))
        have d6 := c6'.out _ hB3.out
        have d17 := c17'.out _ hB3.out
        have hz' : ¬ (16384 ≤ z) := by omega
        clear y0 y1 y2 y3 y4 y5 y6 hb3 hB2 hfo c6' c17' hcu
        go_wp2
        go_ret
        exact ⟨rfl, hB3.out⟩
end Go.Proofs.YtminfmjgmmkaoaaGreatDoor
namespace Go.Proofs.YtminfmjgmmkaoaaGreatDoor
open Go.ChangeShapes Go.WideShapes Go.ChangeAt Go.Shelf Go.RowKit Go.Lib Go.Sort Go.Deep
set_option linter.unusedVariables false
set_option maxRecDepth 4000
set_option linter.unusedSimpArgs false

/-- Whether a kept message fits the one that is sent. -/
def fitB (m k : M) : Bool := decide (k.k = m.k) && (decide (k.to = m.to) && decide (k.v = m.v))
def nameL (kept : List M) : List M → Int → List M
  | [], _ => []
  | m :: ms, u => match kept.find? (fitB m) with
    | some k => { m with u := k.u } :: nameL kept ms u
    | none => { m with u := u } :: nameL kept ms (u + 1)
def nameU (kept : List M) : List M → Int → Int
  | [], u => u
  | m :: ms, u => match kept.find? (fitB m) with
    | some _ => nameU kept ms u
    | none => nameU kept ms (u + 1)
theorem nameL_length (kept : List M) : ∀ (ms : List M) (u : Int), (nameL kept ms u).length = ms.length
  | [], _ => rfl
  | m :: ms, u => by
    unfold nameL
    split <;> simp [nameL_length kept ms]
theorem nameL_snoc (kept : List M) (m : M) : ∀ (l : List M) (u : Int), nameL kept (l ++ [m]) u = nameL kept l u ++ [match kept.find? (fitB m) with
    | some k => { m with u := k.u }
    | none => { m with u := nameU kept l u }]
  | [], u => by
    simp only [List.nil_append, nameL, nameU]
    split <;> first | rfl | simp [nameL]
  | x :: l, u => by
    simp only [List.cons_append, nameL, nameU]
    split
    · rw [nameL_snoc kept m l]; rfl
    · rw [nameL_snoc kept m l]; rfl
theorem nameU_snoc (kept : List M) (m : M) : ∀ (l : List M) (u : Int), nameU kept (l ++ [m]) u = match kept.find? (fitB m) with
    | some k => nameU kept l u
    | none => nameU kept l u + 1
  | [], u => by
    simp only [List.nil_append, nameU]
  | x :: l, u => by
    simp only [List.cons_append, nameU]
    split
    · rw [nameU_snoc kept m l]
    · rw [nameU_snoc kept m l]
theorem nameU_rng (kept : List M) : ∀ (l : List M) (u : Int), u ≤ nameU kept l u ∧ nameU kept l u ≤ u + l.length
  | [], u => by simp [nameU]
  | x :: l, u => by
    unfold nameU
    split
    · have := nameU_rng kept l u
      simp only [List.length_cons]; omega
    · have := nameU_rng kept l (u + 1)
      simp only [List.length_cons]; omega

theorem name1_core {w : World} {B : Nat} {t f q to' vv u : Int} {an : Bool} {t1 f1 q1 to1 v1 u1 : Int} {an1 : Bool} (hx : w.heap[B]? = some (.cells (M.cells ⟨⟨t, f, q⟩, to', vv, u, an⟩) 42 (0, 0)))
    (b1 b2 b3 : Bool) (h1 : decide ((⟨t1, f1, q1⟩ : K) = ⟨t, f, q⟩) = b1) (h2 : (to1 == to') = b2) (h3 : (v1 == vv) = b3) :
    Calls Tryz.prog 68 #[M.val ⟨⟨t1, f1, q1⟩, to1, v1, u1, an1⟩, .pointer (some ⟨B, 0, none⟩)] w fun e w' => e = .returned (.bool (b1 && (b2 && b3))) ∧ Below w.heap.size w w' := by
  have hlt : B < w.heap.size := (Array.getElem?_eq_some_iff.1 hx).1
  have hb : ∀ o, Below w.heap.size w (w.alloc o) := fun o => (Below.refl _ w).alloc (Nat.le_refl _) o
  have hek := fun w => eqlK ⟨t1, f1, q1⟩ ⟨t, f, q⟩ w
  rw [h1] at hek
  have hr := fun o => row7 (((hb o).block B hlt).trans hx)
  simp only [forall_and] at hr
  obtain ⟨x0, x1, x2, x3, x4, x5, x6⟩ := hr
  clear h1 hx
  simp only [K.val, M.val] at *
  cases b1 <;> cases b2 <;> cases b3
  all_goals
    simp only [Bool.true_and, Bool.false_and, Bool.and_self, Bool.and_true, Bool.and_false]
    go_enter Tryz.func68, Tryz.ntmps68
    go_wp2
    go_ret
    exact ⟨rfl, hb _⟩
theorem name1_any {w : World} {B : Nat} {m k : M} (hx : w.heap[B]? = some (.cells m.cells 42 (0, 0))) :
    Calls Tryz.prog 68 #[k.val, .pointer (some ⟨B, 0, none⟩)] w fun e w' => e = .returned (.bool (fitB m k)) ∧ Below w.heap.size w w' := by
  obtain ⟨⟨t, f, q⟩, to', vv, u, an⟩ := m
  obtain ⟨⟨t1, f1, q1⟩, to1, v1, u1, an1⟩ := k
  exact name1_core hx _ _ _ rfl (by by_cases h : to1 = to' <;> simp [h]) (by by_cases h : v1 = vv <;> simp [h])

/-- None of the first k fits. -/
def NoFit (m : M) (ms : List M) (k : Nat) : Prop := ∀ j, j < k → fitB m (ms.getD j default) = false
/-- The place of the first that fits, or -1. -/
def fitAt (m : M) (ms : List M) (z : Int) : Prop := (z = -1 ∧ NoFit m ms ms.length) ∨ ∃ k : Nat, k < ms.length ∧ z = (k : Int) ∧ NoFit m ms k ∧ fitB m (ms.getD k default) = true
theorem find_none {m : M} {ms : List M} (h : NoFit m ms ms.length) : ms.find? (fitB m) = none := by
  rw [List.find?_eq_none]
  intro x hx
  obtain ⟨i, hi, rfl⟩ := List.getElem_of_mem hx
  have := h i hi
  simp [List.getD_eq_getElem?_getD, hi] at this
  simp [this]
theorem find_some {m : M} : ∀ {ms : List M} {k : Nat}, k < ms.length → NoFit m ms k → fitB m (ms.getD k default) = true → ms.find? (fitB m) = some (ms.getD k default)
  | [], k, h, _, _ => by simp at h
  | x :: ms, 0, h, _, hf => by
    simp only [List.getD_cons_zero] at hf ⊢
    rw [List.find?_cons_of_pos hf]
  | x :: ms, k + 1, h, hn, hf => by
    have h0 := hn 0 (by omega)
    simp only [List.getD_cons_zero] at h0
    simp only [List.getD_cons_succ] at hf ⊢
    rw [List.find?_cons_of_neg (by simp [h0])]
    exact find_some (by simpa using h) (fun j hj => by have := hn (j + 1) (by omega); simpa using this) hf
set_option maxHeartbeats 4000000 in
theorem indexMsg_any {w : World} {a : Option Addr} {len cap B : Nat} {ms : List M} {m : M} (h : Mgs w a len cap ms) (hx : w.heap[B]? = some (.cells m.cells 42 (0, 0))) :
    Calls Tryz.prog 67 #[.slice a len cap, .func (.func 68) #[] #[.pointer (some ⟨B, 0, none⟩)]] w fun e w' => ∃ z, e = .returned (.int .i64 z) ∧ Aside (fitAt m ms z ∧ Below w.heap.size w w') := by
  have hmx : len ≤ 9223372036854775807 := by have := h.2.1; have := h.2.2.1; unfold maxLen at *; omega
  have hlt : B < w.heap.size := (Array.getElem?_eq_some_iff.1 hx).1
  have hL := Lib.hid h
  have hx' := Lib.hid hx
  clear h hx
  go_enter Tryz.func67, Tryz.ntmps67
  go_wp2_with fail
  go_loopw [8] (fun i wr => ∃ k : Nat, k ≤ len ∧ i = .int .i64 k ∧ Aside (Below w.heap.size w wr ∧ NoFit m ms k)) (fun i _ => len - (intOf i).toNat)
  case atStart => exact ⟨0, Nat.zero_le _, rfl, Below.refl _ _, fun j hj => by omega⟩
  case round =>
    obtain ⟨k, hk, rfl, hrk, hup⟩ := hrel
    have hln : Hid (ms.length = len) := Lib.hid hL.out.1
    by_cases hlt2 : k < len
    · obtain ⟨b, off, rfl, hm⟩ : ∃ b off, a = some ⟨b, off, none⟩ ∧ ∀ j, j < len → MsgAt w b (off + j * 7) (ms.getD j default) := by
        rcases hL.out.2.2.2 with h0 | h1
        · omega
        · exact h1
      have hm' := (hm k hlt2).below hrk
      clear hm
      have hcon := name1_any (w := wr) (k := ms.getD k default) ((hrk.block B hlt).trans hx'.out)
      have hrk' := Lib.hid hrk
      have hup' := Lib.hid hup
      clear hrk hup
      cases hb : fitB m (ms.getD k default) with
      | true =>
        rw [hb] at hcon
        have hb' := Lib.hid hb
        clear hb
        generalize hl : ms.getD k default = l at hm' hcon
        have hl' := Lib.hid hl
        clear hl
        obtain ⟨⟨t, f, q⟩, to', vv, u, an⟩ := l
        obtain ⟨-, x0, x1, x2, x3, x4, x5, x6⟩ := hm'
        simp only [M.val] at hcon x0 x1 x2 x3 x4 x5 x6
        go_wp2_with (go_at_call 68; refine hcon.mono ?_; rintro e w' ⟨rfl, hr2⟩)
        go_ret
        exact ⟨_, rfl, .inr ⟨k, by rw [hln.out]; exact hlt2, rfl, hup'.out, hb'.out⟩, hrk'.out.trans (hr2.mono hrk'.out.size)⟩
      | false =>
        rw [hb] at hcon
        have hu2 : Hid (NoFit m ms (k + 1)) := Lib.hid (fun j hj => by
          by_cases e : j = k
          · subst e; exact hb
          · exact hup'.out j (by omega))
        clear hb
        generalize hl : ms.getD k default = l at hm' hcon
        have hl' := Lib.hid hl
        clear hl
        obtain ⟨⟨t, f, q⟩, to', vv, u, an⟩ := l
        obtain ⟨-, x0, x1, x2, x3, x4, x5, x6⟩ := hm'
        simp only [M.val] at hcon x0 x1 x2 x3 x4 x5 x6
        go_wp2_with (go_at_call 68; refine hcon.mono ?_; rintro e w' ⟨rfl, hr2⟩)
        go_roundw
        case rel => exact ⟨k + 1, by omega, by go_num, hrk'.out.trans (hr2.mono hrk'.out.size), hu2.out⟩
        case measure => simp [intOf]; omega
    · obtain rfl : k = len := by omega
      have hrk' := Lib.hid hrk
      have hup' := Lib.hid hup
      clear hrk hup
      go_wp2
      go_ret
      exact ⟨_, rfl, .inl ⟨rfl, by rw [hln.out]; exact hup'.out⟩, hrk'.out⟩

/-! One cell of a row. -/
theorem RowIn.set1 {w : World} {e : TypeId} {sz g off n cap : Nat} {xs : List Value} (h : RowIn w e sz g off n cap xs) (p : Nat) (u : Value) (hp : p < xs.length) : RowIn (w.setCell ⟨g, off + p, none⟩ u) e sz g off n cap (xs.set p u) := by
  obtain ⟨cur, h0, h2, h3, h4, h5, h6⟩ := h
  have e1 : xs.length ≤ cap * sz := by rw [h5]; exact Nat.mul_le_mul_right _ h2
  refine ⟨_, Go.heap_setCell_same w g (off + p) cur e u h0, h2, h3, by simpa using h4, by simpa using h5, fun j v hj => ?_⟩
  rw [Array.getElem?_setIfInBounds]
  rw [List.getElem?_set] at hj
  by_cases hjp : p = j
  · subst hjp
    rw [if_pos rfl, if_pos (by omega)]
    simpa [hp] using hj
  · rw [if_neg hjp] at hj
    rw [if_neg (by omega)]
    exact h6 j v hj
theorem flatM_setU : ∀ (ms : List M) (k : Nat) (u : Int), k < ms.length → (flatM ms).set (k * 7 + 5) (.int .i64 u) = flatM (ms.set k { ms.getD k default with u := u })
  | [], k, u, h => by simp at h
  | m :: ms, 0, u, h => by
    simp [flatM, M.cells]
  | m :: ms, k + 1, u, h => by
    have ih := flatM_setU ms k u (by simpa using h)
    have e1 : ∀ (x : M) (l : List M), flatM (x :: l) = flatM [x] ++ flatM l := fun x l => flatM_append [x] l
    rw [e1 m ms, List.set_append_right _ _ (by rw [flatM_one]; simp; omega), show (k + 1) * 7 + 5 - (flatM [m]).length = k * 7 + 5 by rw [flatM_one]; simp; omega, ih, List.getD_cons_succ, List.set_cons_succ]
    exact (e1 _ _).symm
/-- What is named so far. -/
def namedTo (kept ms : List M) (u : Int) (k : Nat) : List M := nameL kept (ms.take k) u ++ ms.drop k
theorem namedTo_get {kept ms : List M} {u : Int} {k : Nat} (h : k < ms.length) : (namedTo kept ms u k).getD k default = ms.getD k default := by
  unfold namedTo
  have hl : (nameL kept (ms.take k) u).length = k := by rw [nameL_length]; simp; omega
  rw [List.getD_eq_getElem?_getD, List.getElem?_append_right (by omega), hl, Nat.sub_self, List.getElem?_drop, Nat.add_zero, List.getD_eq_getElem?_getD]
theorem namedTo_length {kept ms : List M} {u : Int} {k : Nat} (h : k ≤ ms.length) : (namedTo kept ms u k).length = ms.length := by
  unfold namedTo
  rw [List.length_append, nameL_length]
  simp; omega
theorem namedTo_succ {kept ms : List M} {u : Int} {k : Nat} (h : k < ms.length) (m' : M) (hm : m' = match kept.find? (fitB (ms.getD k default)) with
    | some x => { ms.getD k default with u := x.u }
    | none => { ms.getD k default with u := nameU kept (ms.take k) u }) : (namedTo kept ms u k).set k m' = namedTo kept ms u (k + 1) := by
  have hl : (nameL kept (ms.take k) u).length = k := by rw [nameL_length]; simp; omega
  have hg : ms[k]? = some (ms.getD k default) := by simp [List.getD_eq_getElem?_getD, h]
  unfold namedTo
  rw [List.set_append_right _ _ (by omega), hl, Nat.sub_self, List.take_add_one, hg]
  simp only [Option.toList_some]
  rw [nameL_snoc, ← hm]
  have hd : ms.drop k = ms.getD k default :: ms.drop (k + 1) := by
    rw [List.drop_eq_getElem_cons h]
    simp [List.getD_eq_getElem?_getD, h]
  rw [hd]
  simp
end Go.Proofs.YtminfmjgmmkaoaaGreatDoor
namespace Go.Proofs.YtminfmjgmmkaoaaGreatDoor
open Go.ChangeShapes Go.WideShapes Go.ChangeAt Go.Shelf Go.RowKit Go.Lib Go.Sort Go.Deep
set_option linter.unusedVariables false
set_option maxRecDepth 4000
set_option linter.unusedSimpArgs false

theorem msgAt_row {w : World} {g n cap : Nat} {ms : List M} (h : RowIn w 42 7 g 0 n cap (flatM ms)) (k : Nat) (hk : k < ms.length) : MsgAt w g (k * 7) (ms.getD k default) := by
  have hc : ∀ c u, c < 7 → (ms.getD k default).cells[c]? = some u → w.cell? ⟨g, k * 7 + c, none⟩ = some u := by
    intro c u hc hu
    have := h.cell (j := k * 7 + c) (u := u) (by rw [flatM_get ms k c hk hc]; exact hu)
    rwa [Nat.zero_add] at this
  exact ⟨h.lt, hc 0 _ (by omega) rfl, hc 1 _ (by omega) rfl, hc 2 _ (by omega) rfl, hc 3 _ (by omega) rfl, hc 4 _ (by omega) rfl, hc 5 _ (by omega) rfl, hc 6 _ (by omega) rfl⟩
/-- What name leaves. -/
def NameQ (w : World) (g n cap : Nat) (ms : List M) (w' : World) : Prop := RowIn w' 42 7 g 0 n cap (flatM ms) ∧ KeptOff (fun k => k = g) w w'
theorem NameQ.next {w wr : World} {g n cap : Nat} {ms ms' : List M} (h : NameQ w g n cap ms wr) {w' : World} (hb : Below wr.heap.size wr w') (k : Nat) (hk : k < ms.length) (u : Int) (he : ms.set k { ms.getD k default with u := u } = ms') (hg : g < wr.heap.size) :
    NameQ w g n cap ms' (w'.setCell ⟨g, k * 7 + 5, none⟩ (.int .i64 u)) := by
  have hR := (h.1.kept (S := fun _ => False) (.of_below hb) (fun e => e)).set1 (k * 7 + 5) (.int .i64 u) (by rw [flatM_length]; omega)
  rw [flatM_setU ms k u hk, he, Nat.zero_add] at hR
  exact ⟨hR, (h.2.trans ((KeptOff.of_below hb).mono (fun _ _ e => e))).trans ((KeptOff.set w' ⟨g, k * 7 + 5, none⟩ _).mono (fun k _ e => e))⟩
set_option maxHeartbeats 8000000 in
theorem lgName_any {w : World} {g n cap kn kc : Nat} {ka : Option Addr} {ms kept : List M} {uid : Int} (hR : RowIn w 42 7 g 0 n cap (flatM ms)) (hK : Mgs w ka kn kc kept) (hne : ∀ k, (Value.slice ka kn kc).ownBlock = some k → k ≠ g) (hu : 0 ≤ uid ∧ uid ≤ 1125899906842624) (hn : n ≤ 16384) :
    Calls Tryz.prog 45 #[.slice (some ⟨g, 0, none⟩) n cap, .slice ka kn kc, .int .i64 uid] w fun e w' => e = .returned (.tuple #[]) ∧ Aside (NameQ w g n cap (nameL kept ms uid) w') := by
  have hln : Hid (ms.length = n) := Lib.hid (by have := hR.bounds.2.2; rw [flatM_length] at this; omega)
  have hK' := Lib.hid hK
  have hne' := Lib.hid hne
  have hu' := Lib.hid hu
  have hn' := Lib.hid hn
  have hR' := Lib.hid hR
  clear hK hne hu hR
  go_enter Tryz.func45, Tryz.ntmps45
  go_wp2_with fail
  go_loopw [2, 11] (fun ui i wr => ∃ k : Nat, k ≤ n ∧ i = .int .i64 k ∧ ui = .int .i64 (nameU kept (ms.take k) uid) ∧ Aside (NameQ w g n cap (namedTo kept ms uid k) wr)) (fun _ i _ => n - (intOf i).toNat)
  case atStart => exact ⟨0, Nat.zero_le _, rfl, rfl, by simpa [namedTo, nameL] using hR'.out, KeptOff.refl _ _⟩
  case round =>
    obtain ⟨k, hk, rfl, rfl, hq⟩ := hrel
    by_cases hlt : k < n
    · have hkl : k < ms.length := by rw [hln.out]; exact hlt
      have hkl2 : k < (namedTo kept ms uid k).length := by rw [namedTo_length (by omega)]; exact hkl
      have hM := msgAt_row hq.1 k hkl2
      rw [namedTo_get hkl] at hM
      have hur := nameU_rng kept (ms.take k) uid
      have hu0 : 0 ≤ nameU kept (ms.take k) uid ∧ nameU kept (ms.take k) uid ≤ 1125899906842624 + 16384 := by
        have := hu'.out; have h2 : (ms.take k).length ≤ 16384 := by simp; omega
        omega
      have hkm := hK'.out.keptOff hq.2 (fun j e => hne'.out j e)
      have hbb : ∀ o, Below wr.heap.size wr (wr.alloc o) := fun o => (Below.refl _ wr).alloc (Nat.le_refl _) o
      have hix := indexMsg_any (w := wr.alloc (.cells (ms.getD k default).cells 42)) (B := wr.heap.size) (m := ms.getD k default) (hkm.below (hbb _)) (heap_alloc_new wr _)
      have hgl := hq.1.lt
      have hsucc := Lib.hid (fun m' hm => namedTo_succ (kept := kept) (ms := ms) (u := uid) hkl m' hm)
      have husucc : Hid (nameU kept (ms.take (k + 1)) uid = match kept.find? (fitB (ms.getD k default)) with
          | some x => nameU kept (ms.take k) uid
          | none => nameU kept (ms.take k) uid + 1) := Lib.hid (by
        have hg : ms[k]? = some (ms.getD k default) := by simp [List.getD_eq_getElem?_getD, hkl]
        rw [List.take_add_one, hg]
        exact nameU_snoc kept (ms.getD k default) (ms.take k) uid)
      have hgd : Hid ((namedTo kept ms uid k).getD k default = ms.getD k default) := Lib.hid (namedTo_get hkl)
      have hq' := Lib.hid hq
      have hkl2' := Lib.hid hkl2
      have hkm' := Lib.hid hkm
      have hbA := Lib.hid (hbb (.cells (ms.getD k default).cells 42))
      generalize hU : nameU kept (ms.take k) uid = U at *
      generalize hl : ms.getD k default = l at *
      clear hq hkl hkl2 hur hkm hU hl
      obtain ⟨⟨t, f, q⟩, to', vv, u, an⟩ := l
      obtain ⟨-, x0, x1, x2, x3, x4, x5, x6⟩ := hM
      have hbx := heap_alloc_new wr (.cells (M.cells ⟨⟨t, f, q⟩, to', vv, u, an⟩) 42)
      simp only [M.cells] at hix x0 x1 x2 x3 x4 x5 x6 hbx hbA
      clear hbx hbb
      go_wp2_with fail
      generalize wr.alloc (.cells #[.int .i64 t, .int .i64 f, .int .i64 q, .int .i64 to', .int .i64 vv, .int .i64 u, .bool an] 42) = W1 at *
      refine hix.mono ?_
      rintro e w2 ⟨z, rfl, hz⟩
      have hB2 := Lib.hid (hbA.out.trans (hz.out.2.mono hbA.out.size))
      have hz' := Lib.hid hz.out.1
      clear hix hz x0 x1 x2 x3 x4 x5 x6 hbA
      rcases hz'.out with ⟨rfl, hno⟩ | ⟨kk, hkk, rfl, hno, hfit⟩
      · have hfn := find_none hno
        rw [hfn] at husucc
        have hs1 := hsucc.out ⟨⟨t, f, q⟩, to', vv, U, an⟩ (by rw [hfn])
        have hrow := hq'.out.next (ms' := namedTo kept ms uid (k + 1)) hB2.out k hkl2'.out U (by rw [hgd.out]; exact hs1) hgl
        have hrow' := Lib.hid hrow
        have hfz : w2.frozen? ⟨g, k * 7 + 5, none⟩ = false := (hq'.out.1.kept (S := fun _ => False) (.of_below hB2.out) (fun e => e)).fz _
        have hc5 : (w2.cell? ⟨g, k * 7 + 5, none⟩).isSome = true := by
          have := ((msgAt_row (hq'.out.1.kept (S := fun _ => False) (.of_below hB2.out) (fun e => e)) k hkl2'.out)).2.2.2.2.2.2.1
          simp [this]
        obtain ⟨c5v, hc5⟩ := Option.isSome_iff_exists.1 hc5
        have hU1 : IntKind.i64.wrap (U + 1) = U + 1 := IntWalk.i64_in _ (by omega)
        clear hno hfn hs1 hrow hsucc hq' hgd hz' hkl2' hkm'
        go_wp2
        go_roundw
        case rel => exact ⟨k + 1, by omega, by go_num, by rw [husucc.out], hrow'.out⟩
        case measure => simp [intOf]; omega
      · have hfs := find_some hkk hno hfit
        rw [hfs] at husucc
        have hkn : kk < kn := by have := hkm'.out.1; omega
        obtain ⟨b, off, rfl, hm⟩ : ∃ b off, ka = some ⟨b, off, none⟩ ∧ ∀ j, j < kn → MsgAt wr b (off + j * 7) (kept.getD j default) := by
          rcases hkm'.out.2.2.2 with h0 | h1
          · omega
          · exact h1
        have hmk := (hm kk hkn).below hB2.out
        have hs1 := hsucc.out ⟨⟨t, f, q⟩, to', vv, (kept.getD kk default).u, an⟩ (by rw [hfs])
        generalize (kept.getD kk default) = kp at hmk hs1
        obtain ⟨⟨t2, f2, q2⟩, to2, v2, u2, an2⟩ := kp
        obtain ⟨-, -, -, -, -, -, y5, -⟩ := hmk
        simp only at y5 hs1
        have hrow := hq'.out.next (ms' := namedTo kept ms uid (k + 1)) hB2.out k hkl2'.out u2 (by rw [hgd.out]; exact hs1) hgl
        have hrow' := Lib.hid hrow
        have hfz : w2.frozen? ⟨g, k * 7 + 5, none⟩ = false := (hq'.out.1.kept (S := fun _ => False) (.of_below hB2.out) (fun e => e)).fz _
        have hc5 : (w2.cell? ⟨g, k * 7 + 5, none⟩).isSome = true := by
          have := ((msgAt_row (hq'.out.1.kept (S := fun _ => False) (.of_below hB2.out) (fun e => e)) k hkl2'.out)).2.2.2.2.2.2.1
          simp [this]
        obtain ⟨c5v, hc5⟩ := Option.isSome_iff_exists.1 hc5
        have hkk0 : (0 : Int) ≤ (kk : Int) := by omega
        have hkk1 : (kk : Int) < (kn : Int) := by omega
        clear hno hfit hfs hs1 hrow hsucc hq' hgd hz' hkl2' hkm' hm
        go_wp2
        go_roundw
        case rel => exact ⟨k + 1, by omega, by go_num, by rw [husucc.out], hrow'.out⟩
        case measure => simp [intOf]; omega
    · obtain rfl : k = n := by omega
      have hq' := Lib.hid hq
      have hfin : namedTo kept ms uid k = nameL kept ms uid := by
        have := hln.out
        subst this
        simp [namedTo]
      rw [hfin] at hq'
      clear hq hfin
      go_wp2
      go_end0
      exact ⟨rfl, hq'.out⟩
end Go.Proofs.YtminfmjgmmkaoaaGreatDoor
