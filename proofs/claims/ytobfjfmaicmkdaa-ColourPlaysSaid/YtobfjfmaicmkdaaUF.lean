
/-
  The program's token: what a visit comes to in plain data, the token in memory, its calls.
-/
import Derived.Test.YtobfjfmaicmkdaaUO
import Derived.Test.YtobfjfmaicmkdaaQT
namespace Go.Proofs.Ytobfjfmaicmkdaa
open Go.ChangeShapes Go.WideShapes Go.ChangeAt Go.Shelf Go.RowKit Go.Lib Go.Sort Go.Deep Col
set_option linter.unusedVariables false
set_option linter.unusedSimpArgs false
set_option maxRecDepth 4000

/-- A token: of how many, to whom it goes, is it counting, the sum, the least. -/
structure Tk where
  n : Nat
  at' : Nat
  cnt : Bool
  sum : Int
  least : Int
def Tk.new (n : Nat) : Tk := ⟨n, 0, false, 0, 4611686018427387904⟩
def Tk.ok (k : Tk) : Prop := k.at' < k.n ∧ k.n ≤ 16 ∧ -2305843009213693952 < k.sum ∧ k.sum < 2305843009213693952
def Ta.small (t : Ta) : Prop := (-2305843009213693952 < t.n0 ∧ t.n0 < 2305843009213693952) ∧ -2305843009213693952 < t.n1 ∧ t.n1 < 2305843009213693952
/-- What a visit makes of the token, of the tally; what it tells, is the round over. -/
def Tk.vis (k : Tk) (t : Ta) (l : Int) : Tk × Ta × Int × Bool :=
  if k.cnt = false then
    if k.at' + 1 = k.n then (⟨k.n, 0, true, 0, 4611686018427387904⟩, t.flip, 0, false) else (⟨k.n, k.at' + 1, false, k.sum, k.least⟩, t.flip, 0, false)
  else if k.at' + 1 = k.n then
    if k.sum + t.net (!t.c) = 0 then (⟨k.n, 0, false, 0, 4611686018427387904⟩, t, min (min k.least l) t.red, true) else (⟨k.n, 0, true, 0, 4611686018427387904⟩, t, 0, false)
  else (⟨k.n, k.at' + 1, true, k.sum + t.net (!t.c), min (min k.least l) t.red⟩, t, 0, false)
/-- What a visit turns. -/
def VStep (w w' : World) (S X S' X' : Nat → Prop) : Prop := KeptOff (fun k => S k ∨ X k) w w' ∧ (∀ k, S' k → S k ∨ w.heap.size ≤ k) ∧ (∀ k, X' k → X k ∨ w.heap.size ≤ k) ∧ ∀ k, X' k → ¬ S' k
/-- A token in memory. -/
def TkAt (w : World) (b : Nat) (X : Nat → Prop) (k : Tk) : Prop := (w.heap[b]? = some (.cells #[.int .i64 k.n, .int .i64 k.at', .int .i64 (colI k.cnt), .int .i64 k.sum, .int .i64 k.least] 68 (0, 0)) ∧ 0 < k.n) ∧ X b ∧ ∀ i, X i → i < w.heap.size
section
variable {w w' wr : World} {b tb kb : Nat} {S X Y S0 X0 : Nat → Prop} {k k' : Tk} {t : Ta}
theorem TkAt.kept (h : TkAt w b X k) (hk : KeptOff Y w w') (hn : ∀ i, X i → ¬ Y i) : TkAt w' b X k :=
  ⟨⟨(hk.block b (h.2.2 b h.2.1) (hn b h.2.1)).trans h.1.1, h.1.2⟩, h.2.1, fun i e => Nat.lt_of_lt_of_le (h.2.2 i e) hk.size⟩
theorem TkAt.below (h : TkAt w b X k) (hb : Below w.heap.size w w') : TkAt w' b X k := h.kept (Y := fun _ => False) (.of_below hb) (fun _ _ e => e)
theorem TkAt.lt (h : TkAt w b X k) {i : Nat} (hk : X i) : i < w.heap.size := h.2.2 i hk
theorem TkAt.c0 (h : TkAt w b X k) : w.cell? ⟨b, 0, none⟩ = some (.int .i64 k.n) := cell_of_block h.1.1 rfl
theorem TkAt.c1 (h : TkAt w b X k) : w.cell? ⟨b, 1, none⟩ = some (.int .i64 k.at') := cell_of_block h.1.1 rfl
theorem TkAt.c2 (h : TkAt w b X k) : w.cell? ⟨b, 2, none⟩ = some (.int .i64 (colI k.cnt)) := cell_of_block h.1.1 rfl
theorem TkAt.c3 (h : TkAt w b X k) : w.cell? ⟨b, 3, none⟩ = some (.int .i64 k.sum) := cell_of_block h.1.1 rfl
theorem TkAt.c4 (h : TkAt w b X k) : w.cell? ⟨b, 4, none⟩ = some (.int .i64 k.least) := cell_of_block h.1.1 rfl
theorem TkAt.f (h : TkAt w b X k) (o : Nat) : w.frozen? ⟨b, o, none⟩ = false := frozen_of_cells h.1.1
theorem TkAt.set (h : TkAt w b X k) (o : Nat) (v : Value) (hn : 0 < k'.n) (e : (#[.int .i64 k.n, .int .i64 k.at', .int .i64 (colI k.cnt), .int .i64 k.sum, .int .i64 k.least] : Array Value).setIfInBounds o v = #[.int .i64 k'.n, .int .i64 k'.at', .int .i64 (colI k'.cnt), .int .i64 k'.sum, .int .i64 k'.least]) : TkAt (w.setCell ⟨b, o, none⟩ v) b X k' ∧ KeptOff X w (w.setCell ⟨b, o, none⟩ v) := by
  have hk := KeptOff.set w ⟨b, o, none⟩ v
  refine ⟨⟨⟨?_, hn⟩, h.2.1, fun i e => Nat.lt_of_lt_of_le (h.2.2 i e) hk.size⟩, hk.mono (fun k _ e => by rw [e]; exact h.2.1)⟩
  have := Go.heap_setCell_same w b o _ _ v h.1.1
  rw [e] at this
  exact this
theorem coKOk_any (h : TkAt w b X k) : Calls Try.prog 32 #[.pointer (some ⟨b, 0, none⟩)] w fun e w' => e = .returned (.bool true) ∧ w = w' := by
  have c0 := h.c0
  have hp : 0 < k.n := h.1.2
  clear h
  go_enter Try.func32, Try.ntmps32
  go_wp2
  go_ret
  exact ⟨rfl, rfl⟩
theorem coAt_any (h : TkAt w b X k) : Calls Try.prog 18 #[.pointer (some ⟨b, 0, none⟩)] w fun e w' => e = .returned (.int .i64 k.at') ∧ Below w.heap.size w w' := by
  have hm := coKOk_any h
  have c1 := h.c1
  clear h
  go_enter Try.func18, Try.ntmps18
  go_wp2_with (go_at_call 32; refine hm.mono ?_; rintro e w' ⟨rfl, rfl⟩)
  go_ret
  exact ⟨rfl, Below.refl _ _⟩
theorem coCounting_any (h : TkAt w b X k) : Calls Try.prog 24 #[.pointer (some ⟨b, 0, none⟩)] w fun e w' => e = .returned (.bool k.cnt) ∧ Below w.heap.size w w' := by
  have hm := coKOk_any h
  have c2 := h.c2
  clear h
  cases hc : k.cnt with
  | true =>
    rw [hc] at c2
    simp only [colI, if_true] at c2
    go_enter Try.func24, Try.ntmps24
    go_wp2_with (go_at_call 32; refine hm.mono ?_; rintro e w' ⟨rfl, rfl⟩)
    go_ret
    exact ⟨rfl, Below.refl _ _⟩
  | false =>
    rw [hc] at c2
    simp only [colI, Bool.false_eq_true, if_false] at c2
    go_enter Try.func24, Try.ntmps24
    go_wp2_with (go_at_call 32; refine hm.mono ?_; rintro e w' ⟨rfl, rfl⟩)
    go_ret
    exact ⟨rfl, Below.refl _ _⟩
theorem coBegin_any (h : TkAt w b X k) (c : Bool) : Calls Try.prog 27 #[.pointer (some ⟨b, 0, none⟩), .int .i64 (colI c)] w fun e w' => e = .returned (.tuple #[]) ∧ Hid (TkAt w' b X ⟨k.n, k.at', c, 0, 4611686018427387904⟩ ∧ KeptOff X w w') := by
  have c2 := h.c2
  have c3 := h.c3
  have c4 := h.c4
  have f2 := h.f 2
  have f3 := h.f 3
  have f4 := h.f 4
  have h1 := h.set 2 (.int .i64 (colI c)) (k' := ⟨k.n, k.at', c, k.sum, k.least⟩) h.1.2 rfl
  have h2 := h1.1.set 3 (.int .i64 0) (k' := ⟨k.n, k.at', c, 0, k.least⟩) h.1.2 rfl
  have h3 := h2.1.set 4 (.int .i64 4611686018427387904) (k' := ⟨k.n, k.at', c, 0, 4611686018427387904⟩) h.1.2 rfl
  have hf := Lib.hid (And.intro h3.1 ((h1.2.trans h2.2).trans h3.2))
  clear h h1 h2 h3
  generalize colI c = cv at *
  go_enter Try.func27, Try.ntmps27
  go_wp2
  go_end0
  exact ⟨rfl, hf⟩
theorem coToken_yes (n : Int) (h : 1 ≤ n ∧ n ≤ 16) (w : World) : Calls Try.prog 7 #[.int .i64 n] w fun e w' => ∃ b X, e = .returned (.tuple #[.pointer (some ⟨b, 0, none⟩), .int .i64 0]) ∧ Hid (TkAt w' b X (Tk.new n.toNat) ∧ (∀ k, X k → w.heap.size ≤ k) ∧ Below w.heap.size w w') := by
  have d1 : ¬ n < 1 := by omega
  have d2 : ¬ 16 < n := by omega
  have hf : Hid (TkAt (w.alloc (.cells #[.int .i64 n, .int .i64 0, .int .i64 0, .int .i64 0, .int .i64 0] 68)) w.heap.size (fun k => k = w.heap.size) ⟨n.toNat, 0, false, 0, 0⟩ ∧ Below w.heap.size w (w.alloc (.cells #[.int .i64 n, .int .i64 0, .int .i64 0, .int .i64 0, .int .i64 0] 68))) := by
    refine ⟨⟨⟨?_, by simp only; omega⟩, rfl, fun i e => by subst e; simp⟩, (Below.refl _ w).alloc (Nat.le_refl _) _⟩
    have := heap_alloc_new w (.cells #[.int .i64 n, .int .i64 0, .int .i64 0, .int .i64 0, .int .i64 0] 68)
    rw [this]
    show _ = some (Obj.cells #[.int .i64 ((n.toNat : Nat) : Int), .int .i64 0, .int .i64 0, .int .i64 0, .int .i64 0] 68 (0, 0))
    rw [Int.toNat_of_nonneg (by omega)]
  have hbg : Hid (Calls _ _ _ _ _) := Lib.hid (coBegin_any hf.out.1 false)
  clear h
  go_enter Try.func7, Try.ntmps7
  go_wp2_with (go_at_call 27; refine hbg.out.mono ?_; rintro e w' ⟨rfl, hq⟩)
  go_ret2
  exact ⟨_, _, rfl, hq.out.1, fun k e => by omega, hf.out.2.trans (hq.out.2.below (fun k _ e => by omega) (by simp))⟩
theorem coToken_no (n : Int) (h : ¬ (1 ≤ n ∧ n ≤ 16)) (w : World) : Calls Try.prog 7 #[.int .i64 n] w fun e w' => e = .returned (.tuple #[.pointer none, .int .i64 1]) ∧ Below w.heap.size w w' := by
  by_cases h1 : n < 1
  · clear h
    go_enter Try.func7, Try.ntmps7
    go_wp2
    go_ret2
    exact ⟨rfl, Below.refl _ _⟩
  · have h2 : 16 < n := by omega
    clear h
    go_enter Try.func7, Try.ntmps7
    go_wp2
    go_ret2
    exact ⟨rfl, Below.refl _ _⟩
end
end Go.Proofs.Ytobfjfmaicmkdaa
