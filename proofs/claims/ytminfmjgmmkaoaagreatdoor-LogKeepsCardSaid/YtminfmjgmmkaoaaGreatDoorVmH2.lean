/-
  The program's running handler in memory, and how it turns; what a step leaves alone.
  The contracts of the program's instructions, one a method (but sending).
-/
import Derived.Test.YtminfmjgmmkaoaaGreatDoorVmD3
import Derived.Test.YtminfmjgmmkaoaaGreatDoorQA
import Derived.Test.YtminfmjgmmkaoaaGreatDoorVmC
import Derived.StillTailTactics
namespace Go.Proofs.YtminfmjgmmkaoaaGreatDoor
open Go.ChangeShapes Go.WideShapes Go.ChangeAt Go.RowKit Go.Sort
set_option linter.unusedVariables false
set_option maxRecDepth 4000

/-- Below b1 all is as it was, but for block x. -/
structure Kp (x b1 : Nat) (w w' : World) : Prop where
  os : w'.os = w.os
  tape : w'.tape = w.tape
  output : w'.output = w.output
  size : w.heap.size ≤ w'.heap.size
  block : ∀ k, k < b1 → k ≠ x → w'.heap[k]? = w.heap[k]?
namespace Kp
variable {x b1 : Nat} {a w w' : World}
theorem refl (x b1 : Nat) (w : World) : Kp x b1 w w := ⟨rfl, rfl, rfl, Nat.le_refl _, fun _ _ _ => rfl⟩
theorem trans {c : World} (h : Kp x b1 a w) (k : Kp x b1 w c) : Kp x b1 a c :=
  ⟨k.os.trans h.os, k.tape.trans h.tape, k.output.trans h.output, Nat.le_trans h.size k.size, fun i hi hx => (k.block i hi hx).trans (h.block i hi hx)⟩
theorem of_below (h : Below b1 w w') : Kp x b1 w w' := ⟨h.os, h.tape, h.output, h.size, fun k hk _ => h.block k hk⟩
theorem then_below (h : Kp x b1 a w) (hb : Below b1 w w') : Kp x b1 a w' := h.trans (of_below hb)
theorem set (h : Kp x b1 a w) (j : Nat) (u : Value) : Kp x b1 a (w.setCell ⟨x, j, none⟩ u) :=
  h.trans ⟨rfl, rfl, rfl, by simp [World.setCell], fun k hk hx => Below.heap_setCell _ _ _ _ (by simpa using hx)⟩
theorem drew (h : Kp x b1 a w) : Kp x b1 a w.drew := ⟨h.os, h.tape, h.output, h.size, h.block⟩
theorem below (h : Kp x b1 a w) {b0 : Nat} (h0 : b0 ≤ x) (h1 : b0 ≤ b1) : Below b0 a w := ⟨h.os, h.tape, h.output, h.size, fun k hk => h.block k (by omega) (by omega)⟩
theorem cell (h : Kp x b1 a w) {p : Addr} (h1 : p.block < b1) (h2 : p.block ≠ x) : w.cell? p = a.cell? p := World.cell?_of_block (w := a) (h.block p.block h1 h2)
end Kp
theorem six16 {r : List Int} (h : r.length = 16) : ∃ y0 y1 y2 y3 y4 y5 y6 y7 y8 y9 ya yb yc yd ye yf, r = [y0, y1, y2, y3, y4, y5, y6, y7, y8, y9, ya, yb, yc, yd, ye, yf] := by
  match r, h with
  | [y0, y1, y2, y3, y4, y5, y6, y7, y8, y9, ya, yb, yc, yd, ye, yf], _ => exact ⟨_, _, _, _, _, _, _, _, _, _, _, _, _, _, _, _, rfl⟩
theorem nat16 {j : Nat} (h : j < 16) : j = 0 ∨ j = 1 ∨ j = 2 ∨ j = 3 ∨ j = 4 ∨ j = 5 ∨ j = 6 ∨ j = 7 ∨ j = 8 ∨ j = 9 ∨ j = 10 ∨ j = 11 ∨ j = 12 ∨ j = 13 ∨ j = 14 ∨ j = 15 := by omega
/-- The cells of the program's running handler. -/
def hC (v : Wv) (W : Wd) (ev : M) (ov : Value) (m : Mc) : Array Value :=
  (([.slice v.pa v.pl v.pc, .int .i64 W.self, .slice v.la v.ll v.lc, .int .u64 W.seed, .int .i64 ev.k.t, .int .i64 ev.k.f, .int .i64 ev.k.s, .int .i64 ev.to, .int .i64 ev.v, .int .i64 ev.u, .bool ev.anti] : List Value) ++ (m.r.map (Value.int .i64 ·) ++ [.int .i64 m.pc, .int .i64 m.d, ov])).toArray
section
variable {v : Wv} {W : Wd} {ev : M} {ov : Value} {m : Mc}
theorem hC_reg (h : m.r.length = 16) (j : Nat) (hj : j < 16) : (hC v W ev ov m)[11 + j]? = some (.int .i64 (m.reg j)) := by
  obtain ⟨r, d, o, pc⟩ := m
  obtain ⟨y0, y1, y2, y3, y4, y5, y6, y7, y8, y9, ya, yb, yc, yd, ye, yf, rfl⟩ := six16 h
  rcases nat16 hj with rfl | rfl | rfl | rfl | rfl | rfl | rfl | rfl | rfl | rfl | rfl | rfl | rfl | rfl | rfl | rfl <;> rfl
theorem hC_tail (h : m.r.length = 16) : (hC v W ev ov m)[27]? = some (.int .i64 m.pc) ∧ (hC v W ev ov m)[28]? = some (.int .i64 m.d) ∧ (hC v W ev ov m)[29]? = some ov := by
  obtain ⟨r, d, o, pc⟩ := m
  obtain ⟨y0, y1, y2, y3, y4, y5, y6, y7, y8, y9, ya, yb, yc, yd, ye, yf, rfl⟩ := six16 h
  exact ⟨rfl, rfl, rfl⟩
theorem hC_put (h : m.r.length = 16) (j : Nat) (hj : j < 16) (n : Int) : (hC v W ev ov m).setIfInBounds (11 + j) (.int .i64 n) = hC v W ev ov (m.put j n) := by
  obtain ⟨r, d, o, pc⟩ := m
  obtain ⟨y0, y1, y2, y3, y4, y5, y6, y7, y8, y9, ya, yb, yc, yd, ye, yf, rfl⟩ := six16 h
  rcases nat16 hj with rfl | rfl | rfl | rfl | rfl | rfl | rfl | rfl | rfl | rfl | rfl | rfl | rfl | rfl | rfl | rfl <;> rfl
theorem hC_tails (h : m.r.length = 16) (n : Int) (u : Value) : (hC v W ev ov m).setIfInBounds 27 (.int .i64 n) = hC v W ev ov { m with pc := n } ∧ (hC v W ev ov m).setIfInBounds 28 (.int .i64 n) = hC v W ev ov { m with d := n } ∧ (hC v W ev ov m).setIfInBounds 29 u = hC v W ev u m := by
  obtain ⟨r, d, o, pc⟩ := m
  obtain ⟨y0, y1, y2, y3, y4, y5, y6, y7, y8, y9, ya, yb, yc, yd, ye, yf, rfl⟩ := six16 h
  exact ⟨rfl, rfl, rfl⟩
end
theorem heap_put {w : World} {T j : Nat} {C : Array Value} {t : TypeId} {u : Value} (h : w.heap[T]? = some (.cells C t (0, 0))) : (w.setCell ⟨T, j, none⟩ u).heap[T]? = some (.cells (C.setIfInBounds j u) t (0, 0)) := by
  simp [World.setCell, Array.getElem?_modify, h]
/-- The handler lies at x; what it sent is a slice of the call's own. -/
structure HM (b1 : Nat) (w : World) (x : Nat) (v : Wv) (W : Wd) (ev : M) (ov : Value) (m : Mc) : Prop where
  xb : x < b1
  hb : b1 ≤ w.heap.size
  hx : w.heap[x]? = some (.cells (hC v W ev ov m) 124 (0, 0))
  rl : m.r.length = 16
  own : w.ownsRow b1 129 3 ov m.o.length (flatO m.o)
namespace HM
variable {b1 : Nat} {w w' : World} {x : Nat} {v : Wv} {W : Wd} {ev : M} {ov : Value} {m : Mc}
theorem below (h : HM b1 w x v W ev ov m) (hb : Below w.heap.size w w') : HM b1 w' x v W ev ov m :=
  ⟨h.xb, Nat.le_trans h.hb hb.size, (hb.block x (Nat.lt_of_lt_of_le h.xb h.hb)).trans h.hx, h.rl, owns_below h.own hb⟩
theorem alloc (h : HM b1 w x v W ev ov m) (o : Obj) : HM b1 (w.alloc o) x v W ev ov m := h.below ((Below.refl _ _).alloc (Nat.le_refl _) o)
theorem drew (h : HM b1 w x v W ev ov m) : HM b1 w.drew x v W ev ov m := h.below (Below.refl _ _).drew
theorem xw (h : HM b1 w x v W ev ov m) : x < w.heap.size := Nat.lt_of_lt_of_le h.xb h.hb
theorem cell (h : HM b1 w x v W ev ov m) (j : Nat) {u : Value} (hj : (hC v W ev ov m)[j]? = some u) : w.cell? ⟨x, j, none⟩ = some u := by
  simp [World.cell?, h.hx, hj]
theorem fx (h : HM b1 w x v W ev ov m) (j : Nat) : w.frozen? ⟨x, j, none⟩ = false := by simp [World.frozen?, h.hx]
theorem reg (h : HM b1 w x v W ev ov m) (j : Nat) (hj : j < 16) : w.cell? ⟨x, 11 + j, none⟩ = some (.int .i64 (m.reg j)) := h.cell _ (hC_reg h.rl j hj)
theorem pc (h : HM b1 w x v W ev ov m) : w.cell? ⟨x, 27, none⟩ = some (.int .i64 m.pc) := h.cell _ (hC_tail h.rl).1
theorem d (h : HM b1 w x v W ev ov m) : w.cell? ⟨x, 28, none⟩ = some (.int .i64 m.d) := h.cell _ (hC_tail h.rl).2.1
theorem o (h : HM b1 w x v W ev ov m) : w.cell? ⟨x, 29, none⟩ = some ov := h.cell _ (hC_tail h.rl).2.2
theorem setPc (h : HM b1 w x v W ev ov m) (n : Int) : HM b1 (w.setCell ⟨x, 27, none⟩ (.int .i64 n)) x v W ev ov { m with pc := n } :=
  ⟨h.xb, by simpa [World.setCell] using h.hb, (heap_put h.hx).trans (by rw [(hC_tails h.rl n undef).1]), h.rl, ownsRow_setCell_below h.own (by simpa using h.xb) _⟩
theorem setD (h : HM b1 w x v W ev ov m) (n : Int) : HM b1 (w.setCell ⟨x, 28, none⟩ (.int .i64 n)) x v W ev ov { m with d := n } :=
  ⟨h.xb, by simpa [World.setCell] using h.hb, (heap_put h.hx).trans (by rw [(hC_tails h.rl n undef).2.1]), h.rl, ownsRow_setCell_below h.own (by simpa using h.xb) _⟩
theorem setR (h : HM b1 w x v W ev ov m) (j : Nat) (hj : j < 16) (n : Int) : HM b1 (w.setCell ⟨x, 11 + j, none⟩ (.int .i64 n)) x v W ev ov (m.put j n) :=
  ⟨h.xb, by simpa [World.setCell] using h.hb, (heap_put h.hx).trans (by rw [hC_put h.rl j hj n]), by simpa [Mc.put] using h.rl, ownsRow_setCell_below h.own (by simpa using h.xb) _⟩
theorem setO (h : HM b1 w x v W ev ov m) {ov' : Value} {o' : List Ot} {row : Option Nat} (hg : w.grownBy w' row) (hr : ∀ k, row = some k → b1 ≤ k) (hown : w'.ownsRow b1 129 3 ov' o'.length (flatO o')) :
    HM b1 (w'.setCell ⟨x, 29, none⟩ ov') x v W ev ov' { m with o := o' } := by
  have hb : Below b1 w w' := (Below.refl b1 w).grown hg h.hb hr
  have hx := (hb.block x h.xb).trans h.hx
  exact ⟨h.xb, by simpa [World.setCell] using Nat.le_trans h.hb hb.size, (heap_put hx).trans (by rw [(hC_tails h.rl 0 ov').2.2]; rfl), h.rl, ownsRow_setCell_below hown (by simpa using h.xb) _⟩
end HM
/-- The value of a fault. -/
def faultV (k : Int) : List PanicEntry := [{ v := .iface 167 (.agg #[.int .i64 k]), recovered := false }]
/-- What an instruction comes to. -/
def InsQ (b1 : Nat) (w : World) (x : Nat) (v : Wv) (W : Wd) (ev : M) (r : Res) (e : Ending) (w' : World) : Prop := match r with
  | .fault k => e = .panicked (faultV k) ∧ k ≠ 0 ∧ Kp x b1 w w'
  | .stop m' => e = .returned (.tuple #[]) ∧ ∃ ov', HM b1 w' x v W ev ov' m' ∧ Kp x b1 w w'
  | .on m' => e = .returned (.tuple #[]) ∧ ∃ ov', HM b1 w' x v W ev ov' m' ∧ Kp x b1 w w'
theorem InsQ.on {b1 : Nat} {w : World} {x : Nat} {v : Wv} {W : Wd} {ev : M} {m' : Mc} {e : Ending} {w' : World} {ov' : Value} (h : e = .returned (.tuple #[])) (hQ : HM b1 w' x v W ev ov' m' ∧ Kp x b1 w w') : InsQ b1 w x v W ev (.on m') e w' := ⟨h, ov', hQ⟩
theorem InsQ.stop {b1 : Nat} {w : World} {x : Nat} {v : Wv} {W : Wd} {ev : M} {m' : Mc} {e : Ending} {w' : World} {ov' : Value} (h : e = .returned (.tuple #[])) (hQ : HM b1 w' x v W ev ov' m' ∧ Kp x b1 w w') : InsQ b1 w x v W ev (.stop m') e w' := ⟨h, ov', hQ⟩
end Go.Proofs.YtminfmjgmmkaoaaGreatDoor
namespace Go.Proofs.YtminfmjgmmkaoaaGreatDoor
open Go.ChangeShapes Go.WideShapes Go.ChangeAt Go.RowKit Go.Sort
set_option linter.unusedVariables false
set_option maxRecDepth 4000

theorem oneIf_any (z : Bool) (w : World) : Calls Tryz.prog 110 #[.bool z] w fun e w' => e = .returned (.int .i64 (if z then 1 else 0)) ∧ w = w' := by
  cases z
  all_goals
    go_enter Tryz.func110, Tryz.ntmps110
    go_wp2
    go_ret
    exact ⟨rfl, rfl⟩
theorem InsAt.cells4 {w : World} {b : Nat} {i : I} (h : InsAt w b 0 i) : w.cell? ⟨b, 0, none⟩ = some (.int .i64 i.op) ∧ w.cell? ⟨b, 1, none⟩ = some (.int .i64 i.a) ∧ w.cell? ⟨b, 2, none⟩ = some (.int .i64 i.b) ∧ w.cell? ⟨b, 3, none⟩ = some (.int .i64 i.c) := by
  obtain ⟨-, i0, i1, i2, i3⟩ := h
  simp only [Nat.zero_add] at i1 i2 i3
  exact ⟨i0, i1, i2, i3⟩
section
variable {b1 : Nat} {w : World} {x : Nat} {v : Wv} {W : Wd} {ev : M} {ov : Value} {m : Mc}
set_option maxHeartbeats 2000000 in
theorem h_set (h : HM b1 w x v W ev ov m) (op : Int) (a : Nat) (ha : a < 16) (b : Int) (c : Int) :
    Calls Tryz.prog 88 #[.pointer (some ⟨x, 0, none⟩), .agg #[.int .i64 op, .int .i64 a, .int .i64 b, .int .i64 c]] w (InsQ b1 w x v W ev (.on (m.put a b))) := by
  have ha' : (a : Int) < 16 := by omega
  have hD1 : HM b1 ((w.alloc (.cells #[.int .i64 op, .int .i64 a, .int .i64 b, .int .i64 c] 62)).drew) x v W ev ov m := (h.alloc (.cells #[.int .i64 op, .int .i64 a, .int .i64 b, .int .i64 c] 62)).drew
  have hK1 : Kp x b1 w ((w.alloc (.cells #[.int .i64 op, .int .i64 a, .int .i64 b, .int .i64 c] 62)).drew) := Kp.of_below (((Below.refl b1 w).alloc h.hb (.cells #[.int .i64 op, .int .i64 a, .int .i64 b, .int .i64 c] 62)).drew)
  have hI1 : InsAt ((w.alloc (.cells #[.int .i64 op, .int .i64 a, .int .i64 b, .int .i64 c] 62)).drew) w.heap.size 0 ⟨op, a, b, c⟩ := (InsAt.mk w op a b c).read (Read.drew _ 1)
  have hxw := h.xw
  clear h
  go_enter Tryz.func88, Tryz.ntmps88
  go_wp2
  refine wp_region_still_tail 8 (by kernel_rfl) (by kernel_rfl) ?_
  change wpStill _ _ (w.alloc (.cells #[.int .i64 op, .int .i64 a, .int .i64 b, .int .i64 c] 62)).drew (fun a' => wpList _ _ _ _ a' ((w.alloc (.cells #[.int .i64 op, .int .i64 a, .int .i64 b, .int .i64 c] 62)).drew)) _ _
  generalize (w.alloc (.cells #[.int .i64 op, .int .i64 a, .int .i64 b, .int .i64 c] 62)).drew = W2 at *
  obtain ⟨i0, i1, i2, i3⟩ := hI1.cells4
  simp only at i0 i1 i2 i3
  have ea := hD1.reg a ha
  have fa := hD1.fx (11 + a)
  have hQ := Lib.hid (And.intro (hD1.setR a ha (b)) (hK1.set (11 + a) (.int .i64 (b))))
  clear hD1 hK1
  simp only [List.take_succ_cons, List.take_zero, List.drop_succ_cons, List.drop_zero]
  repeat still_step
  refine wpStill_nil ?_
  go_wp2
  go_end0
  first | exact InsQ.on rfl hQ.out | (rw [hC'.out]; exact InsQ.on rfl hQ.out)
set_option maxHeartbeats 2000000 in
theorem h_move (h : HM b1 w x v W ev ov m) (op : Int) (a : Nat) (ha : a < 16) (b : Nat) (hb : b < 16) (c : Int) :
    Calls Tryz.prog 89 #[.pointer (some ⟨x, 0, none⟩), .agg #[.int .i64 op, .int .i64 a, .int .i64 b, .int .i64 c]] w (InsQ b1 w x v W ev (.on (m.put a (m.reg b)))) := by
  have ha' : (a : Int) < 16 := by omega
  have hb' : (b : Int) < 16 := by omega
  have hD1 : HM b1 ((w.alloc (.cells #[.int .i64 op, .int .i64 a, .int .i64 b, .int .i64 c] 62)).drew) x v W ev ov m := (h.alloc (.cells #[.int .i64 op, .int .i64 a, .int .i64 b, .int .i64 c] 62)).drew
  have hK1 : Kp x b1 w ((w.alloc (.cells #[.int .i64 op, .int .i64 a, .int .i64 b, .int .i64 c] 62)).drew) := Kp.of_below (((Below.refl b1 w).alloc h.hb (.cells #[.int .i64 op, .int .i64 a, .int .i64 b, .int .i64 c] 62)).drew)
  have hI1 : InsAt ((w.alloc (.cells #[.int .i64 op, .int .i64 a, .int .i64 b, .int .i64 c] 62)).drew) w.heap.size 0 ⟨op, a, b, c⟩ := (InsAt.mk w op a b c).read (Read.drew _ 1)
  have hxw := h.xw
  clear h
  go_enter Tryz.func89, Tryz.ntmps89
  go_wp2
  refine wp_region_still_tail 13 (by kernel_rfl) (by kernel_rfl) ?_
  change wpStill _ _ (w.alloc (.cells #[.int .i64 op, .int .i64 a, .int .i64 b, .int .i64 c] 62)).drew (fun a' => wpList _ _ _ _ a' ((w.alloc (.cells #[.int .i64 op, .int .i64 a, .int .i64 b, .int .i64 c] 62)).drew)) _ _
  generalize (w.alloc (.cells #[.int .i64 op, .int .i64 a, .int .i64 b, .int .i64 c] 62)).drew = W2 at *
  obtain ⟨i0, i1, i2, i3⟩ := hI1.cells4
  simp only at i0 i1 i2 i3
  have ea := hD1.reg a ha
  have eb := hD1.reg b hb
  have fa := hD1.fx (11 + a)
  generalize m.reg b = B at *
  have hQ := Lib.hid (And.intro (hD1.setR a ha (B)) (hK1.set (11 + a) (.int .i64 (B))))
  clear hD1 hK1
  simp only [List.take_succ_cons, List.take_zero, List.drop_succ_cons, List.drop_zero]
  repeat still_step
  refine wpStill_nil ?_
  go_wp2
  go_end0
  first | exact InsQ.on rfl hQ.out | (rw [hC'.out]; exact InsQ.on rfl hQ.out)
set_option maxHeartbeats 2000000 in
theorem h_add (h : HM b1 w x v W ev ov m) (op : Int) (a : Nat) (ha : a < 16) (b : Nat) (hb : b < 16) (c : Nat) (hc : c < 16) :
    Calls Tryz.prog 90 #[.pointer (some ⟨x, 0, none⟩), .agg #[.int .i64 op, .int .i64 a, .int .i64 b, .int .i64 c]] w (InsQ b1 w x v W ev (.on (m.put a (wrap64 (m.reg b + m.reg c))))) := by
  have ha' : (a : Int) < 16 := by omega
  have hb' : (b : Int) < 16 := by omega
  have hc' : (c : Int) < 16 := by omega
  have hD1 : HM b1 ((w.alloc (.cells #[.int .i64 op, .int .i64 a, .int .i64 b, .int .i64 c] 62)).drew) x v W ev ov m := (h.alloc (.cells #[.int .i64 op, .int .i64 a, .int .i64 b, .int .i64 c] 62)).drew
  have hK1 : Kp x b1 w ((w.alloc (.cells #[.int .i64 op, .int .i64 a, .int .i64 b, .int .i64 c] 62)).drew) := Kp.of_below (((Below.refl b1 w).alloc h.hb (.cells #[.int .i64 op, .int .i64 a, .int .i64 b, .int .i64 c] 62)).drew)
  have hI1 : InsAt ((w.alloc (.cells #[.int .i64 op, .int .i64 a, .int .i64 b, .int .i64 c] 62)).drew) w.heap.size 0 ⟨op, a, b, c⟩ := (InsAt.mk w op a b c).read (Read.drew _ 1)
  have hxw := h.xw
  clear h
  go_enter Tryz.func90, Tryz.ntmps90
  go_wp2
  refine wp_region_still_tail 21 (by kernel_rfl) (by kernel_rfl) ?_
  change wpStill _ _ (w.alloc (.cells #[.int .i64 op, .int .i64 a, .int .i64 b, .int .i64 c] 62)).drew (fun a' => wpList _ _ _ _ a' ((w.alloc (.cells #[.int .i64 op, .int .i64 a, .int .i64 b, .int .i64 c] 62)).drew)) _ _
  generalize (w.alloc (.cells #[.int .i64 op, .int .i64 a, .int .i64 b, .int .i64 c] 62)).drew = W2 at *
  obtain ⟨i0, i1, i2, i3⟩ := hI1.cells4
  simp only at i0 i1 i2 i3
  have ea := hD1.reg a ha
  have eb := hD1.reg b hb
  have ec := hD1.reg c hc
  have fa := hD1.fx (11 + a)
  generalize m.reg b = B at *
  generalize m.reg c = C at *
  have hQ := Lib.hid (And.intro (hD1.setR a ha (wrap64 (B + C))) (hK1.set (11 + a) (.int .i64 (wrap64 (B + C)))))
  clear hD1 hK1
  simp only [List.take_succ_cons, List.take_zero, List.drop_succ_cons, List.drop_zero]
  repeat still_step
  refine wpStill_nil ?_
  go_wp2
  go_end0
  first | exact InsQ.on rfl hQ.out | (rw [hC'.out]; exact InsQ.on rfl hQ.out)
set_option maxHeartbeats 2000000 in
theorem h_sub (h : HM b1 w x v W ev ov m) (op : Int) (a : Nat) (ha : a < 16) (b : Nat) (hb : b < 16) (c : Nat) (hc : c < 16) :
    Calls Tryz.prog 91 #[.pointer (some ⟨x, 0, none⟩), .agg #[.int .i64 op, .int .i64 a, .int .i64 b, .int .i64 c]] w (InsQ b1 w x v W ev (.on (m.put a (wrap64 (m.reg b - m.reg c))))) := by
  have ha' : (a : Int) < 16 := by omega
  have hb' : (b : Int) < 16 := by omega
  have hc' : (c : Int) < 16 := by omega
  have hD1 : HM b1 ((w.alloc (.cells #[.int .i64 op, .int .i64 a, .int .i64 b, .int .i64 c] 62)).drew) x v W ev ov m := (h.alloc (.cells #[.int .i64 op, .int .i64 a, .int .i64 b, .int .i64 c] 62)).drew
  have hK1 : Kp x b1 w ((w.alloc (.cells #[.int .i64 op, .int .i64 a, .int .i64 b, .int .i64 c] 62)).drew) := Kp.of_below (((Below.refl b1 w).alloc h.hb (.cells #[.int .i64 op, .int .i64 a, .int .i64 b, .int .i64 c] 62)).drew)
  have hI1 : InsAt ((w.alloc (.cells #[.int .i64 op, .int .i64 a, .int .i64 b, .int .i64 c] 62)).drew) w.heap.size 0 ⟨op, a, b, c⟩ := (InsAt.mk w op a b c).read (Read.drew _ 1)
  have hxw := h.xw
  clear h
  go_enter Tryz.func91, Tryz.ntmps91
  go_wp2
  refine wp_region_still_tail 21 (by kernel_rfl) (by kernel_rfl) ?_
  change wpStill _ _ (w.alloc (.cells #[.int .i64 op, .int .i64 a, .int .i64 b, .int .i64 c] 62)).drew (fun a' => wpList _ _ _ _ a' ((w.alloc (.cells #[.int .i64 op, .int .i64 a, .int .i64 b, .int .i64 c] 62)).drew)) _ _
  generalize (w.alloc (.cells #[.int .i64 op, .int .i64 a, .int .i64 b, .int .i64 c] 62)).drew = W2 at *
  obtain ⟨i0, i1, i2, i3⟩ := hI1.cells4
  simp only at i0 i1 i2 i3
  have ea := hD1.reg a ha
  have eb := hD1.reg b hb
  have ec := hD1.reg c hc
  have fa := hD1.fx (11 + a)
  generalize m.reg b = B at *
  generalize m.reg c = C at *
  have hQ := Lib.hid (And.intro (hD1.setR a ha (wrap64 (B - C))) (hK1.set (11 + a) (.int .i64 (wrap64 (B - C)))))
  clear hD1 hK1
  simp only [List.take_succ_cons, List.take_zero, List.drop_succ_cons, List.drop_zero]
  repeat still_step
  refine wpStill_nil ?_
  go_wp2
  go_end0
  first | exact InsQ.on rfl hQ.out | (rw [hC'.out]; exact InsQ.on rfl hQ.out)
set_option maxHeartbeats 2000000 in
theorem h_mul (h : HM b1 w x v W ev ov m) (op : Int) (a : Nat) (ha : a < 16) (b : Nat) (hb : b < 16) (c : Nat) (hc : c < 16) :
    Calls Tryz.prog 92 #[.pointer (some ⟨x, 0, none⟩), .agg #[.int .i64 op, .int .i64 a, .int .i64 b, .int .i64 c]] w (InsQ b1 w x v W ev (.on (m.put a (wrap64 (m.reg b * m.reg c))))) := by
  have ha' : (a : Int) < 16 := by omega
  have hb' : (b : Int) < 16 := by omega
  have hc' : (c : Int) < 16 := by omega
  have hD1 : HM b1 ((w.alloc (.cells #[.int .i64 op, .int .i64 a, .int .i64 b, .int .i64 c] 62)).drew) x v W ev ov m := (h.alloc (.cells #[.int .i64 op, .int .i64 a, .int .i64 b, .int .i64 c] 62)).drew
  have hK1 : Kp x b1 w ((w.alloc (.cells #[.int .i64 op, .int .i64 a, .int .i64 b, .int .i64 c] 62)).drew) := Kp.of_below (((Below.refl b1 w).alloc h.hb (.cells #[.int .i64 op, .int .i64 a, .int .i64 b, .int .i64 c] 62)).drew)
  have hI1 : InsAt ((w.alloc (.cells #[.int .i64 op, .int .i64 a, .int .i64 b, .int .i64 c] 62)).drew) w.heap.size 0 ⟨op, a, b, c⟩ := (InsAt.mk w op a b c).read (Read.drew _ 1)
  have hxw := h.xw
  clear h
  go_enter Tryz.func92, Tryz.ntmps92
  go_wp2
  refine wp_region_still_tail 21 (by kernel_rfl) (by kernel_rfl) ?_
  change wpStill _ _ (w.alloc (.cells #[.int .i64 op, .int .i64 a, .int .i64 b, .int .i64 c] 62)).drew (fun a' => wpList _ _ _ _ a' ((w.alloc (.cells #[.int .i64 op, .int .i64 a, .int .i64 b, .int .i64 c] 62)).drew)) _ _
  generalize (w.alloc (.cells #[.int .i64 op, .int .i64 a, .int .i64 b, .int .i64 c] 62)).drew = W2 at *
  obtain ⟨i0, i1, i2, i3⟩ := hI1.cells4
  simp only at i0 i1 i2 i3
  have ea := hD1.reg a ha
  have eb := hD1.reg b hb
  have ec := hD1.reg c hc
  have fa := hD1.fx (11 + a)
  generalize m.reg b = B at *
  generalize m.reg c = C at *
  have hQ := Lib.hid (And.intro (hD1.setR a ha (wrap64 (B * C))) (hK1.set (11 + a) (.int .i64 (wrap64 (B * C)))))
  clear hD1 hK1
  simp only [List.take_succ_cons, List.take_zero, List.drop_succ_cons, List.drop_zero]
  repeat still_step
  refine wpStill_nil ?_
  go_wp2
  go_end0
  first | exact InsQ.on rfl hQ.out | (rw [hC'.out]; exact InsQ.on rfl hQ.out)
set_option maxHeartbeats 2000000 in
theorem h_less_t (h : HM b1 w x v W ev ov m) (op : Int) (a : Nat) (ha : a < 16) (b : Nat) (hb : b < 16) (c : Nat) (hc : c < 16) (hz : m.reg b < m.reg c) :
    Calls Tryz.prog 95 #[.pointer (some ⟨x, 0, none⟩), .agg #[.int .i64 op, .int .i64 a, .int .i64 b, .int .i64 c]] w (InsQ b1 w x v W ev (.on (m.put a 1))) := by
  have hcall := fun w => oneIf_any true w
  have ha' : (a : Int) < 16 := by omega
  have hb' : (b : Int) < 16 := by omega
  have hc' : (c : Int) < 16 := by omega
  have hD1 : HM b1 ((w.alloc (.cells #[.int .i64 op, .int .i64 a, .int .i64 b, .int .i64 c] 62)).drew) x v W ev ov m := (h.alloc (.cells #[.int .i64 op, .int .i64 a, .int .i64 b, .int .i64 c] 62)).drew
  have hK1 : Kp x b1 w ((w.alloc (.cells #[.int .i64 op, .int .i64 a, .int .i64 b, .int .i64 c] 62)).drew) := Kp.of_below (((Below.refl b1 w).alloc h.hb (.cells #[.int .i64 op, .int .i64 a, .int .i64 b, .int .i64 c] 62)).drew)
  have hI1 : InsAt ((w.alloc (.cells #[.int .i64 op, .int .i64 a, .int .i64 b, .int .i64 c] 62)).drew) w.heap.size 0 ⟨op, a, b, c⟩ := (InsAt.mk w op a b c).read (Read.drew _ 1)
  have hxw := h.xw
  clear h
  go_enter Tryz.func95, Tryz.ntmps95
  go_wp2
  refine wp_region_still_tail 22 (by kernel_rfl) (by kernel_rfl) ?_
  change wpStill _ _ (w.alloc (.cells #[.int .i64 op, .int .i64 a, .int .i64 b, .int .i64 c] 62)).drew (fun a' => wpList _ _ _ _ a' ((w.alloc (.cells #[.int .i64 op, .int .i64 a, .int .i64 b, .int .i64 c] 62)).drew)) _ _
  generalize (w.alloc (.cells #[.int .i64 op, .int .i64 a, .int .i64 b, .int .i64 c] 62)).drew = W2 at *
  obtain ⟨i0, i1, i2, i3⟩ := hI1.cells4
  simp only at i0 i1 i2 i3
  have ea := hD1.reg a ha
  have eb := hD1.reg b hb
  have ec := hD1.reg c hc
  have fa := hD1.fx (11 + a)
  generalize m.reg b = B at *
  generalize m.reg c = C at *
  have hQ := Lib.hid (And.intro (hD1.setR a ha (1)) (hK1.set (11 + a) (.int .i64 (1))))
  clear hD1 hK1
  simp only [List.take_succ_cons, List.take_zero, List.drop_succ_cons, List.drop_zero]
  repeat still_step
  still_call ((hcall _).mono fun e w'' h => ⟨h.1, h.2.symm⟩)
  repeat still_step
  refine wpStill_nil ?_
  go_wp2
  go_end0
  first | exact InsQ.on rfl hQ.out | (rw [hC'.out]; exact InsQ.on rfl hQ.out)
set_option maxHeartbeats 2000000 in
theorem h_less_f (h : HM b1 w x v W ev ov m) (op : Int) (a : Nat) (ha : a < 16) (b : Nat) (hb : b < 16) (c : Nat) (hc : c < 16) (hz : ¬ m.reg b < m.reg c) :
    Calls Tryz.prog 95 #[.pointer (some ⟨x, 0, none⟩), .agg #[.int .i64 op, .int .i64 a, .int .i64 b, .int .i64 c]] w (InsQ b1 w x v W ev (.on (m.put a 0))) := by
  have hz' : decide (m.reg b < m.reg c) = false := by simpa using hz
  clear hz
  have hcall := fun w => oneIf_any false w
  have ha' : (a : Int) < 16 := by omega
  have hb' : (b : Int) < 16 := by omega
  have hc' : (c : Int) < 16 := by omega
  have hD1 : HM b1 ((w.alloc (.cells #[.int .i64 op, .int .i64 a, .int .i64 b, .int .i64 c] 62)).drew) x v W ev ov m := (h.alloc (.cells #[.int .i64 op, .int .i64 a, .int .i64 b, .int .i64 c] 62)).drew
  have hK1 : Kp x b1 w ((w.alloc (.cells #[.int .i64 op, .int .i64 a, .int .i64 b, .int .i64 c] 62)).drew) := Kp.of_below (((Below.refl b1 w).alloc h.hb (.cells #[.int .i64 op, .int .i64 a, .int .i64 b, .int .i64 c] 62)).drew)
  have hI1 : InsAt ((w.alloc (.cells #[.int .i64 op, .int .i64 a, .int .i64 b, .int .i64 c] 62)).drew) w.heap.size 0 ⟨op, a, b, c⟩ := (InsAt.mk w op a b c).read (Read.drew _ 1)
  have hxw := h.xw
  clear h
  go_enter Tryz.func95, Tryz.ntmps95
  go_wp2
  refine wp_region_still_tail 22 (by kernel_rfl) (by kernel_rfl) ?_
  change wpStill _ _ (w.alloc (.cells #[.int .i64 op, .int .i64 a, .int .i64 b, .int .i64 c] 62)).drew (fun a' => wpList _ _ _ _ a' ((w.alloc (.cells #[.int .i64 op, .int .i64 a, .int .i64 b, .int .i64 c] 62)).drew)) _ _
  generalize (w.alloc (.cells #[.int .i64 op, .int .i64 a, .int .i64 b, .int .i64 c] 62)).drew = W2 at *
  obtain ⟨i0, i1, i2, i3⟩ := hI1.cells4
  simp only at i0 i1 i2 i3
  have ea := hD1.reg a ha
  have eb := hD1.reg b hb
  have ec := hD1.reg c hc
  have fa := hD1.fx (11 + a)
  generalize m.reg b = B at *
  generalize m.reg c = C at *
  have hQ := Lib.hid (And.intro (hD1.setR a ha (0)) (hK1.set (11 + a) (.int .i64 (0))))
  clear hD1 hK1
  simp only [List.take_succ_cons, List.take_zero, List.drop_succ_cons, List.drop_zero]
  repeat still_step
  still_call ((hcall _).mono fun e w'' h => ⟨h.1, h.2.symm⟩)
  repeat still_step
  refine wpStill_nil ?_
  go_wp2
  go_end0
  first | exact InsQ.on rfl hQ.out | (rw [hC'.out]; exact InsQ.on rfl hQ.out)
set_option maxHeartbeats 2000000 in
theorem h_same_t (h : HM b1 w x v W ev ov m) (op : Int) (a : Nat) (ha : a < 16) (b : Nat) (hb : b < 16) (c : Nat) (hc : c < 16) (hz : m.reg b = m.reg c) :
    Calls Tryz.prog 96 #[.pointer (some ⟨x, 0, none⟩), .agg #[.int .i64 op, .int .i64 a, .int .i64 b, .int .i64 c]] w (InsQ b1 w x v W ev (.on (m.put a 1))) := by
  have hcall := fun w => oneIf_any true w
  have ha' : (a : Int) < 16 := by omega
  have hb' : (b : Int) < 16 := by omega
  have hc' : (c : Int) < 16 := by omega
  have hD1 : HM b1 ((w.alloc (.cells #[.int .i64 op, .int .i64 a, .int .i64 b, .int .i64 c] 62)).drew) x v W ev ov m := (h.alloc (.cells #[.int .i64 op, .int .i64 a, .int .i64 b, .int .i64 c] 62)).drew
  have hK1 : Kp x b1 w ((w.alloc (.cells #[.int .i64 op, .int .i64 a, .int .i64 b, .int .i64 c] 62)).drew) := Kp.of_below (((Below.refl b1 w).alloc h.hb (.cells #[.int .i64 op, .int .i64 a, .int .i64 b, .int .i64 c] 62)).drew)
  have hI1 : InsAt ((w.alloc (.cells #[.int .i64 op, .int .i64 a, .int .i64 b, .int .i64 c] 62)).drew) w.heap.size 0 ⟨op, a, b, c⟩ := (InsAt.mk w op a b c).read (Read.drew _ 1)
  have hxw := h.xw
  clear h
  go_enter Tryz.func96, Tryz.ntmps96
  go_wp2
  refine wp_region_still_tail 22 (by kernel_rfl) (by kernel_rfl) ?_
  change wpStill _ _ (w.alloc (.cells #[.int .i64 op, .int .i64 a, .int .i64 b, .int .i64 c] 62)).drew (fun a' => wpList _ _ _ _ a' ((w.alloc (.cells #[.int .i64 op, .int .i64 a, .int .i64 b, .int .i64 c] 62)).drew)) _ _
  generalize (w.alloc (.cells #[.int .i64 op, .int .i64 a, .int .i64 b, .int .i64 c] 62)).drew = W2 at *
  obtain ⟨i0, i1, i2, i3⟩ := hI1.cells4
  simp only at i0 i1 i2 i3
  have ea := hD1.reg a ha
  have eb := hD1.reg b hb
  have ec := hD1.reg c hc
  have fa := hD1.fx (11 + a)
  rw [hz] at eb
  clear hz
  generalize m.reg c = C at *
  have hQ := Lib.hid (And.intro (hD1.setR a ha (1)) (hK1.set (11 + a) (.int .i64 (1))))
  clear hD1 hK1
  simp only [List.take_succ_cons, List.take_zero, List.drop_succ_cons, List.drop_zero]
  repeat still_step
  still_call ((hcall _).mono fun e w'' h => ⟨h.1, h.2.symm⟩)
  repeat still_step
  refine wpStill_nil ?_
  go_wp2
  go_end0
  first | exact InsQ.on rfl hQ.out | (rw [hC'.out]; exact InsQ.on rfl hQ.out)
set_option maxHeartbeats 2000000 in
theorem h_same_f (h : HM b1 w x v W ev ov m) (op : Int) (a : Nat) (ha : a < 16) (b : Nat) (hb : b < 16) (c : Nat) (hc : c < 16) (hz : ¬ m.reg b = m.reg c) :
    Calls Tryz.prog 96 #[.pointer (some ⟨x, 0, none⟩), .agg #[.int .i64 op, .int .i64 a, .int .i64 b, .int .i64 c]] w (InsQ b1 w x v W ev (.on (m.put a 0))) := by
  have hz' : (m.reg b == m.reg c) = false := by simpa using hz
  clear hz
  have hcall := fun w => oneIf_any false w
  have ha' : (a : Int) < 16 := by omega
  have hb' : (b : Int) < 16 := by omega
  have hc' : (c : Int) < 16 := by omega
  have hD1 : HM b1 ((w.alloc (.cells #[.int .i64 op, .int .i64 a, .int .i64 b, .int .i64 c] 62)).drew) x v W ev ov m := (h.alloc (.cells #[.int .i64 op, .int .i64 a, .int .i64 b, .int .i64 c] 62)).drew
  have hK1 : Kp x b1 w ((w.alloc (.cells #[.int .i64 op, .int .i64 a, .int .i64 b, .int .i64 c] 62)).drew) := Kp.of_below (((Below.refl b1 w).alloc h.hb (.cells #[.int .i64 op, .int .i64 a, .int .i64 b, .int .i64 c] 62)).drew)
  have hI1 : InsAt ((w.alloc (.cells #[.int .i64 op, .int .i64 a, .int .i64 b, .int .i64 c] 62)).drew) w.heap.size 0 ⟨op, a, b, c⟩ := (InsAt.mk w op a b c).read (Read.drew _ 1)
  have hxw := h.xw
  clear h
  go_enter Tryz.func96, Tryz.ntmps96
  go_wp2
  refine wp_region_still_tail 22 (by kernel_rfl) (by kernel_rfl) ?_
  change wpStill _ _ (w.alloc (.cells #[.int .i64 op, .int .i64 a, .int .i64 b, .int .i64 c] 62)).drew (fun a' => wpList _ _ _ _ a' ((w.alloc (.cells #[.int .i64 op, .int .i64 a, .int .i64 b, .int .i64 c] 62)).drew)) _ _
  generalize (w.alloc (.cells #[.int .i64 op, .int .i64 a, .int .i64 b, .int .i64 c] 62)).drew = W2 at *
  obtain ⟨i0, i1, i2, i3⟩ := hI1.cells4
  simp only at i0 i1 i2 i3
  have ea := hD1.reg a ha
  have eb := hD1.reg b hb
  have ec := hD1.reg c hc
  have fa := hD1.fx (11 + a)
  generalize m.reg b = B at *
  generalize m.reg c = C at *
  have hQ := Lib.hid (And.intro (hD1.setR a ha (0)) (hK1.set (11 + a) (.int .i64 (0))))
  clear hD1 hK1
  simp only [List.take_succ_cons, List.take_zero, List.drop_succ_cons, List.drop_zero]
  repeat still_step
  still_call ((hcall _).mono fun e w'' h => ⟨h.1, h.2.symm⟩)
  repeat still_step
  refine wpStill_nil ?_
  go_wp2
  go_end0
  first | exact InsQ.on rfl hQ.out | (rw [hC'.out]; exact InsQ.on rfl hQ.out)
set_option maxHeartbeats 2000000 in
theorem h_value (h : HM b1 w x v W ev ov m) (op : Int) (a : Nat) (ha : a < 16) (b : Int) (c : Int) :
    Calls Tryz.prog 101 #[.pointer (some ⟨x, 0, none⟩), .agg #[.int .i64 op, .int .i64 a, .int .i64 b, .int .i64 c]] w (InsQ b1 w x v W ev (.on (m.put a ev.v))) := by
  have ha' : (a : Int) < 16 := by omega
  have hD1 : HM b1 ((w.alloc (.cells #[.int .i64 op, .int .i64 a, .int .i64 b, .int .i64 c] 62)).drew) x v W ev ov m := (h.alloc (.cells #[.int .i64 op, .int .i64 a, .int .i64 b, .int .i64 c] 62)).drew
  have hK1 : Kp x b1 w ((w.alloc (.cells #[.int .i64 op, .int .i64 a, .int .i64 b, .int .i64 c] 62)).drew) := Kp.of_below (((Below.refl b1 w).alloc h.hb (.cells #[.int .i64 op, .int .i64 a, .int .i64 b, .int .i64 c] 62)).drew)
  have hI1 : InsAt ((w.alloc (.cells #[.int .i64 op, .int .i64 a, .int .i64 b, .int .i64 c] 62)).drew) w.heap.size 0 ⟨op, a, b, c⟩ := (InsAt.mk w op a b c).read (Read.drew _ 1)
  have hxw := h.xw
  clear h
  go_enter Tryz.func101, Tryz.ntmps101
  go_wp2
  refine wp_region_still_tail 11 (by kernel_rfl) (by kernel_rfl) ?_
  change wpStill _ _ (w.alloc (.cells #[.int .i64 op, .int .i64 a, .int .i64 b, .int .i64 c] 62)).drew (fun a' => wpList _ _ _ _ a' ((w.alloc (.cells #[.int .i64 op, .int .i64 a, .int .i64 b, .int .i64 c] 62)).drew)) _ _
  generalize (w.alloc (.cells #[.int .i64 op, .int .i64 a, .int .i64 b, .int .i64 c] 62)).drew = W2 at *
  obtain ⟨i0, i1, i2, i3⟩ := hI1.cells4
  simp only at i0 i1 i2 i3
  have e8 : W2.cell? ⟨x, 8, none⟩ = some (.int .i64 ev.v) := hD1.cell 8 rfl
  have ea := hD1.reg a ha
  have fa := hD1.fx (11 + a)
  have hQ := Lib.hid (And.intro (hD1.setR a ha (ev.v)) (hK1.set (11 + a) (.int .i64 (ev.v))))
  clear hD1 hK1
  simp only [List.take_succ_cons, List.take_zero, List.drop_succ_cons, List.drop_zero]
  repeat still_step
  refine wpStill_nil ?_
  go_wp2
  go_end0
  first | exact InsQ.on rfl hQ.out | (rw [hC'.out]; exact InsQ.on rfl hQ.out)
set_option maxHeartbeats 2000000 in
theorem h_time (h : HM b1 w x v W ev ov m) (op : Int) (a : Nat) (ha : a < 16) (b : Int) (c : Int) :
    Calls Tryz.prog 102 #[.pointer (some ⟨x, 0, none⟩), .agg #[.int .i64 op, .int .i64 a, .int .i64 b, .int .i64 c]] w (InsQ b1 w x v W ev (.on (m.put a ev.k.t))) := by
  have ha' : (a : Int) < 16 := by omega
  have hD1 : HM b1 ((w.alloc (.cells #[.int .i64 op, .int .i64 a, .int .i64 b, .int .i64 c] 62)).drew) x v W ev ov m := (h.alloc (.cells #[.int .i64 op, .int .i64 a, .int .i64 b, .int .i64 c] 62)).drew
  have hK1 : Kp x b1 w ((w.alloc (.cells #[.int .i64 op, .int .i64 a, .int .i64 b, .int .i64 c] 62)).drew) := Kp.of_below (((Below.refl b1 w).alloc h.hb (.cells #[.int .i64 op, .int .i64 a, .int .i64 b, .int .i64 c] 62)).drew)
  have hI1 : InsAt ((w.alloc (.cells #[.int .i64 op, .int .i64 a, .int .i64 b, .int .i64 c] 62)).drew) w.heap.size 0 ⟨op, a, b, c⟩ := (InsAt.mk w op a b c).read (Read.drew _ 1)
  have hxw := h.xw
  clear h
  go_enter Tryz.func102, Tryz.ntmps102
  go_wp2
  refine wp_region_still_tail 12 (by kernel_rfl) (by kernel_rfl) ?_
  change wpStill _ _ (w.alloc (.cells #[.int .i64 op, .int .i64 a, .int .i64 b, .int .i64 c] 62)).drew (fun a' => wpList _ _ _ _ a' ((w.alloc (.cells #[.int .i64 op, .int .i64 a, .int .i64 b, .int .i64 c] 62)).drew)) _ _
  generalize (w.alloc (.cells #[.int .i64 op, .int .i64 a, .int .i64 b, .int .i64 c] 62)).drew = W2 at *
  obtain ⟨i0, i1, i2, i3⟩ := hI1.cells4
  simp only at i0 i1 i2 i3
  have e8 : W2.cell? ⟨x, 4, none⟩ = some (.int .i64 ev.k.t) := hD1.cell 4 rfl
  have ea := hD1.reg a ha
  have fa := hD1.fx (11 + a)
  have hQ := Lib.hid (And.intro (hD1.setR a ha (ev.k.t)) (hK1.set (11 + a) (.int .i64 (ev.k.t))))
  clear hD1 hK1
  simp only [List.take_succ_cons, List.take_zero, List.drop_succ_cons, List.drop_zero]
  repeat still_step
  refine wpStill_nil ?_
  go_wp2
  go_end0
  first | exact InsQ.on rfl hQ.out | (rw [hC'.out]; exact InsQ.on rfl hQ.out)
set_option maxHeartbeats 2000000 in
theorem h_self (h : HM b1 w x v W ev ov m) (op : Int) (a : Nat) (ha : a < 16) (b : Int) (c : Int) :
    Calls Tryz.prog 103 #[.pointer (some ⟨x, 0, none⟩), .agg #[.int .i64 op, .int .i64 a, .int .i64 b, .int .i64 c]] w (InsQ b1 w x v W ev (.on (m.put a W.self))) := by
  have ha' : (a : Int) < 16 := by omega
  have hD1 : HM b1 ((w.alloc (.cells #[.int .i64 op, .int .i64 a, .int .i64 b, .int .i64 c] 62)).drew) x v W ev ov m := (h.alloc (.cells #[.int .i64 op, .int .i64 a, .int .i64 b, .int .i64 c] 62)).drew
  have hK1 : Kp x b1 w ((w.alloc (.cells #[.int .i64 op, .int .i64 a, .int .i64 b, .int .i64 c] 62)).drew) := Kp.of_below (((Below.refl b1 w).alloc h.hb (.cells #[.int .i64 op, .int .i64 a, .int .i64 b, .int .i64 c] 62)).drew)
  have hI1 : InsAt ((w.alloc (.cells #[.int .i64 op, .int .i64 a, .int .i64 b, .int .i64 c] 62)).drew) w.heap.size 0 ⟨op, a, b, c⟩ := (InsAt.mk w op a b c).read (Read.drew _ 1)
  have hxw := h.xw
  clear h
  go_enter Tryz.func103, Tryz.ntmps103
  go_wp2
  refine wp_region_still_tail 11 (by kernel_rfl) (by kernel_rfl) ?_
  change wpStill _ _ (w.alloc (.cells #[.int .i64 op, .int .i64 a, .int .i64 b, .int .i64 c] 62)).drew (fun a' => wpList _ _ _ _ a' ((w.alloc (.cells #[.int .i64 op, .int .i64 a, .int .i64 b, .int .i64 c] 62)).drew)) _ _
  generalize (w.alloc (.cells #[.int .i64 op, .int .i64 a, .int .i64 b, .int .i64 c] 62)).drew = W2 at *
  obtain ⟨i0, i1, i2, i3⟩ := hI1.cells4
  simp only at i0 i1 i2 i3
  have e8 : W2.cell? ⟨x, 1, none⟩ = some (.int .i64 W.self) := hD1.cell 1 rfl
  have ea := hD1.reg a ha
  have fa := hD1.fx (11 + a)
  have hQ := Lib.hid (And.intro (hD1.setR a ha (W.self)) (hK1.set (11 + a) (.int .i64 (W.self))))
  clear hD1 hK1
  simp only [List.take_succ_cons, List.take_zero, List.drop_succ_cons, List.drop_zero]
  repeat still_step
  refine wpStill_nil ?_
  go_wp2
  go_end0
  first | exact InsQ.on rfl hQ.out | (rw [hC'.out]; exact InsQ.on rfl hQ.out)
set_option maxHeartbeats 2000000 in
theorem h_halt (h : HM b1 w x v W ev ov m) (op : Int) (a : Int) (b : Int) (c : Int) :
    Calls Tryz.prog 87 #[.pointer (some ⟨x, 0, none⟩), .agg #[.int .i64 op, .int .i64 a, .int .i64 b, .int .i64 c]] w (InsQ b1 w x v W ev (.on { m with pc := (v.pl : Int) })) := by
  have hD1 : HM b1 ((w.alloc (.cells #[.int .i64 op, .int .i64 a, .int .i64 b, .int .i64 c] 62))) x v W ev ov m := (h.alloc (.cells #[.int .i64 op, .int .i64 a, .int .i64 b, .int .i64 c] 62))
  have hK1 : Kp x b1 w ((w.alloc (.cells #[.int .i64 op, .int .i64 a, .int .i64 b, .int .i64 c] 62))) := Kp.of_below (((Below.refl b1 w).alloc h.hb (.cells #[.int .i64 op, .int .i64 a, .int .i64 b, .int .i64 c] 62)))
  have hI1 : InsAt ((w.alloc (.cells #[.int .i64 op, .int .i64 a, .int .i64 b, .int .i64 c] 62))) w.heap.size 0 ⟨op, a, b, c⟩ := InsAt.mk w op a b c
  have hxw := h.xw
  clear h
  go_enter Tryz.func87, Tryz.ntmps87
  go_upto_region 1 with (fail)
  generalize (w.alloc (.cells #[.int .i64 op, .int .i64 a, .int .i64 b, .int .i64 c] 62)) = W1 at *
  obtain ⟨i0, i1, i2, i3⟩ := hI1.cells4
  simp only at i0 i1 i2 i3
  have e0 : W1.cell? ⟨x, 0, none⟩ = some (.slice v.pa v.pl v.pc) := hD1.cell 0 rfl
  have e27 := hD1.pc
  have f27 := hD1.fx 27
  have hQ := Lib.hid (And.intro (hD1.setPc (v.pl : Int)) (hK1.set 27 (.int .i64 (v.pl : Int))))
  clear hD1 hK1 hI1
  go_wp2
  go_end0
  first | exact InsQ.on rfl hQ.out | (rw [hC'.out]; exact InsQ.on rfl hQ.out)
set_option maxHeartbeats 2000000 in
theorem h_jump (h : HM b1 w x v W ev ov m) (op : Int) (a : Int) (b : Int) (c : Int) :
    Calls Tryz.prog 97 #[.pointer (some ⟨x, 0, none⟩), .agg #[.int .i64 op, .int .i64 a, .int .i64 b, .int .i64 c]] w (InsQ b1 w x v W ev (.on { m with pc := a })) := by
  have hD1 : HM b1 ((w.alloc (.cells #[.int .i64 op, .int .i64 a, .int .i64 b, .int .i64 c] 62))) x v W ev ov m := (h.alloc (.cells #[.int .i64 op, .int .i64 a, .int .i64 b, .int .i64 c] 62))
  have hK1 : Kp x b1 w ((w.alloc (.cells #[.int .i64 op, .int .i64 a, .int .i64 b, .int .i64 c] 62))) := Kp.of_below (((Below.refl b1 w).alloc h.hb (.cells #[.int .i64 op, .int .i64 a, .int .i64 b, .int .i64 c] 62)))
  have hI1 : InsAt ((w.alloc (.cells #[.int .i64 op, .int .i64 a, .int .i64 b, .int .i64 c] 62))) w.heap.size 0 ⟨op, a, b, c⟩ := InsAt.mk w op a b c
  have hxw := h.xw
  clear h
  go_enter Tryz.func97, Tryz.ntmps97
  go_upto_region 1 with (fail)
  generalize (w.alloc (.cells #[.int .i64 op, .int .i64 a, .int .i64 b, .int .i64 c] 62)) = W1 at *
  obtain ⟨i0, i1, i2, i3⟩ := hI1.cells4
  simp only at i0 i1 i2 i3
  have e27 := hD1.pc
  have f27 := hD1.fx 27
  have hQ := Lib.hid (And.intro (hD1.setPc a) (hK1.set 27 (.int .i64 a)))
  clear hD1 hK1 hI1
  go_wp2
  go_end0
  first | exact InsQ.on rfl hQ.out | (rw [hC'.out]; exact InsQ.on rfl hQ.out)
set_option maxHeartbeats 2000000 in
theorem h_zero_t (h : HM b1 w x v W ev ov m) (op : Int) (a : Nat) (ha : a < 16) (b c : Int) (hz : m.reg a = 0) :
    Calls Tryz.prog 98 #[.pointer (some ⟨x, 0, none⟩), .agg #[.int .i64 op, .int .i64 a, .int .i64 b, .int .i64 c]] w (InsQ b1 w x v W ev (.on { m with pc := b })) := by
  have ha' : (a : Int) < 16 := by omega
  have hD1 : HM b1 ((w.alloc (.cells #[.int .i64 op, .int .i64 a, .int .i64 b, .int .i64 c] 62))) x v W ev ov m := (h.alloc (.cells #[.int .i64 op, .int .i64 a, .int .i64 b, .int .i64 c] 62))
  have hK1 : Kp x b1 w ((w.alloc (.cells #[.int .i64 op, .int .i64 a, .int .i64 b, .int .i64 c] 62))) := Kp.of_below (((Below.refl b1 w).alloc h.hb (.cells #[.int .i64 op, .int .i64 a, .int .i64 b, .int .i64 c] 62)))
  have hI1 : InsAt ((w.alloc (.cells #[.int .i64 op, .int .i64 a, .int .i64 b, .int .i64 c] 62))) w.heap.size 0 ⟨op, a, b, c⟩ := InsAt.mk w op a b c
  have hxw := h.xw
  clear h
  go_enter Tryz.func98, Tryz.ntmps98
  go_upto_region 1 with (fail)
  generalize (w.alloc (.cells #[.int .i64 op, .int .i64 a, .int .i64 b, .int .i64 c] 62)) = W1 at *
  obtain ⟨i0, i1, i2, i3⟩ := hI1.cells4
  simp only at i0 i1 i2 i3
  have ea := hD1.reg a ha
  rw [hz] at ea
  go_quiet (fail)
  have hr := Read.drew W1 nq
  have hD2 := hD1.below hr.below
  have hK2 := hK1.then_below (hr.below.mono hD1.hb)
  have hI2 := hI1.read hr
  generalize W1.drewN nq = W3 at *
  clear hD1 hK1 hI1 i0 i1 i2 i3 ea hr
  obtain ⟨i0, i1, i2, i3⟩ := hI2.cells4
  simp only at i0 i1 i2 i3
  have e27 := hD2.pc
  have f27 := hD2.fx 27
  have hQ := Lib.hid (And.intro (hD2.setPc b) (hK2.set 27 (.int .i64 b)))
  clear hD2 hK2 hI2
  go_wp2
  go_end0
  first | exact InsQ.on rfl hQ.out | (rw [hC'.out]; exact InsQ.on rfl hQ.out)
set_option maxHeartbeats 2000000 in
theorem h_zero_f (h : HM b1 w x v W ev ov m) (op : Int) (a : Nat) (ha : a < 16) (b c : Int) (hz : ¬ m.reg a = 0) :
    Calls Tryz.prog 98 #[.pointer (some ⟨x, 0, none⟩), .agg #[.int .i64 op, .int .i64 a, .int .i64 b, .int .i64 c]] w (InsQ b1 w x v W ev (.on m)) := by
  have hz' : (m.reg a == 0) = false := by simpa using hz
  clear hz
  have ha' : (a : Int) < 16 := by omega
  have hD1 : HM b1 ((w.alloc (.cells #[.int .i64 op, .int .i64 a, .int .i64 b, .int .i64 c] 62))) x v W ev ov m := (h.alloc (.cells #[.int .i64 op, .int .i64 a, .int .i64 b, .int .i64 c] 62))
  have hK1 : Kp x b1 w ((w.alloc (.cells #[.int .i64 op, .int .i64 a, .int .i64 b, .int .i64 c] 62))) := Kp.of_below (((Below.refl b1 w).alloc h.hb (.cells #[.int .i64 op, .int .i64 a, .int .i64 b, .int .i64 c] 62)))
  have hI1 : InsAt ((w.alloc (.cells #[.int .i64 op, .int .i64 a, .int .i64 b, .int .i64 c] 62))) w.heap.size 0 ⟨op, a, b, c⟩ := InsAt.mk w op a b c
  have hxw := h.xw
  clear h
  go_enter Tryz.func98, Tryz.ntmps98
  go_upto_region 1 with (fail)
  generalize (w.alloc (.cells #[.int .i64 op, .int .i64 a, .int .i64 b, .int .i64 c] 62)) = W1 at *
  obtain ⟨i0, i1, i2, i3⟩ := hI1.cells4
  simp only at i0 i1 i2 i3
  have ea := hD1.reg a ha
  generalize m.reg a = A at ea hz'
  go_quiet (fail)
  have hr := Read.drew W1 nq
  have hD2 := hD1.below hr.below
  have hK2 := hK1.then_below (hr.below.mono hD1.hb)
  have hI2 := hI1.read hr
  generalize W1.drewN nq = W3 at *
  clear hD1 hK1 hI1 i0 i1 i2 i3 ea hr
  obtain ⟨i0, i1, i2, i3⟩ := hI2.cells4
  simp only at i0 i1 i2 i3
  have hQ := Lib.hid (And.intro hD2 hK2)
  clear hD2 hK2 hI2
  go_wp2
  go_end0
  first | exact InsQ.on rfl hQ.out | (rw [hC'.out]; exact InsQ.on rfl hQ.out)
set_option maxHeartbeats 2000000 in
theorem h_div_z (h : HM b1 w x v W ev ov m) (op : Int) (a : Nat) (ha : a < 16) (b : Nat) (hb : b < 16) (c : Nat) (hc : c < 16) (hz : m.reg c = 0) :
    Calls Tryz.prog 93 #[.pointer (some ⟨x, 0, none⟩), .agg #[.int .i64 op, .int .i64 a, .int .i64 b, .int .i64 c]] w (InsQ b1 w x v W ev (.on (m.put a 0))) := by
  have hc' : (c : Int) < 16 := by omega
  have ha' : (a : Int) < 16 := by omega
  have hD1 : HM b1 ((w.alloc (.cells #[.int .i64 op, .int .i64 a, .int .i64 b, .int .i64 c] 62))) x v W ev ov m := (h.alloc (.cells #[.int .i64 op, .int .i64 a, .int .i64 b, .int .i64 c] 62))
  have hK1 : Kp x b1 w ((w.alloc (.cells #[.int .i64 op, .int .i64 a, .int .i64 b, .int .i64 c] 62))) := Kp.of_below (((Below.refl b1 w).alloc h.hb (.cells #[.int .i64 op, .int .i64 a, .int .i64 b, .int .i64 c] 62)))
  have hI1 : InsAt ((w.alloc (.cells #[.int .i64 op, .int .i64 a, .int .i64 b, .int .i64 c] 62))) w.heap.size 0 ⟨op, a, b, c⟩ := InsAt.mk w op a b c
  have hxw := h.xw
  clear h
  go_enter Tryz.func93, Tryz.ntmps93
  go_upto_region 1 with (fail)
  generalize (w.alloc (.cells #[.int .i64 op, .int .i64 a, .int .i64 b, .int .i64 c] 62)) = W1 at *
  obtain ⟨i0, i1, i2, i3⟩ := hI1.cells4
  simp only at i0 i1 i2 i3
  have ec := hD1.reg c hc
  rw [hz] at ec
  go_quiet (fail)
  have hr := Read.drew W1 nq
  have hD2 := hD1.below hr.below
  have hK2 := hK1.then_below (hr.below.mono hD1.hb)
  have hI2 := hI1.read hr
  generalize W1.drewN nq = W3 at *
  clear hD1 hK1 hI1 i0 i1 i2 i3 ec hr
  obtain ⟨i0, i1, i2, i3⟩ := hI2.cells4
  simp only at i0 i1 i2 i3
  go_upto_region 2 with (fail)
  have hD3 := hD2.drew
  have hK3 := hK2.drew
  have hI3 := hI2.read (Read.drew _ 1)
  refine wp_region_still_tail 6 (by kernel_rfl) (by kernel_rfl) ?_
  change wpStill _ _ W3.drew (fun a' => wpList _ _ _ _ a' (W3.drew)) _ _
  change InsAt W3.drew w.heap.size 0 ⟨op, a, b, c⟩ at hI3
  clear hD2 hK2 hI2 i0 i1 i2 i3
  generalize W3.drew = W2 at *
  obtain ⟨i0, i1, i2, i3⟩ := hI3.cells4
  simp only at i0 i1 i2 i3
  have ea := hD3.reg a ha
  have fa := hD3.fx (11 + a)
  have hQ := Lib.hid (And.intro (hD3.setR a ha (0)) (hK3.set (11 + a) (.int .i64 (0))))
  clear hD3 hK3
  simp only [List.take_succ_cons, List.take_zero, List.drop_succ_cons, List.drop_zero]
  repeat still_step
  refine wpStill_nil ?_
  go_wp2
  go_end0
  first | exact InsQ.on rfl hQ.out | (rw [hC'.out]; exact InsQ.on rfl hQ.out)
set_option maxHeartbeats 2000000 in
theorem h_div_n (h : HM b1 w x v W ev ov m) (op : Int) (a : Nat) (ha : a < 16) (b : Nat) (hb : b < 16) (c : Nat) (hc : c < 16) (hz : ¬ m.reg c = 0) :
    Calls Tryz.prog 93 #[.pointer (some ⟨x, 0, none⟩), .agg #[.int .i64 op, .int .i64 a, .int .i64 b, .int .i64 c]] w (InsQ b1 w x v W ev (.on (m.put a (wrap64 ((m.reg b).tdiv (m.reg c)))))) := by
  have hz' : (m.reg c == 0) = false := by simpa using hz
  have hb' : (b : Int) < 16 := by omega
  have hc' : (c : Int) < 16 := by omega
  have ha' : (a : Int) < 16 := by omega
  have hD1 : HM b1 ((w.alloc (.cells #[.int .i64 op, .int .i64 a, .int .i64 b, .int .i64 c] 62))) x v W ev ov m := (h.alloc (.cells #[.int .i64 op, .int .i64 a, .int .i64 b, .int .i64 c] 62))
  have hK1 : Kp x b1 w ((w.alloc (.cells #[.int .i64 op, .int .i64 a, .int .i64 b, .int .i64 c] 62))) := Kp.of_below (((Below.refl b1 w).alloc h.hb (.cells #[.int .i64 op, .int .i64 a, .int .i64 b, .int .i64 c] 62)))
  have hI1 : InsAt ((w.alloc (.cells #[.int .i64 op, .int .i64 a, .int .i64 b, .int .i64 c] 62))) w.heap.size 0 ⟨op, a, b, c⟩ := InsAt.mk w op a b c
  have hxw := h.xw
  clear h
  go_enter Tryz.func93, Tryz.ntmps93
  go_upto_region 1 with (fail)
  generalize (w.alloc (.cells #[.int .i64 op, .int .i64 a, .int .i64 b, .int .i64 c] 62)) = W1 at *
  obtain ⟨i0, i1, i2, i3⟩ := hI1.cells4
  simp only at i0 i1 i2 i3
  have ec := hD1.reg c hc
  generalize hC : m.reg c = C at ec hz' hz ⊢
  go_quiet (fail)
  have hr := Read.drew W1 nq
  have hD2 := hD1.below hr.below
  have hK2 := hK1.then_below (hr.below.mono hD1.hb)
  have hI2 := hI1.read hr
  generalize W1.drewN nq = W3 at *
  clear hD1 hK1 hI1 i0 i1 i2 i3 ec hr
  obtain ⟨i0, i1, i2, i3⟩ := hI2.cells4
  simp only at i0 i1 i2 i3
  go_upto_region 3 with (fail)
  have hD3 := hD2.drew
  have hK3 := hK2.drew
  have hI3 := hI2.read (Read.drew _ 1)
  refine wp_region_still_tail 21 (by kernel_rfl) (by kernel_rfl) ?_
  change wpStill _ _ W3.drew (fun a' => wpList _ _ _ _ a' (W3.drew)) _ _
  change InsAt W3.drew w.heap.size 0 ⟨op, a, b, c⟩ at hI3
  clear hD2 hK2 hI2 i0 i1 i2 i3
  generalize W3.drew = W2 at *
  obtain ⟨i0, i1, i2, i3⟩ := hI3.cells4
  simp only at i0 i1 i2 i3
  have ea := hD3.reg a ha
  have eb := hD3.reg b hb
  have ec := hD3.reg c hc
  have fa := hD3.fx (11 + a)
  rw [hC] at ec
  have hC' := Lib.hid hC
  clear hC
  generalize m.reg b = B at *
  have hQ := Lib.hid (And.intro (hD3.setR a ha (wrap64 (B.tdiv C))) (hK3.set (11 + a) (.int .i64 (wrap64 (B.tdiv C)))))
  clear hD3 hK3
  simp only [List.take_succ_cons, List.take_zero, List.drop_succ_cons, List.drop_zero]
  repeat still_step
  refine wpStill_nil ?_
  go_wp2
  go_end0
  first | exact InsQ.on rfl hQ.out | (rw [hC'.out]; exact InsQ.on rfl hQ.out)
set_option maxHeartbeats 2000000 in
theorem h_mod_z (h : HM b1 w x v W ev ov m) (op : Int) (a : Nat) (ha : a < 16) (b : Nat) (hb : b < 16) (c : Nat) (hc : c < 16) (hz : m.reg c = 0) :
    Calls Tryz.prog 94 #[.pointer (some ⟨x, 0, none⟩), .agg #[.int .i64 op, .int .i64 a, .int .i64 b, .int .i64 c]] w (InsQ b1 w x v W ev (.on (m.put a 0))) := by
  have hc' : (c : Int) < 16 := by omega
  have ha' : (a : Int) < 16 := by omega
  have hD1 : HM b1 ((w.alloc (.cells #[.int .i64 op, .int .i64 a, .int .i64 b, .int .i64 c] 62))) x v W ev ov m := (h.alloc (.cells #[.int .i64 op, .int .i64 a, .int .i64 b, .int .i64 c] 62))
  have hK1 : Kp x b1 w ((w.alloc (.cells #[.int .i64 op, .int .i64 a, .int .i64 b, .int .i64 c] 62))) := Kp.of_below (((Below.refl b1 w).alloc h.hb (.cells #[.int .i64 op, .int .i64 a, .int .i64 b, .int .i64 c] 62)))
  have hI1 : InsAt ((w.alloc (.cells #[.int .i64 op, .int .i64 a, .int .i64 b, .int .i64 c] 62))) w.heap.size 0 ⟨op, a, b, c⟩ := InsAt.mk w op a b c
  have hxw := h.xw
  clear h
  go_enter Tryz.func94, Tryz.ntmps94
  go_upto_region 1 with (fail)
  generalize (w.alloc (.cells #[.int .i64 op, .int .i64 a, .int .i64 b, .int .i64 c] 62)) = W1 at *
  obtain ⟨i0, i1, i2, i3⟩ := hI1.cells4
  simp only at i0 i1 i2 i3
  have ec := hD1.reg c hc
  rw [hz] at ec
  go_quiet (fail)
  have hr := Read.drew W1 nq
  have hD2 := hD1.below hr.below
  have hK2 := hK1.then_below (hr.below.mono hD1.hb)
  have hI2 := hI1.read hr
  generalize W1.drewN nq = W3 at *
  clear hD1 hK1 hI1 i0 i1 i2 i3 ec hr
  obtain ⟨i0, i1, i2, i3⟩ := hI2.cells4
  simp only at i0 i1 i2 i3
  go_upto_region 2 with (fail)
  have hD3 := hD2.drew
  have hK3 := hK2.drew
  have hI3 := hI2.read (Read.drew _ 1)
  refine wp_region_still_tail 6 (by kernel_rfl) (by kernel_rfl) ?_
  change wpStill _ _ W3.drew (fun a' => wpList _ _ _ _ a' (W3.drew)) _ _
  change InsAt W3.drew w.heap.size 0 ⟨op, a, b, c⟩ at hI3
  clear hD2 hK2 hI2 i0 i1 i2 i3
  generalize W3.drew = W2 at *
  obtain ⟨i0, i1, i2, i3⟩ := hI3.cells4
  simp only at i0 i1 i2 i3
  have ea := hD3.reg a ha
  have fa := hD3.fx (11 + a)
  have hQ := Lib.hid (And.intro (hD3.setR a ha (0)) (hK3.set (11 + a) (.int .i64 (0))))
  clear hD3 hK3
  simp only [List.take_succ_cons, List.take_zero, List.drop_succ_cons, List.drop_zero]
  repeat still_step
  refine wpStill_nil ?_
  go_wp2
  go_end0
  first | exact InsQ.on rfl hQ.out | (rw [hC'.out]; exact InsQ.on rfl hQ.out)
set_option maxHeartbeats 2000000 in
theorem h_mod_n (h : HM b1 w x v W ev ov m) (op : Int) (a : Nat) (ha : a < 16) (b : Nat) (hb : b < 16) (c : Nat) (hc : c < 16) (hz : ¬ m.reg c = 0) :
    Calls Tryz.prog 94 #[.pointer (some ⟨x, 0, none⟩), .agg #[.int .i64 op, .int .i64 a, .int .i64 b, .int .i64 c]] w (InsQ b1 w x v W ev (.on (m.put a ((m.reg b).tmod (m.reg c))))) := by
  have hz' : (m.reg c == 0) = false := by simpa using hz
  have hb' : (b : Int) < 16 := by omega
  have hc' : (c : Int) < 16 := by omega
  have ha' : (a : Int) < 16 := by omega
  have hD1 : HM b1 ((w.alloc (.cells #[.int .i64 op, .int .i64 a, .int .i64 b, .int .i64 c] 62))) x v W ev ov m := (h.alloc (.cells #[.int .i64 op, .int .i64 a, .int .i64 b, .int .i64 c] 62))
  have hK1 : Kp x b1 w ((w.alloc (.cells #[.int .i64 op, .int .i64 a, .int .i64 b, .int .i64 c] 62))) := Kp.of_below (((Below.refl b1 w).alloc h.hb (.cells #[.int .i64 op, .int .i64 a, .int .i64 b, .int .i64 c] 62)))
  have hI1 : InsAt ((w.alloc (.cells #[.int .i64 op, .int .i64 a, .int .i64 b, .int .i64 c] 62))) w.heap.size 0 ⟨op, a, b, c⟩ := InsAt.mk w op a b c
  have hxw := h.xw
  clear h
  go_enter Tryz.func94, Tryz.ntmps94
  go_upto_region 1 with (fail)
  generalize (w.alloc (.cells #[.int .i64 op, .int .i64 a, .int .i64 b, .int .i64 c] 62)) = W1 at *
  obtain ⟨i0, i1, i2, i3⟩ := hI1.cells4
  simp only at i0 i1 i2 i3
  have ec := hD1.reg c hc
  generalize hC : m.reg c = C at ec hz' hz ⊢
  go_quiet (fail)
  have hr := Read.drew W1 nq
  have hD2 := hD1.below hr.below
  have hK2 := hK1.then_below (hr.below.mono hD1.hb)
  have hI2 := hI1.read hr
  generalize W1.drewN nq = W3 at *
  clear hD1 hK1 hI1 i0 i1 i2 i3 ec hr
  obtain ⟨i0, i1, i2, i3⟩ := hI2.cells4
  simp only at i0 i1 i2 i3
  go_upto_region 3 with (fail)
  have hD3 := hD2.drew
  have hK3 := hK2.drew
  have hI3 := hI2.read (Read.drew _ 1)
  refine wp_region_still_tail 21 (by kernel_rfl) (by kernel_rfl) ?_
  change wpStill _ _ W3.drew (fun a' => wpList _ _ _ _ a' (W3.drew)) _ _
  change InsAt W3.drew w.heap.size 0 ⟨op, a, b, c⟩ at hI3
  clear hD2 hK2 hI2 i0 i1 i2 i3
  generalize W3.drew = W2 at *
  obtain ⟨i0, i1, i2, i3⟩ := hI3.cells4
  simp only at i0 i1 i2 i3
  have ea := hD3.reg a ha
  have eb := hD3.reg b hb
  have ec := hD3.reg c hc
  have fa := hD3.fx (11 + a)
  rw [hC] at ec
  have hC' := Lib.hid hC
  clear hC
  generalize m.reg b = B at *
  have hQ := Lib.hid (And.intro (hD3.setR a ha (B.tmod C)) (hK3.set (11 + a) (.int .i64 (B.tmod C))))
  clear hD3 hK3
  simp only [List.take_succ_cons, List.take_zero, List.drop_succ_cons, List.drop_zero]
  repeat still_step
  refine wpStill_nil ?_
  go_wp2
  go_end0
  first | exact InsQ.on rfl hQ.out | (rw [hC'.out]; exact InsQ.on rfl hQ.out)
theorem pbelow_P (seed : Nat) (hs : seed < 18446744073709551616) (self n k : Int) (hk : k ≤ 9223372036854775807) (w : World) :
    Calls Tryz.prog 113 #[.int .u64 seed, .int .i64 self, .int .i64 n, .int .i64 k] w fun e w' => e = .returned (.int .i64 (belowP seed self n k)) ∧ Below w.heap.size w w' := by
  unfold belowP
  by_cases h : k < 1
  · rw [if_pos h]
    refine (below_low seed self n k h w).mono fun e w' h => ⟨h.1, h.2 ▸ Below.refl _ _⟩
  · rw [if_neg h]
    obtain ⟨j, rfl⟩ := Int.eq_ofNat_of_zero_le (show 0 ≤ k by omega)
    exact below_any seed hs self n j (by omega) (by omega) w
set_option maxHeartbeats 2000000 in
theorem h_draw (h : HM b1 w x v W ev ov m) (op : Int) (a : Nat) (ha : a < 16) (b : Nat) (hb : b < 16) (c : Int) (hs : W.seed < 18446744073709551616) (hd : 0 ≤ m.d ∧ m.d ≤ 1152921504606846976) (hrb : m.reg b ≤ 9223372036854775807) :
    Calls Tryz.prog 100 #[.pointer (some ⟨x, 0, none⟩), .agg #[.int .i64 op, .int .i64 a, .int .i64 b, .int .i64 c]] w (InsQ b1 w x v W ev (.on { m.put a (belowP W.seed W.self m.d (m.reg b)) with d := m.d + 1 })) := by
  have ha' : (a : Int) < 16 := by omega
  have hb' : (b : Int) < 16 := by omega
  have hcall := fun w => pbelow_P W.seed hs W.self m.d (m.reg b) hrb w
  clear hs hrb
  have hD1 : HM b1 ((w.alloc (.cells #[.int .i64 op, .int .i64 a, .int .i64 b, .int .i64 c] 62))) x v W ev ov m := (h.alloc (.cells #[.int .i64 op, .int .i64 a, .int .i64 b, .int .i64 c] 62))
  have hK1 : Kp x b1 w ((w.alloc (.cells #[.int .i64 op, .int .i64 a, .int .i64 b, .int .i64 c] 62))) := Kp.of_below (((Below.refl b1 w).alloc h.hb (.cells #[.int .i64 op, .int .i64 a, .int .i64 b, .int .i64 c] 62)))
  have hI1 : InsAt ((w.alloc (.cells #[.int .i64 op, .int .i64 a, .int .i64 b, .int .i64 c] 62))) w.heap.size 0 ⟨op, a, b, c⟩ := InsAt.mk w op a b c
  have hxw := h.xw
  clear h
  go_enter Tryz.func100, Tryz.ntmps100
  go_upto_region 1 with (fail)
  generalize (w.alloc (.cells #[.int .i64 op, .int .i64 a, .int .i64 b, .int .i64 c] 62)) = W1 at *
  obtain ⟨i0, i1, i2, i3⟩ := hI1.cells4
  simp only at i0 i1 i2 i3
  have hnw : w.heap.size < W1.heap.size := hI1.1
  have hxW : x < W1.heap.size := hD1.xw
  have j1 : ∀ p, (wide W1 p).cell? ⟨w.heap.size, 1, none⟩ = some (.int .i64 a) := fun p => wide_cell p hnw i1
  have j2 : ∀ p, (wide W1 p).cell? ⟨w.heap.size, 2, none⟩ = some (.int .i64 b) := fun p => wide_cell p hnw i2
  have eb : ∀ p, (wide W1 p).cell? ⟨x, 11 + b, none⟩ = some (.int .i64 (m.reg b)) := fun p => wide_cell p hxW (hD1.reg b hb)
  have e1 : ∀ p, (wide W1 p).cell? ⟨x, 1, none⟩ = some (.int .i64 W.self) := fun p => wide_cell p hxW (hD1.cell 1 rfl)
  have e3 : ∀ p, (wide W1 p).cell? ⟨x, 3, none⟩ = some (.int .u64 W.seed) := fun p => wide_cell p hxW (hD1.cell 3 rfl)
  have e28 : ∀ p, (wide W1 p).cell? ⟨x, 28, none⟩ = some (.int .i64 m.d) := fun p => wide_cell p hxW hD1.d
  have hD1' := Lib.hid hD1
  have hK1' := Lib.hid hK1
  clear hD1 hK1 hI1 i0 i1 i2 i3
  generalize m.reg b = B at *
  generalize belowP W.seed W.self m.d B = Z at *
  refine wp_region_wide_tail 27 (by kernel_rfl) (by kernel_rfl) ?_
  simp only [List.take_succ_cons, List.take_zero, List.drop_succ_cons, List.drop_zero]
  repeat (quiet_step (exact Calls.wide_of (hcall _)))
  refine wpQuiet_nil ?_
  refine wide_all fun W2 hb2 => ?_
  have hD2 := hD1'.out.below hb2
  have hK2 := hK1'.out.then_below (hb2.mono hD1'.out.hb)
  clear hcall j1 j2 eb e1 e3 e28 hD1' hK1' hb2
  have ea := hD2.reg a ha
  have fa := hD2.fx (11 + a)
  have hD3 := Lib.hid (hD2.setR a ha Z)
  have hK3 := Lib.hid (hK2.set (11 + a) (.int .i64 Z))
  clear hD2 hK2
  go_upto_region 2 with (fail)
  have hD4 := hD3.out
  have hK4 := hK3.out
  clear hD3 hK3 ea fa
  generalize W2.setCell ⟨x, 11 + a, none⟩ (.int .i64 Z) = W4 at *
  have e28 := hD4.d
  have f28 := hD4.fx 28
  simp only [Mc.put] at e28
  have hQ := Lib.hid (And.intro (hD4.setD (m.d + 1)) (hK4.set 28 (.int .i64 (m.d + 1))))
  clear hD4 hK4
  obtain ⟨hd1, hd2⟩ := hd
  go_wp2
  go_end0
  first | exact InsQ.on rfl hQ.out | (rw [hC'.out]; exact InsQ.on rfl hQ.out)
end
end Go.Proofs.YtminfmjgmmkaoaaGreatDoor
