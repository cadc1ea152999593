/-
  The program's running handler in memory, and how it turns; what a step leaves alone.
-/
import Derived.Test.YtminfmjgmmkaoaaGreatDoorVmD3
import Derived.Test.YtminfmjgmmkaoaaGreatDoorQA
namespace Go.Proofs.YtminfmjgmmkaoaaGreatDoor
open Go.ChangeShapes Go.WideShapes Go.ChangeAt Go.RowKit Go.Sort
set_option linter.unusedVariables false
set_option maxRecDepth 4000

/-- Below b1 all is as it was, but for block x. -/
structure Kp (x b1 : Nat) (w w' : World) : Prop where
  os : w'.os = w.os
  tape : w'.tape = w.tape
  output : w'.output = w.output
  size : w.heap.size ≤ w'.heap.size
  block : ∀ k, k < b1 → k ≠ x → w'.heap[k]? = w.heap[k]?
namespace Kp
variable {x b1 : Nat} {a w w' : World}
theorem refl (x b1 : Nat) (w : World) : Kp x b1 w w := ⟨rfl, rfl, rfl, Nat.le_refl _, fun _ _ _ => rfl⟩
theorem trans {c : World} (h : Kp x b1 a w) (k : Kp x b1 w c) : Kp x b1 a c :=
  ⟨k.os.trans h.os, k.tape.trans h.tape, k.output.trans h.output, Nat.le_trans h.size k.size, fun i hi hx => (k.block i hi hx).trans (h.block i hi hx)⟩
theorem of_below (h : Below b1 w w') : Kp x b1 w w' := ⟨h.os, h.tape, h.output, h.size, fun k hk _ => h.block k hk⟩
theorem then_below (h : Kp x b1 a w) (hb : Below b1 w w') : Kp x b1 a w' := h.trans (of_below hb)
theorem set (h : Kp x b1 a w) (j : Nat) (u : Value) : Kp x b1 a (w.setCell ⟨x, j, none⟩ u) :=
  h.trans ⟨rfl, rfl, rfl, by simp [World.setCell], fun k hk hx => Below.heap_setCell _ _ _ _ (by simpa using hx)⟩
theorem drew (h : Kp x b1 a w) : Kp x b1 a w.drew := ⟨h.os, h.tape, h.output, h.size, h.block⟩
theorem below (h : Kp x b1 a w) {b0 : Nat} (h0 : b0 ≤ x) (h1 : b0 ≤ b1) : Below b0 a w := ⟨h.os, h.tape, h.output, h.size, fun k hk => h.block k (by omega) (by omega)⟩
theorem cell (h : Kp x b1 a w) {p : Addr} (h1 : p.block < b1) (h2 : p.block ≠ x) : w.cell? p = a.cell? p := World.cell?_of_block (w := a) (h.block p.block h1 h2)
end Kp
theorem six16 {r : List Int} (h : r.length = 16) : ∃ y0 y1 y2 y3 y4 y5 y6 y7 y8 y9 ya yb yc yd ye yf, r = [y0, y1, y2, y3, y4, y5, y6, y7, y8, y9, ya, yb, yc, yd, ye, yf] := by
  match r, h with
  | [y0, y1, y2, y3, y4, y5, y6, y7, y8, y9, ya, yb, yc, yd, ye, yf], _ => exact ⟨_, _, _, _, _, _, _, _, _, _, _, _, _, _, _, _, rfl⟩
theorem nat16 {j : Nat} (h : j < 16) : j = 0 ∨ j = 1 ∨ j = 2 ∨ j = 3 ∨ j = 4 ∨ j = 5 ∨ j = 6 ∨ j = 7 ∨ j = 8 ∨ j = 9 ∨ j = 10 ∨ j = 11 ∨ j = 12 ∨ j = 13 ∨ j = 14 ∨ j = 15 := by omega
/-- The cells of the program's running handler. -/
def hC (v : Wv) (W : Wd) (ev : M) (ov : Value) (m : Mc) : Array Value :=
  (([.slice v.pa v.pl v.pc, .int .i64 W.self, .slice v.la v.ll v.lc, .int .u64 W.seed, .int .i64 ev.k.t, .int .i64 ev.k.f, .int .i64 ev.k.s, .int .i64 ev.to, .int .i64 ev.v, .int .i64 ev.u, .bool ev.anti] : List Value) ++ (m.r.map (Value.int .i64 ·) ++ [.int .i64 m.pc, .int .i64 m.d, ov])).toArray
section
variable {v : Wv} {W : Wd} {ev : M} {ov : Value} {m : Mc}
theorem hC_reg (h : m.r.length = 16) (j : Nat) (hj : j < 16) : (hC v W ev ov m)[11 + j]? = some (.int .i64 (m.reg j)) := by
  obtain ⟨r, d, o, pc⟩ := m
  obtain ⟨y0, y1, y2, y3, y4, y5, y6, y7, y8, y9, ya, yb, yc, yd, ye, yf, rfl⟩ := six16 h
  rcases nat16 hj with rfl | rfl | rfl | rfl | rfl | rfl | rfl | rfl | rfl | rfl | rfl | rfl | rfl | rfl | rfl | rfl <;> rfl
theorem hC_tail (h : m.r.length = 16) : (hC v W ev ov m)[27]? = some (.int .i64 m.pc) ∧ (hC v W ev ov m)[28]? = some (.int .i64 m.d) ∧ (hC v W ev ov m)[29]? = some ov := by
  obtain ⟨r, d, o, pc⟩ := m
  obtain ⟨y0, y1, y2, y3, y4, y5, y6, y7, y8, y9, ya, yb, yc, yd, ye, yf, rfl⟩ := six16 h
  exact ⟨rfl, rfl, rfl⟩
theorem hC_put (h : m.r.length = 16) (j : Nat) (hj : j < 16) (n : Int) : (hC v W ev ov m).setIfInBounds (11 + j) (.int .i64 n) = hC v W ev ov (m.put j n) := by
  obtain ⟨r, d, o, pc⟩ := m
  obtain ⟨y0, y1, y2, y3, y4, y5, y6, y7, y8, y9, ya, yb, yc, yd, ye, yf, rfl⟩ := six16 h
  rcases nat16 hj with rfl | rfl | rfl | rfl | rfl | rfl | rfl | rfl | rfl | rfl | rfl | rfl | rfl | rfl | rfl | rfl <;> rfl
theorem hC_tails (h : m.r.length = 16) (n : Int) (u : Value) : (hC v W ev ov m).setIfInBounds 27 (.int .i64 n) = hC v W ev ov { m with pc := n } ∧ (hC v W ev ov m).setIfInBounds 28 (.int .i64 n) = hC v W ev ov { m with d := n } ∧ (hC v W ev ov m).setIfInBounds 29 u = hC v W ev u m := by
  obtain ⟨r, d, o, pc⟩ := m
  obtain ⟨y0, y1, y2, y3, y4, y5, y6, y7, y8, y9, ya, yb, yc, yd, ye, yf, rfl⟩ := six16 h
  exact ⟨rfl, rfl, rfl⟩
end
theorem heap_put {w : World} {T j : Nat} {C : Array Value} {t : TypeId} {u : Value} (h : w.heap[T]? = some (.cells C t (0, 0))) : (w.setCell ⟨T, j, none⟩ u).heap[T]? = some (.cells (C.setIfInBounds j u) t (0, 0)) := by
  simp [World.setCell, Array.getElem?_modify, h]
/-- The handler lies at x; what it sent is a slice of the call's own. -/
structure HM (b1 : Nat) (w : World) (x : Nat) (v : Wv) (W : Wd) (ev : M) (ov : Value) (m : Mc) : Prop where
  xb : x < b1
  hb : b1 ≤ w.heap.size
  hx : w.heap[x]? = some (.cells (hC v W ev ov m) 124 (0, 0))
  rl : m.r.length = 16
  own : w.ownsRow b1 129 3 ov m.o.length (flatO m.o)
namespace HM
variable {b1 : Nat} {w w' : World} {x : Nat} {v : Wv} {W : Wd} {ev : M} {ov : Value} {m : Mc}
theorem below (h : HM b1 w x v W ev ov m) (hb : Below w.heap.size w w') : HM b1 w' x v W ev ov m :=
  ⟨h.xb, Nat.le_trans h.hb hb.size, (hb.block x (Nat.lt_of_lt_of_le h.xb h.hb)).trans h.hx, h.rl, owns_below h.own hb⟩
theorem alloc (h : HM b1 w x v W ev ov m) (o : Obj) : HM b1 (w.alloc o) x v W ev ov m := h.below ((Below.refl _ _).alloc (Nat.le_refl _) o)
theorem drew (h : HM b1 w x v W ev ov m) : HM b1 w.drew x v W ev ov m := h.below (Below.refl _ _).drew
theorem xw (h : HM b1 w x v W ev ov m) : x < w.heap.size := Nat.lt_of_lt_of_le h.xb h.hb
theorem cell (h : HM b1 w x v W ev ov m) (j : Nat) {u : Value} (hj : (hC v W ev ov m)[j]? = some u) : w.cell? ⟨x, j, none⟩ = some u := by
  simp [World.cell?, h.hx, hj]
theorem fx (h : HM b1 w x v W ev ov m) (j : Nat) : w.frozen? ⟨x, j, none⟩ = false := by simp [World.frozen?, h.hx]
theorem reg (h : HM b1 w x v W ev ov m) (j : Nat) (hj : j < 16) : w.cell? ⟨x, 11 + j, none⟩ = some (.int .i64 (m.reg j)) := h.cell _ (hC_reg h.rl j hj)
theorem pc (h : HM b1 w x v W ev ov m) : w.cell? ⟨x, 27, none⟩ = some (.int .i64 m.pc) := h.cell _ (hC_tail h.rl).1
theorem d (h : HM b1 w x v W ev ov m) : w.cell? ⟨x, 28, none⟩ = some (.int .i64 m.d) := h.cell _ (hC_tail h.rl).2.1
theorem o (h : HM b1 w x v W ev ov m) : w.cell? ⟨x, 29, none⟩ = some ov := h.cell _ (hC_tail h.rl).2.2
theorem setPc (h : HM b1 w x v W ev ov m) (n : Int) : HM b1 (w.setCell ⟨x, 27, none⟩ (.int .i64 n)) x v W ev ov { m with pc := n } :=
  ⟨h.xb, by simpa [World.setCell] using h.hb, (heap_put h.hx).trans (by rw [(hC_tails h.rl n undef).1]), h.rl, ownsRow_setCell_below h.own (by simpa using h.xb) _⟩
theorem setD (h : HM b1 w x v W ev ov m) (n : Int) : HM b1 (w.setCell ⟨x, 28, none⟩ (.int .i64 n)) x v W ev ov { m with d := n } :=
  ⟨h.xb, by simpa [World.setCell] using h.hb, (heap_put h.hx).trans (by rw [(hC_tails h.rl n undef).2.1]), h.rl, ownsRow_setCell_below h.own (by simpa using h.xb) _⟩
theorem setR (h : HM b1 w x v W ev ov m) (j : Nat) (hj : j < 16) (n : Int) : HM b1 (w.setCell ⟨x, 11 + j, none⟩ (.int .i64 n)) x v W ev ov (m.put j n) :=
  ⟨h.xb, by simpa [World.setCell] using h.hb, (heap_put h.hx).trans (by rw [hC_put h.rl j hj n]), by simpa [Mc.put] using h.rl, ownsRow_setCell_below h.own (by simpa using h.xb) _⟩
theorem setO (h : HM b1 w x v W ev ov m) {ov' : Value} {o' : List Ot} {row : Option Nat} (hg : w.grownBy w' row) (hr : ∀ k, row = some k → b1 ≤ k) (hown : w'.ownsRow b1 129 3 ov' o'.length (flatO o')) :
    HM b1 (w'.setCell ⟨x, 29, none⟩ ov') x v W ev ov' { m with o := o' } := by
  have hb : Below b1 w w' := (Below.refl b1 w).grown hg h.hb hr
  have hx := (hb.block x h.xb).trans h.hx
  exact ⟨h.xb, by simpa [World.setCell] using Nat.le_trans h.hb hb.size, (heap_put hx).trans (by rw [(hC_tails h.rl 0 ov').2.2]; rfl), h.rl, ownsRow_setCell_below hown (by simpa using h.xb) _⟩
end HM
/-- The value of a fault. -/
def faultV (k : Int) : List PanicEntry := [{ v := .iface 167 (.agg #[.int .i64 k]), recovered := false }]
/-- What an instruction comes to. -/
def InsQ (b1 : Nat) (w : World) (x : Nat) (v : Wv) (W : Wd) (ev : M) (r : Res) (e : Ending) (w' : World) : Prop := match r with
  | .fault k => e = .panicked (faultV k) ∧ k ≠ 0 ∧ Kp x b1 w w'
  | .stop m' => e = .returned (.tuple #[]) ∧ ∃ ov', HM b1 w' x v W ev ov' m' ∧ Kp x b1 w w'
  | .on m' => e = .returned (.tuple #[]) ∧ ∃ ov', HM b1 w' x v W ev ov' m' ∧ Kp x b1 w w'
theorem InsQ.on {b1 : Nat} {w : World} {x : Nat} {v : Wv} {W : Wd} {ev : M} {m' : Mc} {e : Ending} {w' : World} {ov' : Value} (h : e = .returned (.tuple #[])) (hQ : HM b1 w' x v W ev ov' m' ∧ Kp x b1 w w') : InsQ b1 w x v W ev (.on m') e w' := ⟨h, ov', hQ⟩
theorem InsQ.stop {b1 : Nat} {w : World} {x : Nat} {v : Wv} {W : Wd} {ev : M} {m' : Mc} {e : Ending} {w' : World} {ov' : Value} (h : e = .returned (.tuple #[])) (hQ : HM b1 w' x v W ev ov' m' ∧ Kp x b1 w w') : InsQ b1 w x v W ev (.stop m') e w' := ⟨h, ov', hQ⟩
end Go.Proofs.YtminfmjgmmkaoaaGreatDoor
