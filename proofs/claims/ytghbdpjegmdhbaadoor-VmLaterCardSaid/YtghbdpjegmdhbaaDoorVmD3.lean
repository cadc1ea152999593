/-
  The document's running handler in memory, and how it turns.
-/
import Derived.Test.YtghbdpjegmdhbaaDoorVmD2
import Derived.OwnWalk
import Derived.Laws.AppendOwn
import Derived.Deep.Cut
import Derived.Deep.QuietTactic
import Derived.BigQuiet
namespace Go.Proofs.YtghbdpjegmdhbaaDoor
open Go.ChangeShapes Go.WideShapes Go.ChangeAt Go.RowKit Go.Sort
set_option linter.unusedVariables false
set_option maxRecDepth 4000

theorem owns_below {w w' : World} {base : Nat} {e : TypeId} {size : Nat} {v : Value} {n : Nat} {xs : List Value} (h : w.ownsRow base e size v n xs) (hb : Below w.heap.size w w') : w'.ownsRow base e size v n xs :=
  h.kept (row := none) ⟨hb.os, hb.tape, hb.output, hb.size, fun k hk _ => hb.block k hk⟩ (by cases v.ownBlock <;> simp)
def flatO (os : List Ot) : List Value := (os.map fun o => o.cells.toList).flatten
theorem flatO_append (a b : List Ot) : flatO (a ++ b) = flatO a ++ flatO b := by simp [flatO]
theorem flatO_one (o : Ot) : flatO [o] = [.int .i64 o.link, .int .i64 o.delay, .int .i64 o.value] := rfl
theorem flatO_length (os : List Ot) : (flatO os).length = os.length * 3 := by
  induction os with
  | nil => rfl
  | cons o t ih =>
    have : flatO (o :: t) = flatO [o] ++ flatO t := flatO_append [o] t
    rw [this, List.length_append, ih, flatO_one, List.length_cons]
    simp only [List.length_cons, List.length_nil]
    omega
/-- The cells of a running handler. -/
def runC (v : Wv) (W : Wd) (ev : M) (rb : Nat) (ov : Value) (m : Mc) : Array Value :=
  #[.slice v.pa v.pl v.pc, .int .i64 W.self, .slice v.la v.ll v.lc, .int .u64 W.seed, .int .i64 ev.k.t, .int .i64 ev.k.f, .int .i64 ev.k.s, .int .i64 ev.to, .int .i64 ev.v, .int .i64 ev.u, .bool ev.anti,
    .slice (some ⟨rb, 0, none⟩) 16 16, .int .i64 m.d, ov, .int .i64 m.pc]
def regC (m : Mc) : Array Value := (m.r.map (Value.int .i64 ·)).toArray
/-- A running handler lies at x, its registers at rb, what it sent in ov, a slice of the call's own. -/
structure DM (b1 : Nat) (w : World) (x rb : Nat) (v : Wv) (W : Wd) (ev : M) (ov : Value) (m : Mc) : Prop where
  xb : x < b1
  rbb : rb < b1
  ne : x ≠ rb
  hb : b1 ≤ w.heap.size
  hx : w.heap[x]? = some (.cells (runC v W ev rb ov m) 74 (0, 0))
  hr : w.heap[rb]? = some (.cells (regC m) 2 (0, 0))
  rl : m.r.length = 16
  own : w.ownsRow b1 47 3 ov m.o.length (flatO m.o)
namespace DM
variable {b1 : Nat} {w w' : World} {x rb : Nat} {v : Wv} {W : Wd} {ev : M} {ov : Value} {m : Mc}
theorem below (h : DM b1 w x rb v W ev ov m) (hb : Below w.heap.size w w') : DM b1 w' x rb v W ev ov m :=
  ⟨h.xb, h.rbb, h.ne, Nat.le_trans h.hb hb.size, (hb.block x (Nat.lt_of_lt_of_le h.xb h.hb)).trans h.hx, (hb.block rb (Nat.lt_of_lt_of_le h.rbb h.hb)).trans h.hr, h.rl, owns_below h.own hb⟩
theorem alloc (h : DM b1 w x rb v W ev ov m) (o : Obj) : DM b1 (w.alloc o) x rb v W ev ov m := h.below ((Below.refl _ _).alloc (Nat.le_refl _) o)
theorem drew (h : DM b1 w x rb v W ev ov m) : DM b1 w.drew x rb v W ev ov m := h.below (Below.refl _ _).drew
theorem xw (h : DM b1 w x rb v W ev ov m) : x < w.heap.size := Nat.lt_of_lt_of_le h.xb h.hb
theorem rw' (h : DM b1 w x rb v W ev ov m) : rb < w.heap.size := Nat.lt_of_lt_of_le h.rbb h.hb
theorem cell (h : DM b1 w x rb v W ev ov m) (j : Nat) {u : Value} (hj : (runC v W ev rb ov m)[j]? = some u) : w.cell? ⟨x, j, none⟩ = some u := by
  simp [World.cell?, h.hx, hj]
theorem fx (h : DM b1 w x rb v W ev ov m) (j : Nat) : w.frozen? ⟨x, j, none⟩ = false := by simp [World.frozen?, h.hx]
theorem fr (h : DM b1 w x rb v W ev ov m) (j : Nat) : w.frozen? ⟨rb, j, none⟩ = false := by simp [World.frozen?, h.hr]
theorem reg (h : DM b1 w x rb v W ev ov m) (j : Nat) (hj : j < 16) : w.cell? ⟨rb, j, none⟩ = some (.int .i64 (m.reg j)) := by
  have hl : j < m.r.length := by rw [h.rl]; exact hj
  have : (regC m)[j]? = some (.int .i64 (m.reg j)) := by
    simp [regC, Mc.reg, hl]
  simp [World.cell?, h.hr, this]
theorem setPc (h : DM b1 w x rb v W ev ov m) (n : Int) : DM b1 (w.setCell ⟨x, 14, none⟩ (.int .i64 n)) x rb v W ev ov { m with pc := n } :=
  ⟨h.xb, h.rbb, h.ne, by simpa [World.setCell] using h.hb, by simp [World.setCell, Array.getElem?_modify, h.hx, runC],
    (Below.heap_setCell _ _ _ _ (by simpa using h.ne.symm)).trans h.hr, h.rl, ownsRow_setCell_below h.own (by simpa using h.xb) _⟩
theorem setD (h : DM b1 w x rb v W ev ov m) (n : Int) : DM b1 (w.setCell ⟨x, 12, none⟩ (.int .i64 n)) x rb v W ev ov { m with d := n } :=
  ⟨h.xb, h.rbb, h.ne, by simpa [World.setCell] using h.hb, by simp [World.setCell, Array.getElem?_modify, h.hx, runC],
    (Below.heap_setCell _ _ _ _ (by simpa using h.ne.symm)).trans h.hr, h.rl, ownsRow_setCell_below h.own (by simpa using h.xb) _⟩
theorem setR (h : DM b1 w x rb v W ev ov m) (j : Nat) (hj : j < 16) (n : Int) : DM b1 (w.setCell ⟨rb, j, none⟩ (.int .i64 n)) x rb v W ev ov (m.put j n) :=
  ⟨h.xb, h.rbb, h.ne, by simpa [World.setCell] using h.hb, (Below.heap_setCell _ _ _ _ (by simpa using h.ne)).trans h.hx,
    by simp [World.setCell, Array.getElem?_modify, h.hr, regC, Mc.put, List.map_set], by simpa [Mc.put] using h.rl, ownsRow_setCell_below h.own (by simpa using h.rbb) _⟩
/-- What was sent, grown by an append, and put into its place. -/
theorem setO (h : DM b1 w x rb v W ev ov m) {ov' : Value} {o' : List Ot} {row : Option Nat} (hg : w.grownBy w' row) (hr : ∀ k, row = some k → b1 ≤ k) (hown : w'.ownsRow b1 47 3 ov' o'.length (flatO o')) :
    DM b1 (w'.setCell ⟨x, 13, none⟩ ov') x rb v W ev ov' { m with o := o' } := by
  have hb : Below b1 w w' := (Below.refl b1 w).grown hg h.hb hr
  have hx := (hb.block x h.xb).trans h.hx
  exact ⟨h.xb, h.rbb, h.ne, by simpa [World.setCell] using Nat.le_trans h.hb hb.size, by simp [World.setCell, Array.getElem?_modify, hx, runC],
    (Below.heap_setCell _ _ _ _ (by simpa using h.ne.symm)).trans ((hb.block rb h.rbb).trans h.hr), h.rl, ownsRow_setCell_below hown (by simpa using h.xb) _⟩
end DM
/-- What a step comes to: the two answers, and the handler behind it. -/
def StepQ (b0 b1 : Nat) (w : World) (x rb : Nat) (v : Wv) (W : Wd) (ev : M) (r : Res) (e : Ending) (w' : World) : Prop := match r with
  | .fault k => e = .returned (.tuple #[.int .i64 k, .bool false]) ∧ k ≠ 0 ∧ Below b0 w w'
  | .stop m' => e = .returned (.tuple #[.int .i64 0, .bool false]) ∧ ∃ ov', DM b1 w' x rb v W ev ov' m' ∧ Below b0 w w'
  | .on m' => e = .returned (.tuple #[.int .i64 0, .bool true]) ∧ ∃ ov', DM b1 w' x rb v W ev ov' m' ∧ Below b0 w w'
theorem InsAt.setCell_ne {w : World} {b o : Nat} {i : I} (h : InsAt w b o i) {p : Addr} {u : Value} (hne : b ≠ p.block) : InsAt (w.setCell p u) b o i := by
  obtain ⟨hlt, h0, h1, h2, h3⟩ := h
  have hc : ∀ k, (w.setCell p u).cell? ⟨b, k, none⟩ = w.cell? ⟨b, k, none⟩ := fun k => World.cell?_of_block (w := w) (Below.heap_setCell _ _ _ _ hne)
  exact ⟨by simpa [World.setCell] using hlt, by rw [hc]; exact h0, by rw [hc]; exact h1, by rw [hc]; exact h2, by rw [hc]; exact h3⟩
theorem StepQ.on {b0 b1 : Nat} {w : World} {x rb : Nat} {v : Wv} {W : Wd} {ev : M} {m' : Mc} {e : Ending} {w' : World} {ov' : Value} (h : e = .returned (.tuple #[.int .i64 0, .bool true])) (hQ : DM b1 w' x rb v W ev ov' m' ∧ Below b0 w w') : StepQ b0 b1 w x rb v W ev (.on m') e w' := ⟨h, ov', hQ⟩
theorem StepQ.stop {b0 b1 : Nat} {w : World} {x rb : Nat} {v : Wv} {W : Wd} {ev : M} {m' : Mc} {e : Ending} {w' : World} {ov' : Value} (h : e = .returned (.tuple #[.int .i64 0, .bool false])) (hQ : DM b1 w' x rb v W ev ov' m' ∧ Below b0 w w') : StepQ b0 b1 w x rb v W ev (.stop m') e w' := ⟨h, ov', hQ⟩
end Go.Proofs.YtghbdpjegmdhbaaDoor
