
/-
  One more in the middle of a slice: the program's with, at messages and at days.
-/
import Derived.Test.YtcfpfbemmklbaaaYA
import Derived.Deep.RegionLaw
import Derived.Deep.RegionHeld3
import Derived.Shelf.RegionOpen
import Derived.LoopTactic
import Derived.BigRegion
import Derived.Deep.DeepCutAuto
import Derived.Outline
namespace Go.Proofs.Ytcfpfbemmklbaaa
open Go.ChangeShapes Go.WideShapes Go.ChangeAt Go.Shelf Go.RowKit Go.Lib Go.Sort Go.Deep
set_option linter.unusedVariables false

/-! Elements as cells. -/
section
variable {α : Type} {enc : α → List Value} {sz : Nat}
theorem fm_length (he : ∀ x, (enc x).length = sz) : ∀ l : List α, (l.flatMap enc).length = l.length * sz
  | [] => by simp
  | x :: l => by rw [List.flatMap_cons, List.length_append, he, fm_length he l, List.length_cons, Nat.add_mul]; omega
theorem fm_take (he : ∀ x, (enc x).length = sz) : ∀ (l : List α) (p : Nat), (l.take p).flatMap enc = (l.flatMap enc).take (p * sz)
  | [], p => by simp
  | x :: l, 0 => by simp
  | x :: l, p + 1 => by
    rw [List.take_succ_cons, List.flatMap_cons, List.flatMap_cons, fm_take he l p, List.take_append, he, Nat.add_mul, Nat.one_mul, Nat.add_sub_cancel, List.take_of_length_le (l := enc x) (by rw [he]; omega)]
theorem fm_drop (he : ∀ x, (enc x).length = sz) : ∀ (l : List α) (p : Nat), (l.drop p).flatMap enc = (l.flatMap enc).drop (p * sz)
  | [], p => by simp
  | x :: l, 0 => by simp
  | x :: l, p + 1 => by
    rw [List.drop_succ_cons, List.flatMap_cons, fm_drop he l p, List.drop_append, he, Nat.add_mul, Nat.one_mul, Nat.add_sub_cancel, List.drop_of_length_le (l := enc x) (by rw [he]; omega), List.nil_append]
theorem fm_splice (he : ∀ x, (enc x).length = sz) (l c : List α) (p : Nat) : splice (l.flatMap enc) (p * sz) (c.flatMap enc) = (splice l p c).flatMap enc := by
  unfold splice
  rw [List.flatMap_append, List.flatMap_append, fm_take he, fm_drop he, fm_length he, Nat.add_mul]
theorem splice_ins (l : List α) (p : Nat) (x : α) (hp : p ≤ l.length) : splice (splice (l ++ [x]) (p + 1) (l.drop p)) p [x] = l.take p ++ x :: l.drop p := by
  apply List.ext_getElem?
  intro j
  have h1 : (p + 1) + (l.drop p).length ≤ (l ++ [x]).length := by simp; omega
  have h2 : p + [x].length ≤ (splice (l ++ [x]) (p + 1) (l.drop p)).length := by rw [length_splice _ _ _ h1]; simp; omega
  rw [splice_get _ _ _ h2, splice_get _ _ _ h1]
  by_cases a : j < p
  · rw [if_pos a, if_pos (by omega), List.getElem?_append_left (by omega), List.getElem?_append_left (by rw [List.length_take]; omega), List.getElem?_take_of_lt a]
  · have eR : (l.take p ++ x :: l.drop p)[j]? = (x :: l.drop p)[j - p]? := by
      rw [List.getElem?_append_right (by rw [List.length_take]; omega), List.length_take, Nat.min_eq_left hp]
    rw [eR, if_neg a]
    by_cases b : j = p
    · subst b
      rw [if_pos (by simp)]
      simp
    · rw [if_neg (by simp; omega), if_neg (by omega)]
      obtain ⟨k, rfl⟩ : ∃ k, j = p + 1 + k := ⟨j - p - 1, by omega⟩
      rw [show p + 1 + k - p = k + 1 by omega, List.getElem?_cons_succ]
      by_cases c : p + 1 + k < p + 1 + (l.drop p).length
      · rw [if_pos c, show p + 1 + k - (p + 1) = k by omega]
      · rw [if_neg c, List.getElem?_eq_none (by simp at c ⊢; omega), List.getElem?_eq_none (by omega)]
end
/-- A day's cell. -/
def encI (d : Int) : List Value := [.int .i64 d]
theorem encI_length (d : Int) : (encI d).length = 1 := rfl
/-- Days as cells. -/
def ints (l : List Int) : List Value := l.flatMap encI
theorem ints_length (l : List Int) : (ints l).length = l.length := by unfold ints; rw [fm_length encI_length, Nat.mul_one]
theorem ints_one (l : List Int) : ∀ u ∈ ints l, u.oneCell' = true := by
  intro u hu
  unfold ints at hu
  obtain ⟨m, _, hm⟩ := List.mem_flatMap.1 hu
  obtain rfl : u = .int .i64 m := by simpa [encI] using hm
  rfl
theorem ints_get : ∀ (l : List Int) (j : Nat), (ints l)[j]? = (l[j]?).map (Value.int .i64)
  | [], j => by simp [ints]
  | d :: l, 0 => by simp [ints, encI]
  | d :: l, j + 1 => by
    have := ints_get l j
    unfold ints at *
    rw [List.flatMap_cons]
    simpa [encI] using this
/-- A row of messages; a row of days. -/
def RowM (w : World) (g off cap : Nat) (l : List M) : Prop := RowIn w 34 7 g off l.length cap (flat l)
def RowI (w : World) (g off cap : Nat) (l : List Int) : Prop := RowIn w 2 1 g off l.length cap (ints l)
def AtM (w : World) (v : Value) (l : List M) : Prop := RowAt w 34 7 v l.length (flat l)
def AtI (w : World) (v : Value) (l : List Int) : Prop := RowAt w 2 1 v l.length (ints l)
theorem infoI64 : (Try.prog.info? 2).map (fun i => (i.zero, i.size, i.bytes)) = some (some (.int .i64 0), 1, 8) := by kernel_rfl
theorem infoI1 : (Try.prog.info? 2).map (·.size) = some 1 := by kernel_rfl
theorem infoS : (Try.prog.info? 34).map (·.size) = some 7 := by kernel_rfl
theorem M.cells_one (m : M) : m.cells.all (·.oneCell') = true := by simp [M.cells, Value.oneCell']
/-- A box that holds a message. -/
def BoxM (w : World) (B : Nat) (m : M) : Prop := w.heap[B]? = some (.cells m.cells 34)
theorem BoxM.kept {S : Nat → Prop} {w w' : World} {B : Nat} {m : M} (h : BoxM w B m) (hk : KeptOff S w w') (hn : ¬ S B) : BoxM w' B m := (hk.block B (Array.getElem?_eq_some_iff.1 h).1 hn).trans h
theorem BoxM.lt {w : World} {B : Nat} {m : M} (h : BoxM w B m) : B < w.heap.size := (Array.getElem?_eq_some_iff.1 h).1
theorem BoxM.at {w : World} {B : Nat} {m : M} (h : BoxM w B m) : MsgAt w B 0 m := by
  refine ⟨h.lt, ?_, ?_, ?_, ?_, ?_, ?_, ?_⟩ <;> (unfold BoxM at h; simp [World.cell?, h, M.cells])
theorem BoxM.fz {w : World} {B : Nat} {m : M} (h : BoxM w B m) (o : Nat) : w.frozen? ⟨B, o, none⟩ = false := by unfold BoxM at h; simp [World.frozen?, h]
theorem BoxM.mk (w : World) (m : M) : BoxM (w.alloc (.cells m.cells 34)) w.heap.size m := heap_alloc_new w _
theorem BoxM.row {w : World} {B : Nat} {m0 : M} (h : BoxM w B m0) (m : M) : BoxM (w.setRow B m.cells) B m := setRow_heap w B _ _ _ _ h
theorem BoxM.below {w w' : World} {B : Nat} {m : M} (h : BoxM w B m) (hb : Below w.heap.size w w') : BoxM w' B m := (hb.block B h.lt).trans h

theorem flat_eq (l : List M) : flat l = l.flatMap encM := rfl
end Go.Proofs.Ytcfpfbemmklbaaa
