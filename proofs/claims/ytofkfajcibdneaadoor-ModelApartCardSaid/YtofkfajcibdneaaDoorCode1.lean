
/-
  Instructions as plain data, and the contracts of the small functions of package code, at every number and every instruction.
-/
import Derived.Test.YtofkfajcibdneaaDoorRows
import Derived.WalkKit
import Derived.ProofKit
import Derived.OpenShut
import Derived.WalkLawsBesides
import Derived.Outline
import Derived.Laws.StructEq
import Derived.Shelf.SlSortCmp.QuietGrown
import Derived.Lib.Hide
import Derived.Below
namespace Go.Proofs.YtofkfajcibdneaaDoor
open Go.ChangeShapes Go.WideShapes Go.ChangeAt Go.RowKit Go.Sort

theorem mixed : Tryd.prog.follows .mixedOrders = true := by kernel_rfl
/-- What a function that only reads leaves behind: some draws, and blocks of its own. -/
def Read (w w' : World) : Prop := ∃ q os, w' = grow (w.drewN q) os
theorem Read.refl (w : World) : Read w w := ⟨0, #[], by rw [grow_empty]; rfl⟩
theorem Read.trans {a b c : World} (h : Read a b) (h' : Read b c) : Read a c := by
  obtain ⟨q, os, rfl⟩ := h
  obtain ⟨q', os', rfl⟩ := h'
  exact ⟨q + q', os ++ os', by show grow (grow ((a.drewN q).drewN q') os) os' = _; rw [grow_grow, World.drewN_drewN]⟩
theorem Read.alloc {a b : World} (o : Obj) (h : Read (a.alloc o) b) : Read a b :=
  Read.trans ⟨0, #[o], by rw [alloc_eq_grow]; rfl⟩ h
theorem Read.mk (a : World) (o : Obj) : Read a (a.alloc o) := Read.alloc o (Read.refl _)
theorem Read.two (w : World) (o o' : Obj) : Read w ((w.alloc o).alloc o') := Read.alloc _ (Read.mk _ _)
theorem Read.drew (a : World) (n : Nat) : Read a (a.drewN n) := ⟨n, #[], by rw [grow_empty]⟩
theorem Read.cell {w w' : World} {a : Addr} {v : Value} (h : Read w w') (hb : a.block < w.heap.size) (hc : w.cell? a = some v) : w'.cell? a = some v := by
  obtain ⟨q, os, rfl⟩ := h
  exact cell_grown hb hc q os
theorem Read.size {w w' : World} (h : Read w w') : w.heap.size ≤ w'.heap.size := by
  obtain ⟨q, os, rfl⟩ := h
  rw [size_grow]
  exact Nat.le_add_right _ _
theorem Read.below {w w' : World} (h : Read w w') : Below w.heap.size w w' := by
  obtain ⟨q, os, rfl⟩ := h
  exact ⟨rfl, rfl, rfl, by simp [grow], fun i hi => by
    show ((w.drewN q).heap ++ os)[i]? = _
    rw [Array.getElem?_append_left (by exact hi)]
    rfl⟩
theorem Calls.read_of {P : Program} {f : FuncId} {args : Array Value} {w : World} {n : Nat} {os : Array Obj} {v : Value}
    (h : Calls P f args (grow (w.drewN n) os) fun e w' => e = .returned v ∧ Read (grow (w.drewN n) os) w') : Calls P f args (grow (w.drewN n) os) fun e w'' => e = .returned v ∧ ∃ p : GrownBy, w'' = grow (w.drewN p.n) p.os :=
  Calls.grown_of h
theorem ret_bool {a b : Bool} (h : a = b) : Ending.returned (.bool a) = .returned (.bool b) := by rw [h]

/-- An instruction. -/
structure I where
  op : Int
  a : Int
  b : Int
  c : Int
  deriving DecidableEq, Inhabited
def I.val (i : I) : Value := .agg #[.int .i64 i.op, .int .i64 i.a, .int .i64 i.b, .int .i64 i.c]
def I.cells (i : I) : Array Value := #[.int .i64 i.op, .int .i64 i.a, .int .i64 i.b, .int .i64 i.c]
/-- A register. -/
def regB (x : Int) : Bool := decide (0 ≤ x ∧ x ≤ 15)
def wordB (x : Int) : Bool := decide (-2147483648 ≤ x ∧ x ≤ 2147483647)
def placeB (x n : Int) : Bool := decide (0 ≤ x ∧ x ≤ n)

theorem isRegister_any (x : Int) (w : World) : Calls Tryd.prog 55 #[.int .i64 x] w fun e w' => e = .returned (.bool (regB x)) ∧ w = w' := by
  have hz : Hid (regB x = decide (0 ≤ x ∧ x ≤ 15)) := rfl
  generalize regB x = z at hz ⊢
  by_cases h : 0 ≤ x <;> by_cases h' : x < 16
  all_goals
    go_enter Tryd.func55, Tryd.ntmps55
    go_wp2
    go_ret
    exact ⟨ret_bool (by rw [hz.out]; simp; omega), rfl⟩
theorem reg_any (x : Int) (w : World) : Calls Tryd.prog 53 #[.int .i64 x] w fun e w' => e = .returned (.bool (regB x)) ∧ w = w' := by
  have hz : Hid (regB x = decide (0 ≤ x ∧ x ≤ 15)) := rfl
  generalize regB x = z at hz ⊢
  by_cases h : 0 ≤ x <;> by_cases h' : x ≤ 15
  all_goals
    go_enter Tryd.func53, Tryd.ntmps53
    go_wp2
    go_ret
    exact ⟨ret_bool (by rw [hz.out]; simp; omega), rfl⟩
theorem isWord_any (x : Int) (w : World) : Calls Tryd.prog 56 #[.int .i64 x] w fun e w' => e = .returned (.bool (wordB x)) ∧ w = w' := by
  have hz : Hid (wordB x = decide (-2147483648 ≤ x ∧ x ≤ 2147483647)) := rfl
  generalize wordB x = z at hz ⊢
  by_cases h : -2147483648 ≤ x <;> by_cases h' : x ≤ 2147483647
  all_goals
    go_enter Tryd.func56, Tryd.ntmps56
    go_wp2
    go_ret
    exact ⟨ret_bool (by rw [hz.out]; simp; omega), rfl⟩
theorem isPlace_any (x n : Int) (w : World) : Calls Tryd.prog 57 #[.int .i64 x, .int .i64 n] w fun e w' => e = .returned (.bool (placeB x n)) ∧ w = w' := by
  have hz : Hid (placeB x n = decide (0 ≤ x ∧ x ≤ n)) := rfl
  generalize placeB x n = z at hz ⊢
  by_cases h : 0 ≤ x <;> by_cases h' : x ≤ n
  all_goals
    go_enter Tryd.func57, Tryd.ntmps57
    go_wp2
    go_ret
    exact ⟨ret_bool (by rw [hz.out]; simp; omega), rfl⟩

end Go.Proofs.YtofkfajcibdneaaDoor
