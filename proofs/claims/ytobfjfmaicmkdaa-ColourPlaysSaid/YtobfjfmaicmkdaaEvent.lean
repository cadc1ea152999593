
/-
  The contracts of the functions of package event over keys and messages, and of the document's own answers for them, each at every key and every message.
-/
import Derived.Test.YtobfjfmaicmkdaaRows
import Derived.WalkKit
import Derived.ProofKit
import Derived.OpenShut
import Derived.WalkLawsBesides
import Derived.Outline
import Derived.Laws.StructEq
import Derived.Shelf.SlSortCmp.QuietGrown
import Derived.Lib.Hide
namespace Go.Proofs.Ytobfjfmaicmkdaa
open Go.ChangeShapes Go.WideShapes Go.ChangeAt Go.RowKit Go.Sort

/-- What a function that only reads leaves behind: some draws, and blocks of its own. -/
def Read (w w' : World) : Prop := ∃ q os, w' = grow (w.drewN q) os
theorem Read.refl (w : World) : Read w w := ⟨0, #[], by rw [grow_empty]; rfl⟩
theorem Read.trans {a b c : World} (h : Read a b) (h' : Read b c) : Read a c := by
  obtain ⟨q, os, rfl⟩ := h
  obtain ⟨q', os', rfl⟩ := h'
  exact ⟨q + q', os ++ os', by show grow (grow ((a.drewN q).drewN q') os) os' = _; rw [grow_grow, World.drewN_drewN]⟩
theorem Read.alloc {a b : World} (o : Obj) (h : Read (a.alloc o) b) : Read a b :=
  Read.trans ⟨0, #[o], by rw [alloc_eq_grow]; rfl⟩ h
theorem Read.mk (a : World) (o : Obj) : Read a (a.alloc o) := Read.alloc o (Read.refl _)
theorem Read.drew (a : World) (n : Nat) : Read a (a.drewN n) := ⟨n, #[], by rw [grow_empty]⟩

/-- One number by another. -/
def sgn (a b : Int) : Int := if a < b then -1 else if b < a then 1 else 0
/-- A key. -/
structure K where
  t : Int
  f : Int
  s : Int
  deriving DecidableEq, Inhabited
/-- A message. -/
structure M where
  k : K
  to : Int
  v : Int
  u : Int
  anti : Bool
  deriving DecidableEq, Inhabited
def K.val (k : K) : Value := .agg #[.int .i64 k.t, .int .i64 k.f, .int .i64 k.s]
def M.val (m : M) : Value := .agg #[.int .i64 m.k.t, .int .i64 m.k.f, .int .i64 m.k.s, .int .i64 m.to, .int .i64 m.v, .int .i64 m.u, .bool m.anti]
/-- The order of keys. -/
def cmpK (a b : K) : Int := if a.t ≠ b.t then sgn a.t b.t else if a.f ≠ b.f then sgn a.f b.f else sgn a.s b.s
/-- The order of messages. -/
def ltM (a b : M) : Bool := cmpK a.k b.k < 0 || (cmpK a.k b.k == 0 && decide (a.u < b.u))

theorem sgn_lt {a b : Int} (h : a < b) : sgn a b = -1 := by simp [sgn, h]
theorem sgn_gt {a b : Int} (h : b < a) : sgn a b = 1 := by
  have : ¬ a < b := by omega
  simp [sgn, h, this]
theorem sgn_eq (a : Int) : sgn a a = 0 := by simp [sgn]

end Go.Proofs.Ytobfjfmaicmkdaa
