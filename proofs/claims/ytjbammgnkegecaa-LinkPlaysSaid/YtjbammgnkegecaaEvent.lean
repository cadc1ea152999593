
/-
  The contracts of the functions of package event over keys and messages, and of the document's own answers for them, each at every key and every message.
-/
import Derived.Test.YtjbammgnkegecaaRows
import Derived.WalkKit
import Derived.ProofKit
import Derived.OpenShut
import Derived.WalkLawsBesides
import Derived.Outline
import Derived.Laws.StructEq
import Derived.Shelf.SlSortCmp.QuietGrown
import Derived.Lib.Hide
namespace Go.Proofs.Ytjbammgnkegecaa
open Go.ChangeShapes Go.WideShapes Go.ChangeAt Go.RowKit Go.Sort

/-- What a function that only reads leaves behind: some draws, and blocks of its own. -/
def Read (w w' : World) : Prop := ∃ q os, w' = grow (w.drewN q) os
theorem Read.refl (w : World) : Read w w := ⟨0, #[], by rw [grow_empty]; rfl⟩
theorem Read.trans {a b c : World} (h : Read a b) (h' : Read b c) : Read a c := by
  obtain ⟨q, os, rfl⟩ := h
  obtain ⟨q', os', rfl⟩ := h'
  exact ⟨q + q', os ++ os', by show grow (grow ((a.drewN q).drewN q') os) os' = _; rw [grow_grow, World.drewN_drewN]⟩
theorem Read.alloc {a b : World} (o : Obj) (h : Read (a.alloc o) b) : Read a b :=
  Read.trans ⟨0, #[o], by rw [alloc_eq_grow]; rfl⟩ h
theorem Read.mk (a : World) (o : Obj) : Read a (a.alloc o) := Read.alloc o (Read.refl _)
theorem Read.drew (a : World) (n : Nat) : Read a (a.drewN n) := ⟨n, #[], by rw [grow_empty]⟩

/-- One number by another. -/
def sgn (a b : Int) : Int := if a < b then -1 else if b < a then 1 else 0
/-- A key. -/
structure K where
  t : Int
  f : Int
  s : Int
  deriving DecidableEq, Inhabited
/-- A message. -/
structure M where
  k : K
  to : Int
  v : Int
  u : Int
  anti : Bool
  deriving DecidableEq, Inhabited
def K.val (k : K) : Value := .agg #[.int .i64 k.t, .int .i64 k.f, .int .i64 k.s]
def M.val (m : M) : Value := .agg #[.int .i64 m.k.t, .int .i64 m.k.f, .int .i64 m.k.s, .int .i64 m.to, .int .i64 m.v, .int .i64 m.u, .bool m.anti]
/-- The order of keys. -/
def cmpK (a b : K) : Int := if a.t ≠ b.t then sgn a.t b.t else if a.f ≠ b.f then sgn a.f b.f else sgn a.s b.s
/-- The order of messages. -/
def ltM (a b : M) : Bool := cmpK a.k b.k < 0 || (cmpK a.k b.k == 0 && decide (a.u < b.u))

theorem sgn_lt {a b : Int} (h : a < b) : sgn a b = -1 := by simp [sgn, h]
theorem sgn_gt {a b : Int} (h : b < a) : sgn a b = 1 := by
  have : ¬ a < b := by omega
  simp [sgn, h, this]
theorem sgn_eq (a : Int) : sgn a a = 0 := by simp [sgn]

theorem eqInK (d : Nat) (a b : K) (w : World) : Sem.run Try.prog (Op.equalIn (d + 2) 33 a.val b.val) w = .ok (decide (a = b)) w := by
  have u2 := Try.underlying2
  have u3 := Try.underlying3
  have a2 := Try.isAgg2
  have z2 := Try.sizeOf2
  have a3 := Try.isAgg3
  have z3 := Try.sizeOf3
  have hS : Try.prog.underlying 33 = some (.struct (Try.prog.fieldsOf 33)) := by kernel_rfl
  have hp : Try.prog.stoodInHeld 33 = false := by kernel_rfl
  obtain ⟨t, f, s⟩ := a
  obtain ⟨t', f', s'⟩ := b
  simp only [K.val]
  rw [run_equalIn_agg w (d + 1) 33 _ _ hS hp]
  simp only [Program.fieldsOf, Try.underlying33]
  go_simp
  by_cases h1 : t = t' <;> by_cases h2 : f = f' <;> by_cases h3 : s = s' <;> simp [h1, h2, h3]
/-- The model's comparison of two keys. -/
theorem eqlK (a b : K) (w : World) : Sem.run Try.prog (binOp .eql 33 a.val b.val) w = .ok (.bool (decide (a = b))) w := by
  have h := eqInK 9998 a b w
  simp only [K.val] at h ⊢
  rw [run_eql_struct, h]
  rfl
theorem neqK (a b : K) (w : World) : Sem.run Try.prog (binOp .neq 33 a.val b.val) w = .ok (.bool (!decide (a = b))) w := by
  have h := eqInK 9998 a b w
  simp only [K.val] at h ⊢
  rw [run_neq_struct, h]
  rfl
/-- The model's comparison of two messages. -/
theorem eqInM (d : Nat) (a b : M) (w : World) : Sem.run Try.prog (Op.equalIn (d + 3) 35 a.val b.val) w = .ok (decide (a = b)) w := by
  have u2 := Try.underlying2
  have u3 := Try.underlying3
  have u4 := Try.underlying4
  have a2 := Try.isAgg2
  have z2 := Try.sizeOf2
  have a3 := Try.isAgg3
  have z3 := Try.sizeOf3
  have a4 := Try.isAgg4
  have z4 := Try.sizeOf4
  have aK := Try.isAgg33
  have zK := Try.sizeOf33
  have hS : Try.prog.underlying 35 = some (.struct (Try.prog.fieldsOf 35)) := by kernel_rfl
  have hp : Try.prog.stoodInHeld 35 = false := by kernel_rfl
  obtain ⟨⟨t, f, s⟩, to, v, u, an⟩ := a
  obtain ⟨⟨t', f', s'⟩, to', v', u', an'⟩ := b
  have hk := fun w => eqInK d ⟨t, f, s⟩ ⟨t', f', s'⟩ w
  simp only [M.val, K.val] at hk ⊢
  rw [run_equalIn_agg w (d + 2) 35 _ _ hS hp]
  simp only [Program.fieldsOf, Try.underlying35]
  go_simp
  by_cases h1 : t = t' <;> by_cases h2 : f = f' <;> by_cases h3 : s = s' <;> by_cases h4 : to = to' <;> by_cases h5 : v = v' <;> by_cases h6 : u = u' <;> by_cases h7 : an = an' <;> simp [h1, h2, h3, h4, h5, h6, h7]
theorem eqlM (a b : M) (w : World) : Sem.run Try.prog (binOp .eql 35 a.val b.val) w = .ok (.bool (decide (a = b))) w := by
  have h := eqInM 9997 a b w
  simp only [M.val] at h ⊢
  rw [run_eql_struct, h]
  rfl
theorem neqM (a b : M) (w : World) : Sem.run Try.prog (binOp .neq 35 a.val b.val) w = .ok (.bool (!decide (a = b))) w := by
  have h := eqInM 9997 a b w
  simp only [M.val] at h ⊢
  rw [run_neq_struct, h]
  rfl

end Go.Proofs.Ytjbammgnkegecaa
