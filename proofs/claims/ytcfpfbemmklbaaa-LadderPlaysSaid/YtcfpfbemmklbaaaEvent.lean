
/-
  The contracts of the functions of package event over keys and messages, and of the document's own answers for them, each at every key and every message.
-/
import Derived.Test.YtcfpfbemmklbaaaRows
import Derived.WalkKit
import Derived.ProofKit
import Derived.OpenShut
import Derived.WalkLawsBesides
import Derived.Outline
import Derived.Laws.StructEq
import Derived.Shelf.SlSortCmp.QuietGrown
import Derived.Lib.Hide
namespace Go.Proofs.Ytcfpfbemmklbaaa
open Go.ChangeShapes Go.WideShapes Go.ChangeAt Go.RowKit Go.Sort

/-- What a function that only reads leaves behind: some draws, and blocks of its own. -/
def Read (w w' : World) : Prop := ∃ q os, w' = grow (w.drewN q) os
theorem Read.refl (w : World) : Read w w := ⟨0, #[], by rw [grow_empty]; rfl⟩
theorem Read.trans {a b c : World} (h : Read a b) (h' : Read b c) : Read a c := by
  obtain ⟨q, os, rfl⟩ := h
  obtain ⟨q', os', rfl⟩ := h'
  exact ⟨q + q', os ++ os', by show grow (grow ((a.drewN q).drewN q') os) os' = _; rw [grow_grow, World.drewN_drewN]⟩
theorem Read.alloc {a b : World} (o : Obj) (h : Read (a.alloc o) b) : Read a b :=
  Read.trans ⟨0, #[o], by rw [alloc_eq_grow]; rfl⟩ h
theorem Read.mk (a : World) (o : Obj) : Read a (a.alloc o) := Read.alloc o (Read.refl _)
theorem Read.drew (a : World) (n : Nat) : Read a (a.drewN n) := ⟨n, #[], by rw [grow_empty]⟩

/-- One number by another. -/
def sgn (a b : Int) : Int := if a < b then -1 else if b < a then 1 else 0
/-- A key. -/
structure K where
  t : Int
  f : Int
  s : Int
  deriving DecidableEq, Inhabited
/-- A message. -/
structure M where
  k : K
  to : Int
  v : Int
  u : Int
  anti : Bool
  deriving DecidableEq, Inhabited
def K.val (k : K) : Value := .agg #[.int .i64 k.t, .int .i64 k.f, .int .i64 k.s]
def M.val (m : M) : Value := .agg #[.int .i64 m.k.t, .int .i64 m.k.f, .int .i64 m.k.s, .int .i64 m.to, .int .i64 m.v, .int .i64 m.u, .bool m.anti]
/-- The order of keys. -/
def cmpK (a b : K) : Int := if a.t ≠ b.t then sgn a.t b.t else if a.f ≠ b.f then sgn a.f b.f else sgn a.s b.s
/-- The order of messages. -/
def ltM (a b : M) : Bool := cmpK a.k b.k < 0 || (cmpK a.k b.k == 0 && decide (a.u < b.u))

theorem sgn_lt {a b : Int} (h : a < b) : sgn a b = -1 := by simp [sgn, h]
theorem sgn_gt {a b : Int} (h : b < a) : sgn a b = 1 := by
  have : ¬ a < b := by omega
  simp [sgn, h, this]
theorem sgn_eq (a : Int) : sgn a a = 0 := by simp [sgn]

theorem nan64_any (a : Int) (w : World) : Calls Try.prog 64 #[.int .i64 a] w fun e w' => e = .returned (.bool false) ∧ w = w' := by
  go_enter Try.func64, Try.ntmps64
  go_wp2
  go_ret
  exact ⟨rfl, rfl⟩
theorem nanint_any (a : Int) (w : World) : Calls Try.prog 65 #[.int .i64 a] w fun e w' => e = .returned (.bool false) ∧ w = w' := by
  go_enter Try.func65, Try.ntmps65
  go_wp2
  go_ret
  exact ⟨rfl, rfl⟩
theorem cmp64_any (a b : Int) (w : World) : Calls Try.prog 55 #[.int .i64 a, .int .i64 b] w fun e w' => e = .returned (.int .i64 (sgn a b)) ∧ w = w' := by
  rcases Int.lt_trichotomy a b with h | h | h
  · rw [sgn_lt h]
    go_enter Try.func55, Try.ntmps55
    go_wp2_with (go_at_call 64; refine (nan64_any _ _).mono ?_; rintro e w' ⟨rfl, rfl⟩)
    go_ret
    exact ⟨rfl, rfl⟩
  · subst h
    rw [sgn_eq]
    go_enter Try.func55, Try.ntmps55
    go_wp2_with (go_at_call 64; refine (nan64_any _ _).mono ?_; rintro e w' ⟨rfl, rfl⟩)
    go_ret
    exact ⟨rfl, rfl⟩
  · rw [sgn_gt h]
    have h' : ¬ a < b := by omega
    go_enter Try.func55, Try.ntmps55
    go_wp2_with (go_at_call 64; refine (nan64_any _ _).mono ?_; rintro e w' ⟨rfl, rfl⟩)
    go_ret
    exact ⟨rfl, rfl⟩
theorem cmpint_any (a b : Int) (w : World) : Calls Try.prog 56 #[.int .i64 a, .int .i64 b] w fun e w' => e = .returned (.int .i64 (sgn a b)) ∧ w = w' := by
  rcases Int.lt_trichotomy a b with h | h | h
  · rw [sgn_lt h]
    go_enter Try.func56, Try.ntmps56
    go_wp2_with (go_at_call 65; refine (nanint_any _ _).mono ?_; rintro e w' ⟨rfl, rfl⟩)
    go_ret
    exact ⟨rfl, rfl⟩
  · subst h
    rw [sgn_eq]
    go_enter Try.func56, Try.ntmps56
    go_wp2_with (go_at_call 65; refine (nanint_any _ _).mono ?_; rintro e w' ⟨rfl, rfl⟩)
    go_ret
    exact ⟨rfl, rfl⟩
  · rw [sgn_gt h]
    have h' : ¬ a < b := by omega
    go_enter Try.func56, Try.ntmps56
    go_wp2_with (go_at_call 65; refine (nanint_any _ _).mono ?_; rintro e w' ⟨rfl, rfl⟩)
    go_ret
    exact ⟨rfl, rfl⟩
theorem rsign_any (a b : Int) (w : World) : Calls Try.prog 69 #[.int .i64 a, .int .i64 b] w fun e w' => e = .returned (.int .i64 (sgn a b)) ∧ w = w' := by
  rcases Int.lt_trichotomy a b with h | h | h
  · rw [sgn_lt h]
    go_enter Try.func69, Try.ntmps69
    go_wp2
    go_ret
    exact ⟨rfl, rfl⟩
  · subst h
    rw [sgn_eq]
    go_enter Try.func69, Try.ntmps69
    go_wp2
    go_ret
    exact ⟨rfl, rfl⟩
  · rw [sgn_gt h]
    have h' : ¬ a < b := by omega
    go_enter Try.func69, Try.ntmps69
    go_wp2
    go_ret
    exact ⟨rfl, rfl⟩

theorem eqInK (d : Nat) (a b : K) (w : World) : Sem.run Try.prog (Op.equalIn (d + 2) 32 a.val b.val) w = .ok (decide (a = b)) w := by
  have u2 := Try.underlying2
  have u3 := Try.underlying3
  have a2 := Try.isAgg2
  have z2 := Try.sizeOf2
  have a3 := Try.isAgg3
  have z3 := Try.sizeOf3
  have hS : Try.prog.underlying 32 = some (.struct (Try.prog.fieldsOf 32)) := by kernel_rfl
  have hp : Try.prog.stoodInHeld 32 = false := by kernel_rfl
  obtain ⟨t, f, s⟩ := a
  obtain ⟨t', f', s'⟩ := b
  simp only [K.val]
  rw [run_equalIn_agg w (d + 1) 32 _ _ hS hp]
  simp only [Program.fieldsOf, Try.underlying32]
  go_simp
  by_cases h1 : t = t' <;> by_cases h2 : f = f' <;> by_cases h3 : s = s' <;> simp [h1, h2, h3]
/-- The model's comparison of two keys. -/
theorem eqlK (a b : K) (w : World) : Sem.run Try.prog (binOp .eql 32 a.val b.val) w = .ok (.bool (decide (a = b))) w := by
  have h := eqInK 9998 a b w
  simp only [K.val] at h ⊢
  rw [run_eql_struct, h]
  rfl
theorem neqK (a b : K) (w : World) : Sem.run Try.prog (binOp .neq 32 a.val b.val) w = .ok (.bool (!decide (a = b))) w := by
  have h := eqInK 9998 a b w
  simp only [K.val] at h ⊢
  rw [run_neq_struct, h]
  rfl
/-- The model's comparison of two messages. -/
theorem eqInM (d : Nat) (a b : M) (w : World) : Sem.run Try.prog (Op.equalIn (d + 3) 34 a.val b.val) w = .ok (decide (a = b)) w := by
  have u2 := Try.underlying2
  have u3 := Try.underlying3
  have u4 := Try.underlying4
  have a2 := Try.isAgg2
  have z2 := Try.sizeOf2
  have a3 := Try.isAgg3
  have z3 := Try.sizeOf3
  have a4 := Try.isAgg4
  have z4 := Try.sizeOf4
  have aK := Try.isAgg32
  have zK := Try.sizeOf32
  have hS : Try.prog.underlying 34 = some (.struct (Try.prog.fieldsOf 34)) := by kernel_rfl
  have hp : Try.prog.stoodInHeld 34 = false := by kernel_rfl
  obtain ⟨⟨t, f, s⟩, to, v, u, an⟩ := a
  obtain ⟨⟨t', f', s'⟩, to', v', u', an'⟩ := b
  have hk := fun w => eqInK d ⟨t, f, s⟩ ⟨t', f', s'⟩ w
  simp only [M.val, K.val] at hk ⊢
  rw [run_equalIn_agg w (d + 2) 34 _ _ hS hp]
  simp only [Program.fieldsOf, Try.underlying34]
  go_simp
  by_cases h1 : t = t' <;> by_cases h2 : f = f' <;> by_cases h3 : s = s' <;> by_cases h4 : to = to' <;> by_cases h5 : v = v' <;> by_cases h6 : u = u' <;> by_cases h7 : an = an' <;> simp [h1, h2, h3, h4, h5, h6, h7]
theorem eqlM (a b : M) (w : World) : Sem.run Try.prog (binOp .eql 34 a.val b.val) w = .ok (.bool (decide (a = b))) w := by
  have h := eqInM 9997 a b w
  simp only [M.val] at h ⊢
  rw [run_eql_struct, h]
  rfl
theorem neqM (a b : M) (w : World) : Sem.run Try.prog (binOp .neq 34 a.val b.val) w = .ok (.bool (!decide (a = b))) w := by
  have h := eqInM 9997 a b w
  simp only [M.val] at h ⊢
  rw [run_neq_struct, h]
  rfl

end Go.Proofs.Ytcfpfbemmklbaaa
