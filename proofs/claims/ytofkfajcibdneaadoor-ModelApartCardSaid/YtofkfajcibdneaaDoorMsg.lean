
/-
  Keys and messages as plain data, for a seat that has package code as well: the order of numbers, and the model's comparison of keys and of messages.
-/
import Derived.Test.YtofkfajcibdneaaDoorCode1
namespace Go.Proofs.YtofkfajcibdneaaDoor
open Go.ChangeShapes Go.WideShapes Go.ChangeAt Go.RowKit Go.Sort

/-- One number by another. -/
def sgn (a b : Int) : Int := if a < b then -1 else if b < a then 1 else 0
/-- A key. -/
structure K where
  t : Int
  f : Int
  s : Int
  deriving DecidableEq, Inhabited
/-- A message. -/
structure M where
  k : K
  to : Int
  v : Int
  u : Int
  anti : Bool
  deriving DecidableEq, Inhabited
def K.val (k : K) : Value := .agg #[.int .i64 k.t, .int .i64 k.f, .int .i64 k.s]
def M.val (m : M) : Value := .agg #[.int .i64 m.k.t, .int .i64 m.k.f, .int .i64 m.k.s, .int .i64 m.to, .int .i64 m.v, .int .i64 m.u, .bool m.anti]
/-- The order of keys. -/
def cmpK (a b : K) : Int := if a.t ≠ b.t then sgn a.t b.t else if a.f ≠ b.f then sgn a.f b.f else sgn a.s b.s
/-- The order of messages. -/
def ltM (a b : M) : Bool := cmpK a.k b.k < 0 || (cmpK a.k b.k == 0 && decide (a.u < b.u))

theorem sgn_lt {a b : Int} (h : a < b) : sgn a b = -1 := by simp [sgn, h]
theorem sgn_gt {a b : Int} (h : b < a) : sgn a b = 1 := by
  have : ¬ a < b := by omega
  simp [sgn, h, this]
theorem sgn_eq (a : Int) : sgn a a = 0 := by simp [sgn]

theorem eqInK (d : Nat) (a b : K) (w : World) : Sem.run Tryd.prog (Op.equalIn (d + 2) 48 a.val b.val) w = .ok (decide (a = b)) w := by
  have u2 := Tryd.underlying2
  have u3 := Tryd.underlying3
  have a2 := Tryd.isAgg2
  have z2 := Tryd.sizeOf2
  have a3 := Tryd.isAgg3
  have z3 := Tryd.sizeOf3
  have hS : Tryd.prog.underlying 48 = some (.struct (Tryd.prog.fieldsOf 48)) := by kernel_rfl
  have hp : Tryd.prog.stoodInHeld 48 = false := by kernel_rfl
  obtain ⟨t, f, s⟩ := a
  obtain ⟨t', f', s'⟩ := b
  simp only [K.val]
  rw [run_equalIn_agg w (d + 1) 48 _ _ hS hp]
  simp only [Program.fieldsOf, Tryd.underlying48]
  go_simp
  by_cases h1 : t = t' <;> by_cases h2 : f = f' <;> by_cases h3 : s = s' <;> simp [h1, h2, h3]
/-- The model's comparison of two keys. -/
theorem eqlK (a b : K) (w : World) : Sem.run Tryd.prog (binOp .eql 48 a.val b.val) w = .ok (.bool (decide (a = b))) w := by
  have h := eqInK 9998 a b w
  simp only [K.val] at h ⊢
  rw [run_eql_struct, h]
  rfl
theorem neqK (a b : K) (w : World) : Sem.run Tryd.prog (binOp .neq 48 a.val b.val) w = .ok (.bool (!decide (a = b))) w := by
  have h := eqInK 9998 a b w
  simp only [K.val] at h ⊢
  rw [run_neq_struct, h]
  rfl
/-- The model's comparison of two messages. -/
theorem eqInM (d : Nat) (a b : M) (w : World) : Sem.run Tryd.prog (Op.equalIn (d + 3) 50 a.val b.val) w = .ok (decide (a = b)) w := by
  have u2 := Tryd.underlying2
  have u3 := Tryd.underlying3
  have u4 := Tryd.underlying4
  have a2 := Tryd.isAgg2
  have z2 := Tryd.sizeOf2
  have a3 := Tryd.isAgg3
  have z3 := Tryd.sizeOf3
  have a4 := Tryd.isAgg4
  have z4 := Tryd.sizeOf4
  have aK := Tryd.isAgg48
  have zK := Tryd.sizeOf48
  have hS : Tryd.prog.underlying 50 = some (.struct (Tryd.prog.fieldsOf 50)) := by kernel_rfl
  have hp : Tryd.prog.stoodInHeld 50 = false := by kernel_rfl
  obtain ⟨⟨t, f, s⟩, to, v, u, an⟩ := a
  obtain ⟨⟨t', f', s'⟩, to', v', u', an'⟩ := b
  have hk := fun w => eqInK d ⟨t, f, s⟩ ⟨t', f', s'⟩ w
  simp only [M.val, K.val] at hk ⊢
  rw [run_equalIn_agg w (d + 2) 50 _ _ hS hp]
  simp only [Program.fieldsOf, Tryd.underlying50]
  go_simp
  by_cases h1 : t = t' <;> by_cases h2 : f = f' <;> by_cases h3 : s = s' <;> by_cases h4 : to = to' <;> by_cases h5 : v = v' <;> by_cases h6 : u = u' <;> by_cases h7 : an = an' <;> simp [h1, h2, h3, h4, h5, h6, h7]
theorem eqlM (a b : M) (w : World) : Sem.run Tryd.prog (binOp .eql 50 a.val b.val) w = .ok (.bool (decide (a = b))) w := by
  have h := eqInM 9997 a b w
  simp only [M.val] at h ⊢
  rw [run_eql_struct, h]
  rfl
theorem neqM (a b : M) (w : World) : Sem.run Tryd.prog (binOp .neq 50 a.val b.val) w = .ok (.bool (!decide (a = b))) w := by
  have h := eqInM 9997 a b w
  simp only [M.val] at h ⊢
  rw [run_neq_struct, h]
  rfl

end Go.Proofs.YtofkfajcibdneaaDoor
