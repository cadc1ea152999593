/-
  The contracts of the functions of package event over keys and messages, and of the document's own answers for them, each at every key and every message.
  The contracts of the functions of package event over keys and messages, and of the document's own answers for them, each at every key and every message.
  The contracts of the functions of package event over messages, and of the document's own answers for them, each at every message.
-/
import Derived.Test.YtjlbkdghlijoeaaGreatRows
import Derived.WalkKit
import Derived.ProofKit
import Derived.OpenShut
import Derived.WalkLawsBesides
import Derived.Outline
import Derived.Laws.StructEq
import Derived.Shelf.SlSortCmp.QuietGrown
import Derived.Lib.Hide
namespace Go.Proofs.YtjlbkdghlijoeaaGreat
open Go.ChangeShapes Go.WideShapes Go.ChangeAt Go.RowKit Go.Sort

/-- What a function that only reads leaves behind: some draws, and blocks of its own. -/
def Read (w w' : World) : Prop := ∃ q os, w' = grow (w.drewN q) os
theorem Read.refl (w : World) : Read w w := ⟨0, #[], by rw [grow_empty]; rfl⟩
theorem Read.trans {a b c : World} (h : Read a b) (h' : Read b c) : Read a c := by
  obtain ⟨q, os, rfl⟩ := h
  obtain ⟨q', os', rfl⟩ := h'
  exact ⟨q + q', os ++ os', by show grow (grow ((a.drewN q).drewN q') os) os' = _; rw [grow_grow, World.drewN_drewN]⟩
theorem Read.alloc {a b : World} (o : Obj) (h : Read (a.alloc o) b) : Read a b :=
  Read.trans ⟨0, #[o], by rw [alloc_eq_grow]; rfl⟩ h
theorem Read.mk (a : World) (o : Obj) : Read a (a.alloc o) := Read.alloc o (Read.refl _)
theorem Read.drew (a : World) (n : Nat) : Read a (a.drewN n) := ⟨n, #[], by rw [grow_empty]⟩

/-- One number by another. -/
def sgn (a b : Int) : Int := if a < b then -1 else if b < a then 1 else 0
/-- A key. -/
structure K where
  t : Int
  f : Int
  s : Int
  deriving DecidableEq, Inhabited
/-- A message. -/
structure M where
  k : K
  to : Int
  v : Int
  u : Int
  anti : Bool
  deriving DecidableEq, Inhabited
def K.val (k : K) : Value := .agg #[.int .i64 k.t, .int .i64 k.f, .int .i64 k.s]
def M.val (m : M) : Value := .agg #[.int .i64 m.k.t, .int .i64 m.k.f, .int .i64 m.k.s, .int .i64 m.to, .int .i64 m.v, .int .i64 m.u, .bool m.anti]
/-- The order of keys. -/
def cmpK (a b : K) : Int := if a.t ≠ b.t then sgn a.t b.t else if a.f ≠ b.f then sgn a.f b.f else sgn a.s b.s
/-- The order of messages. -/
def ltM (a b : M) : Bool := cmpK a.k b.k < 0 || (cmpK a.k b.k == 0 && decide (a.u < b.u))

theorem sgn_lt {a b : Int} (h : a < b) : sgn a b = -1 := by simp [sgn, h]
theorem sgn_gt {a b : Int} (h : b < a) : sgn a b = 1 := by
  have : ¬ a < b := by omega
  simp [sgn, h, this]
theorem sgn_eq (a : Int) : sgn a a = 0 := by simp [sgn]

theorem nan64_any (a : Int) (w : World) : Calls Tryz.prog 43 #[.int .i64 a] w fun e w' => e = .returned (.bool false) ∧ w = w' := by
  go_enter Tryz.func43, Tryz.ntmps43
  go_wp2
  go_ret
  exact ⟨rfl, rfl⟩
theorem nanint_any (a : Int) (w : World) : Calls Tryz.prog 44 #[.int .i64 a] w fun e w' => e = .returned (.bool false) ∧ w = w' := by
  go_enter Tryz.func44, Tryz.ntmps44
  go_wp2
  go_ret
  exact ⟨rfl, rfl⟩
theorem cmp64_any (a b : Int) (w : World) : Calls Tryz.prog 40 #[.int .i64 a, .int .i64 b] w fun e w' => e = .returned (.int .i64 (sgn a b)) ∧ w = w' := by
  rcases Int.lt_trichotomy a b with h | h | h
  · rw [sgn_lt h]
    go_enter Tryz.func40, Tryz.ntmps40
    go_wp2_with (go_at_call 43; refine (nan64_any _ _).mono ?_; rintro e w' ⟨rfl, rfl⟩)
    go_ret
    exact ⟨rfl, rfl⟩
  · subst h
    rw [sgn_eq]
    go_enter Tryz.func40, Tryz.ntmps40
    go_wp2_with (go_at_call 43; refine (nan64_any _ _).mono ?_; rintro e w' ⟨rfl, rfl⟩)
    go_ret
    exact ⟨rfl, rfl⟩
  · rw [sgn_gt h]
    have h' : ¬ a < b := by omega
    go_enter Tryz.func40, Tryz.ntmps40
    go_wp2_with (go_at_call 43; refine (nan64_any _ _).mono ?_; rintro e w' ⟨rfl, rfl⟩)
    go_ret
    exact ⟨rfl, rfl⟩
theorem cmpint_any (a b : Int) (w : World) : Calls Tryz.prog 41 #[.int .i64 a, .int .i64 b] w fun e w' => e = .returned (.int .i64 (sgn a b)) ∧ w = w' := by
  rcases Int.lt_trichotomy a b with h | h | h
  · rw [sgn_lt h]
    go_enter Tryz.func41, Tryz.ntmps41
    go_wp2_with (go_at_call 44; refine (nanint_any _ _).mono ?_; rintro e w' ⟨rfl, rfl⟩)
    go_ret
    exact ⟨rfl, rfl⟩
  · subst h
    rw [sgn_eq]
    go_enter Tryz.func41, Tryz.ntmps41
    go_wp2_with (go_at_call 44; refine (nanint_any _ _).mono ?_; rintro e w' ⟨rfl, rfl⟩)
    go_ret
    exact ⟨rfl, rfl⟩
  · rw [sgn_gt h]
    have h' : ¬ a < b := by omega
    go_enter Tryz.func41, Tryz.ntmps41
    go_wp2_with (go_at_call 44; refine (nanint_any _ _).mono ?_; rintro e w' ⟨rfl, rfl⟩)
    go_ret
    exact ⟨rfl, rfl⟩
theorem rsign_any (a b : Int) (w : World) : Calls Tryz.prog 42 #[.int .i64 a, .int .i64 b] w fun e w' => e = .returned (.int .i64 (sgn a b)) ∧ w = w' := by
  rcases Int.lt_trichotomy a b with h | h | h
  · rw [sgn_lt h]
    go_enter Tryz.func42, Tryz.ntmps42
    go_wp2
    go_ret
    exact ⟨rfl, rfl⟩
  · subst h
    rw [sgn_eq]
    go_enter Tryz.func42, Tryz.ntmps42
    go_wp2
    go_ret
    exact ⟨rfl, rfl⟩
  · rw [sgn_gt h]
    have h' : ¬ a < b := by omega
    go_enter Tryz.func42, Tryz.ntmps42
    go_wp2
    go_ret
    exact ⟨rfl, rfl⟩

theorem eqInK (d : Nat) (a b : K) (w : World) : Sem.run Tryz.prog (Op.equalIn (d + 2) 32 a.val b.val) w = .ok (decide (a = b)) w := by
  have u2 := Tryz.underlying2
  have u3 := Tryz.underlying3
  have a2 := Tryz.isAgg2
  have z2 := Tryz.sizeOf2
  have a3 := Tryz.isAgg3
  have z3 := Tryz.sizeOf3
  have hS : Tryz.prog.underlying 32 = some (.struct (Tryz.prog.fieldsOf 32)) := by kernel_rfl
  have hp : Tryz.prog.stoodInHeld 32 = false := by kernel_rfl
  obtain ⟨t, f, s⟩ := a
  obtain ⟨t', f', s'⟩ := b
  simp only [K.val]
  rw [run_equalIn_agg w (d + 1) 32 _ _ hS hp]
  simp only [Program.fieldsOf, Tryz.underlying32]
  go_simp
  by_cases h1 : t = t' <;> by_cases h2 : f = f' <;> by_cases h3 : s = s' <;> simp [h1, h2, h3]
/-- The model's comparison of two keys. -/
theorem eqlK (a b : K) (w : World) : Sem.run Tryz.prog (binOp .eql 32 a.val b.val) w = .ok (.bool (decide (a = b))) w := by
  have h := eqInK 9998 a b w
  simp only [K.val] at h ⊢
  rw [run_eql_struct, h]
  rfl
theorem neqK (a b : K) (w : World) : Sem.run Tryz.prog (binOp .neq 32 a.val b.val) w = .ok (.bool (!decide (a = b))) w := by
  have h := eqInK 9998 a b w
  simp only [K.val] at h ⊢
  rw [run_neq_struct, h]
  rfl
/-- The model's comparison of two messages. -/
theorem eqInM (d : Nat) (a b : M) (w : World) : Sem.run Tryz.prog (Op.equalIn (d + 3) 34 a.val b.val) w = .ok (decide (a = b)) w := by
  have u2 := Tryz.underlying2
  have u3 := Tryz.underlying3
  have u4 := Tryz.underlying4
  have a2 := Tryz.isAgg2
  have z2 := Tryz.sizeOf2
  have a3 := Tryz.isAgg3
  have z3 := Tryz.sizeOf3
  have a4 := Tryz.isAgg4
  have z4 := Tryz.sizeOf4
  have aK := Tryz.isAgg32
  have zK := Tryz.sizeOf32
  have hS : Tryz.prog.underlying 34 = some (.struct (Tryz.prog.fieldsOf 34)) := by kernel_rfl
  have hp : Tryz.prog.stoodInHeld 34 = false := by kernel_rfl
  obtain ⟨⟨t, f, s⟩, to, v, u, an⟩ := a
  obtain ⟨⟨t', f', s'⟩, to', v', u', an'⟩ := b
  have hk := fun w => eqInK d ⟨t, f, s⟩ ⟨t', f', s'⟩ w
  simp only [M.val, K.val] at hk ⊢
  rw [run_equalIn_agg w (d + 2) 34 _ _ hS hp]
  simp only [Program.fieldsOf, Tryz.underlying34]
  go_simp
  by_cases h1 : t = t' <;> by_cases h2 : f = f' <;> by_cases h3 : s = s' <;> by_cases h4 : to = to' <;> by_cases h5 : v = v' <;> by_cases h6 : u = u' <;> by_cases h7 : an = an' <;> simp [h1, h2, h3, h4, h5, h6, h7]
theorem eqlM (a b : M) (w : World) : Sem.run Tryz.prog (binOp .eql 34 a.val b.val) w = .ok (.bool (decide (a = b))) w := by
  have h := eqInM 9997 a b w
  simp only [M.val] at h ⊢
  rw [run_eql_struct, h]
  rfl
theorem neqM (a b : M) (w : World) : Sem.run Tryz.prog (binOp .neq 34 a.val b.val) w = .ok (.bool (!decide (a = b))) w := by
  have h := eqInM 9997 a b w
  simp only [M.val] at h ⊢
  rw [run_neq_struct, h]
  rfl

end Go.Proofs.YtjlbkdghlijoeaaGreat
namespace Go.Proofs.YtjlbkdghlijoeaaGreat
open Go.ChangeShapes Go.WideShapes Go.ChangeAt Go.RowKit Go.Sort

theorem cmpK_t {a b : K} (h : a.t ≠ b.t) : cmpK a b = sgn a.t b.t := by simp [cmpK, h]
theorem cmpK_f {a b : K} (h : a.t = b.t) (h' : a.f ≠ b.f) : cmpK a b = sgn a.f b.f := by simp [cmpK, h, h']
theorem cmpK_s {a b : K} (h : a.t = b.t) (h' : a.f = b.f) : cmpK a b = sgn a.s b.s := by simp [cmpK, h, h']

theorem eCompare_any (a b : K) (w : World) : Calls Tryz.prog 38 #[a.val, b.val] w fun e w' => e = .returned (.int .i64 (cmpK a b)) ∧ Read w w' := by
  have he := fun w => eqlK a b w
  by_cases h : a = b
  · have hd : decide (a = b) = true := by simpa using h
    have hr : cmpK a b = 0 := by subst h; simp [cmpK, sgn]
    rw [hd] at he
    rw [hr]
    clear h hd hr
    obtain ⟨t, f, s⟩ := a
    obtain ⟨t', f', s'⟩ := b
    simp only [K.val] at he ⊢
    go_enter Tryz.func38, Tryz.ntmps38
    go_wp2
    go_ret
    exact ⟨rfl, Read.alloc _ (Read.mk _ _)⟩
  · have hd : decide (a = b) = false := by simpa using h
    rw [hd] at he
    by_cases ht : a.t = b.t
    · by_cases hf : a.f = b.f
      · rw [cmpK_s ht hf]
        clear h hd
        obtain ⟨t, f, s⟩ := a
        obtain ⟨t', f', s'⟩ := b
        simp only at ht hf
        subst ht hf
        simp only [K.val] at he ⊢
        have hcon := fun w => cmpint_any s s' w
        generalize sgn s s' = r at hcon ⊢
        go_enter Tryz.func38, Tryz.ntmps38
        go_wp2_with (go_at_call 41; refine (hcon _).mono ?_; rintro e w' ⟨rfl, rfl⟩)
        go_ret
        exact ⟨rfl, Read.alloc _ (Read.mk _ _)⟩
      · rw [cmpK_f ht hf]
        clear h hd
        obtain ⟨t, f, s⟩ := a
        obtain ⟨t', f', s'⟩ := b
        simp only at ht hf
        subst ht
        simp only [K.val] at he ⊢
        have hcon := fun w => cmpint_any f f' w
        generalize sgn f f' = r at hcon ⊢
        go_enter Tryz.func38, Tryz.ntmps38
        go_wp2_with (go_at_call 41; refine (hcon _).mono ?_; rintro e w' ⟨rfl, rfl⟩)
        go_ret
        exact ⟨rfl, Read.alloc _ (Read.mk _ _)⟩
    · rw [cmpK_t ht]
      clear h hd
      obtain ⟨t, f, s⟩ := a
      obtain ⟨t', f', s'⟩ := b
      simp only at ht
      simp only [K.val] at he ⊢
      have hcon := fun w => cmp64_any t t' w
      generalize sgn t t' = r at hcon ⊢
      go_enter Tryz.func38, Tryz.ntmps38
      go_wp2_with (go_at_call 40; refine (hcon _).mono ?_; rintro e w' ⟨rfl, rfl⟩)
      go_ret
      exact ⟨rfl, Read.alloc _ (Read.mk _ _)⟩
theorem rCompare_any (a b : K) (w : World) : Calls Tryz.prog 39 #[a.val, b.val] w fun e w' => e = .returned (.int .i64 (cmpK a b)) ∧ Read w w' := by
  by_cases ht : a.t = b.t
  · by_cases hf : a.f = b.f
    · rw [cmpK_s ht hf]
      obtain ⟨t, f, s⟩ := a
      obtain ⟨t', f', s'⟩ := b
      simp only at ht hf
      subst ht hf
      simp only [K.val]
      have hcon := fun w => rsign_any s s' w
      generalize sgn s s' = r at hcon ⊢
      go_enter Tryz.func39, Tryz.ntmps39
      go_wp2_with (go_at_call 42; refine (hcon _).mono ?_; rintro e w' ⟨rfl, rfl⟩)
      go_ret
      exact ⟨rfl, Read.alloc _ (Read.mk _ _)⟩
    · rw [cmpK_f ht hf]
      obtain ⟨t, f, s⟩ := a
      obtain ⟨t', f', s'⟩ := b
      simp only at ht hf
      subst ht
      simp only [K.val]
      have hcon := fun w => rsign_any f f' w
      generalize sgn f f' = r at hcon ⊢
      go_enter Tryz.func39, Tryz.ntmps39
      go_wp2_with (go_at_call 42; refine (hcon _).mono ?_; rintro e w' ⟨rfl, rfl⟩)
      go_ret
      exact ⟨rfl, Read.alloc _ (Read.mk _ _)⟩
  · rw [cmpK_t ht]
    obtain ⟨t, f, s⟩ := a
    obtain ⟨t', f', s'⟩ := b
    simp only at ht
    simp only [K.val]
    have hcon := fun w => rsign_any t t' w
    generalize sgn t t' = r at hcon ⊢
    go_enter Tryz.func39, Tryz.ntmps39
    go_wp2_with (go_at_call 42; refine (hcon _).mono ?_; rintro e w' ⟨rfl, rfl⟩)
    go_ret
    exact ⟨rfl, Read.alloc _ (Read.mk _ _)⟩
/-- Of one sending. -/
def oneM (a b : M) : Bool := decide (a.k.f = b.k.f) && decide (a.u = b.u)
def twinsM (a b : M) : Bool := oneM a b && (a.anti != b.anti)
def twinM (a : M) : M := { a with anti := !a.anti }

theorem cmpK_ne {a b : K} (h : a ≠ b) : cmpK a b ≠ 0 := by
  obtain ⟨t, f, s⟩ := a
  obtain ⟨t', f', s'⟩ := b
  unfold cmpK sgn
  simp only [ne_eq, K.mk.injEq, not_and] at h ⊢
  repeat' split
  all_goals first | omega | (exfalso; apply h <;> omega) | skip
theorem cmpK_self (a : K) : cmpK a a = 0 := by simp [cmpK, sgn]
theorem eBefore_any (a b : M) (w : World) : Calls Tryz.prog 34 #[a.val, b.val] w fun e w' => e = .returned (.bool (ltM a b)) ∧ Read w w' := by
  have he := fun w => neqK a.k b.k w
  by_cases h : a.k = b.k
  · have hd : decide (a.k = b.k) = true := by simpa using h
    have hr : ltM a b = decide (a.u < b.u) := by simp [ltM, h, cmpK_self]
    rw [hd] at he
    rw [hr]
    clear h hd hr
    obtain ⟨⟨t, f, s⟩, to, v, u, an⟩ := a
    obtain ⟨⟨t', f', s'⟩, to', v', u', an'⟩ := b
    simp only [K.val, M.val, Bool.not_true] at he ⊢
    go_enter Tryz.func34, Tryz.ntmps34
    go_wp2
    go_ret
    exact ⟨rfl, Read.alloc _ (Read.mk _ _)⟩
  · have hd : decide (a.k = b.k) = false := by simpa using h
    have hr : ltM a b = decide (cmpK a.k b.k < 0) := by simp [ltM, cmpK_ne h]
    have hcon := fun w => eCompare_any a.k b.k w
    rw [hd] at he
    rw [hr]
    clear h hd hr
    generalize cmpK a.k b.k = r at hcon ⊢
    obtain ⟨⟨t, f, s⟩, to, v, u, an⟩ := a
    obtain ⟨⟨t', f', s'⟩, to', v', u', an'⟩ := b
    simp only [K.val, M.val, Bool.not_false] at he hcon ⊢
    go_enter Tryz.func34, Tryz.ntmps34
    go_wp2_with (go_at_call 38; refine (hcon _).mono ?_; rintro e w' ⟨rfl, hr⟩)
    go_ret
    exact ⟨rfl, Read.alloc _ (Read.alloc _ hr)⟩

end Go.Proofs.YtjlbkdghlijoeaaGreat
namespace Go.Proofs.YtjlbkdghlijoeaaGreat
open Go.ChangeShapes Go.WideShapes Go.ChangeAt Go.RowKit Go.Sort

theorem ret_bool {a b : Bool} (h : a = b) : Ending.returned (.bool a) = .returned (.bool b) := by rw [h]
theorem mixed : Tryz.prog.follows .mixedOrders = true := by kernel_rfl

def M.cells (m : M) : Array Value := #[.int .i64 m.k.t, .int .i64 m.k.f, .int .i64 m.k.s, .int .i64 m.to, .int .i64 m.v, .int .i64 m.u, .bool m.anti]
/-- Where a message lies. -/
def MsgAt (w : World) (b o : Nat) (m : M) : Prop :=
  b < w.heap.size ∧ w.cell? ⟨b, o, none⟩ = some (.int .i64 m.k.t) ∧ w.cell? ⟨b, o + 1, none⟩ = some (.int .i64 m.k.f) ∧ w.cell? ⟨b, o + 2, none⟩ = some (.int .i64 m.k.s) ∧ w.cell? ⟨b, o + 3, none⟩ = some (.int .i64 m.to) ∧
    w.cell? ⟨b, o + 4, none⟩ = some (.int .i64 m.v) ∧ w.cell? ⟨b, o + 5, none⟩ = some (.int .i64 m.u) ∧ w.cell? ⟨b, o + 6, none⟩ = some (.bool m.anti)
theorem Read.cell {w w' : World} {a : Addr} {v : Value} (h : Read w w') (hb : a.block < w.heap.size) (hc : w.cell? a = some v) : w'.cell? a = some v := by
  obtain ⟨q, os, rfl⟩ := h
  exact cell_grown hb hc q os
theorem Read.size {w w' : World} (h : Read w w') : w.heap.size ≤ w'.heap.size := by
  obtain ⟨q, os, rfl⟩ := h
  rw [size_grow]
  exact Nat.le_add_right _ _
theorem MsgAt.read {w w' : World} {b o : Nat} {m : M} (h : MsgAt w b o m) (hr : Read w w') : MsgAt w' b o m := by
  obtain ⟨hb, h0, h1, h2, h3, h4, h5, h6⟩ := h
  exact ⟨Nat.lt_of_lt_of_le hb hr.size, hr.cell hb h0, hr.cell hb h1, hr.cell hb h2, hr.cell hb h3, hr.cell hb h4, hr.cell hb h5, hr.cell hb h6⟩
theorem MsgAt.mk (w : World) (m : M) : MsgAt (w.alloc (.cells m.cells 34)) w.heap.size 0 m := by
  refine ⟨by simp, ?_, ?_, ?_, ?_, ?_, ?_, ?_⟩ <;> simp [M.cells]
theorem MsgAt.two (w : World) (m m' : M) : MsgAt ((w.alloc (.cells m.cells 34)).alloc (.cells m'.cells 34)) w.heap.size 0 m ∧ MsgAt ((w.alloc (.cells m.cells 34)).alloc (.cells m'.cells 34)) (w.heap.size + 1) 0 m' :=
  ⟨(MsgAt.mk w m).read (Read.mk _ _), by have := MsgAt.mk (w.alloc (.cells m.cells 34)) m'; simpa using this⟩
theorem Read.two (w : World) (o o' : Obj) : Read w ((w.alloc o).alloc o') := Read.alloc _ (Read.mk _ _)

theorem Calls.read_of {P : Program} {f : FuncId} {args : Array Value} {w : World} {n : Nat} {os : Array Obj} {v : Value}
    (h : Calls P f args (grow (w.drewN n) os) fun e w' => e = .returned v ∧ Read (grow (w.drewN n) os) w') : Calls P f args (grow (w.drewN n) os) fun e w'' => e = .returned v ∧ ∃ p : GrownBy, w'' = grow (w.drewN p.n) p.os :=
  Calls.grown_of h

theorem rBefore_any (a b : M) (w : World) : Calls Tryz.prog 37 #[a.val, b.val] w fun e w' => e = .returned (.bool (ltM a b)) ∧ Read w w' := by
  have hcon := fun w => rCompare_any a.k b.k w
  obtain ⟨hl, hr⟩ := MsgAt.two w a b
  have hz : Hid (ltM a b = (decide (cmpK a.k b.k < 0) || (decide (cmpK a.k b.k = 0) && decide (a.u < b.u)))) := by
    show ltM a b = _
    simp only [ltM]
    congr 1
  generalize ltM a b = z at hz ⊢
  by_cases h : cmpK a.k b.k < 0
  · obtain rfl : z = true := by rw [hz.out]; simp [h]
    clear hz
    generalize cmpK a.k b.k = r at hcon h ⊢
    obtain ⟨⟨t, f, s⟩, to, v, u, an⟩ := a
    obtain ⟨⟨t', f', s'⟩, to', v', u', an'⟩ := b
    simp only [K.val, M.val] at hcon ⊢
    go_enter Tryz.func37, Tryz.ntmps37
    go_wp2_with (go_at_call 39; refine (hcon _).mono ?_; rintro e w' ⟨rfl, hr⟩)
    go_ret
    exact ⟨rfl, (Read.two _ _ _).trans hr⟩
  · by_cases h' : cmpK a.k b.k = 0
    · obtain rfl : z = decide (a.u < b.u) := by rw [hz.out]; simp [h']
      clear hz h
      rw [h'] at hcon
      clear h'
      obtain ⟨⟨t, f, s⟩, to, v, u, an⟩ := a
      obtain ⟨⟨t', f', s'⟩, to', v', u', an'⟩ := b
      simp only [K.val, M.val] at hcon ⊢
      go_enter Tryz.func37, Tryz.ntmps37
      go_wp2_with (go_at_call 39; refine (hcon _).mono ?_; rintro e w' ⟨rfl, hrd⟩; obtain ⟨_, _, _, _, _, _, x5, _⟩ := hl.read hrd; obtain ⟨_, _, _, _, _, _, y5, _⟩ := hr.read hrd)
      go_ret
      exact ⟨rfl, (Read.two _ _ _).trans hrd⟩
    · obtain rfl : z = false := by rw [hz.out]; simp [h, h']
      clear hz
      generalize cmpK a.k b.k = r at hcon h h' ⊢
      obtain ⟨⟨t, f, s⟩, to, v, u, an⟩ := a
      obtain ⟨⟨t', f', s'⟩, to', v', u', an'⟩ := b
      simp only [K.val, M.val] at hcon ⊢
      go_enter Tryz.func37, Tryz.ntmps37
      go_wp2_with (go_at_call 39; refine (hcon _).mono ?_; rintro e w' ⟨rfl, hrd⟩)
      go_ret
      exact ⟨ret_bool (by simpa using h), (Read.two _ _ _).trans hrd⟩

theorem eqlS (a b c d : Int) (w : World) : Sem.run Tryz.prog (binOp .eql 130 (.agg #[.int .i64 a, .int .i64 b]) (.agg #[.int .i64 c, .int .i64 d])) w = .ok (.bool (decide (a = c) && decide (b = d))) w := by
  have u3 := Tryz.underlying3
  have a3 := Tryz.isAgg3
  have z3 := Tryz.sizeOf3
  have hS : Tryz.prog.underlying 130 = some (.struct (Tryz.prog.fieldsOf 130)) := by kernel_rfl
  have hp : Tryz.prog.stoodInHeld 130 = false := by kernel_rfl
  rw [run_eql_struct, show (10000 : Nat) = 9999 + 1 from rfl, run_equalIn_agg w 9999 130 _ _ hS hp]
  simp only [Program.fieldsOf, Tryz.underlying130]
  go_simp
  by_cases h1 : a = c <;> by_cases h2 : b = d <;> simp [h1, h2]

end Go.Proofs.YtjlbkdghlijoeaaGreat
