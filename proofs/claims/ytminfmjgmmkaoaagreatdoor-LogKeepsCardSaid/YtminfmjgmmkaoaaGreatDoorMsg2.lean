/-
  Instructions as plain data, and the contracts of the small functions of package code, at every number and every instruction.
  Keys and messages as plain data, for a seat that has package code as well: the order of numbers, and the model's comparison of keys and of messages.
  The order of keys and the check of messages, the program's and the document's, for a seat that has package code as well.
-/
import Derived.Test.YtminfmjgmmkaoaaGreatDoorRows
import Derived.WalkKit
import Derived.ProofKit
import Derived.OpenShut
import Derived.WalkLawsBesides
import Derived.Outline
import Derived.Laws.StructEq
import Derived.Shelf.SlSortCmp.QuietGrown
import Derived.Lib.Hide
import Derived.Below
namespace Go.Proofs.YtminfmjgmmkaoaaGreatDoor
open Go.ChangeShapes Go.WideShapes Go.ChangeAt Go.RowKit Go.Sort

theorem mixed : Tryz.prog.follows .mixedOrders = true := by kernel_rfl
/-- What a function that only reads leaves behind: some draws, and blocks of its own. -/
def Read (w w' : World) : Prop := ∃ q os, w' = grow (w.drewN q) os
theorem Read.refl (w : World) : Read w w := ⟨0, #[], by rw [grow_empty]; rfl⟩
theorem Read.trans {a b c : World} (h : Read a b) (h' : Read b c) : Read a c := by
  obtain ⟨q, os, rfl⟩ := h
  obtain ⟨q', os', rfl⟩ := h'
  exact ⟨q + q', os ++ os', by show grow (grow ((a.drewN q).drewN q') os) os' = _; rw [grow_grow, World.drewN_drewN]⟩
theorem Read.alloc {a b : World} (o : Obj) (h : Read (a.alloc o) b) : Read a b :=
  Read.trans ⟨0, #[o], by rw [alloc_eq_grow]; rfl⟩ h
theorem Read.mk (a : World) (o : Obj) : Read a (a.alloc o) := Read.alloc o (Read.refl _)
theorem Read.two (w : World) (o o' : Obj) : Read w ((w.alloc o).alloc o') := Read.alloc _ (Read.mk _ _)
theorem Read.drew (a : World) (n : Nat) : Read a (a.drewN n) := ⟨n, #[], by rw [grow_empty]⟩
theorem Read.cell {w w' : World} {a : Addr} {v : Value} (h : Read w w') (hb : a.block < w.heap.size) (hc : w.cell? a = some v) : w'.cell? a = some v := by
  obtain ⟨q, os, rfl⟩ := h
  exact cell_grown hb hc q os
theorem Read.size {w w' : World} (h : Read w w') : w.heap.size ≤ w'.heap.size := by
  obtain ⟨q, os, rfl⟩ := h
  rw [size_grow]
  exact Nat.le_add_right _ _
theorem Read.below {w w' : World} (h : Read w w') : Below w.heap.size w w' := by
  obtain ⟨q, os, rfl⟩ := h
  exact ⟨rfl, rfl, rfl, by simp [grow], fun i hi => by
    show ((w.drewN q).heap ++ os)[i]? = _
    rw [Array.getElem?_append_left (by exact hi)]
    rfl⟩
theorem ret_bool {a b : Bool} (h : a = b) : Ending.returned (.bool a) = .returned (.bool b) := by rw [h]

/-- An instruction. -/
structure I where
  op : Int
  a : Int
  b : Int
  c : Int
  deriving DecidableEq, Inhabited
def I.val (i : I) : Value := .agg #[.int .i64 i.op, .int .i64 i.a, .int .i64 i.b, .int .i64 i.c]
def I.cells (i : I) : Array Value := #[.int .i64 i.op, .int .i64 i.a, .int .i64 i.b, .int .i64 i.c]
/-- A register. -/
def regB (x : Int) : Bool := decide (0 ≤ x ∧ x ≤ 15)
def wordB (x : Int) : Bool := decide (-2147483648 ≤ x ∧ x ≤ 2147483647)
def placeB (x n : Int) : Bool := decide (0 ≤ x ∧ x ≤ n)

theorem isRegister_any (x : Int) (w : World) : Calls Tryz.prog 60 #[.int .i64 x] w fun e w' => e = .returned (.bool (regB x)) ∧ w = w' := by
  have hz : Hid (regB x = decide (0 ≤ x ∧ x ≤ 15)) := rfl
  generalize regB x = z at hz ⊢
  by_cases h : 0 ≤ x <;> by_cases h' : x < 16
  all_goals
    go_enter Tryz.func60, Tryz.ntmps60
    go_wp2
    go_ret
    exact ⟨ret_bool (by rw [hz.out]; simp; omega), rfl⟩
theorem isWord_any (x : Int) (w : World) : Calls Tryz.prog 61 #[.int .i64 x] w fun e w' => e = .returned (.bool (wordB x)) ∧ w = w' := by
  have hz : Hid (wordB x = decide (-2147483648 ≤ x ∧ x ≤ 2147483647)) := rfl
  generalize wordB x = z at hz ⊢
  by_cases h : -2147483648 ≤ x <;> by_cases h' : x ≤ 2147483647
  all_goals
    go_enter Tryz.func61, Tryz.ntmps61
    go_wp2
    go_ret
    exact ⟨ret_bool (by rw [hz.out]; simp; omega), rfl⟩
theorem isPlace_any (x n : Int) (w : World) : Calls Tryz.prog 62 #[.int .i64 x, .int .i64 n] w fun e w' => e = .returned (.bool (placeB x n)) ∧ w = w' := by
  have hz : Hid (placeB x n = decide (0 ≤ x ∧ x ≤ n)) := rfl
  generalize placeB x n = z at hz ⊢
  by_cases h : 0 ≤ x <;> by_cases h' : x ≤ n
  all_goals
    go_enter Tryz.func62, Tryz.ntmps62
    go_wp2
    go_ret
    exact ⟨ret_bool (by rw [hz.out]; simp; omega), rfl⟩

end Go.Proofs.YtminfmjgmmkaoaaGreatDoor
namespace Go.Proofs.YtminfmjgmmkaoaaGreatDoor
open Go.ChangeShapes Go.WideShapes Go.ChangeAt Go.RowKit Go.Sort

/-- One number by another. -/
def sgn (a b : Int) : Int := if a < b then -1 else if b < a then 1 else 0
/-- A key. -/
structure K where
  t : Int
  f : Int
  s : Int
  deriving DecidableEq, Inhabited
/-- A message. -/
structure M where
  k : K
  to : Int
  v : Int
  u : Int
  anti : Bool
  deriving DecidableEq, Inhabited
def K.val (k : K) : Value := .agg #[.int .i64 k.t, .int .i64 k.f, .int .i64 k.s]
def M.val (m : M) : Value := .agg #[.int .i64 m.k.t, .int .i64 m.k.f, .int .i64 m.k.s, .int .i64 m.to, .int .i64 m.v, .int .i64 m.u, .bool m.anti]
/-- The order of keys. -/
def cmpK (a b : K) : Int := if a.t ≠ b.t then sgn a.t b.t else if a.f ≠ b.f then sgn a.f b.f else sgn a.s b.s
/-- The order of messages. -/
def ltM (a b : M) : Bool := cmpK a.k b.k < 0 || (cmpK a.k b.k == 0 && decide (a.u < b.u))

theorem sgn_lt {a b : Int} (h : a < b) : sgn a b = -1 := by simp [sgn, h]
theorem sgn_gt {a b : Int} (h : b < a) : sgn a b = 1 := by
  have : ¬ a < b := by omega
  simp [sgn, h, this]
theorem sgn_eq (a : Int) : sgn a a = 0 := by simp [sgn]

theorem nan64_any (a : Int) (w : World) : Calls Tryz.prog 114 #[.int .i64 a] w fun e w' => e = .returned (.bool false) ∧ w = w' := by
  go_enter Tryz.func114, Tryz.ntmps114
  go_wp2
  go_ret
  exact ⟨rfl, rfl⟩
theorem nanint_any (a : Int) (w : World) : Calls Tryz.prog 115 #[.int .i64 a] w fun e w' => e = .returned (.bool false) ∧ w = w' := by
  go_enter Tryz.func115, Tryz.ntmps115
  go_wp2
  go_ret
  exact ⟨rfl, rfl⟩
theorem cmp64_any (a b : Int) (w : World) : Calls Tryz.prog 104 #[.int .i64 a, .int .i64 b] w fun e w' => e = .returned (.int .i64 (sgn a b)) ∧ w = w' := by
  rcases Int.lt_trichotomy a b with h | h | h
  · rw [sgn_lt h]
    go_enter Tryz.func104, Tryz.ntmps104
    go_wp2_with (go_at_call 114; refine (nan64_any _ _).mono ?_; rintro e w' ⟨rfl, rfl⟩)
    go_ret
    exact ⟨rfl, rfl⟩
  · subst h
    rw [sgn_eq]
    go_enter Tryz.func104, Tryz.ntmps104
    go_wp2_with (go_at_call 114; refine (nan64_any _ _).mono ?_; rintro e w' ⟨rfl, rfl⟩)
    go_ret
    exact ⟨rfl, rfl⟩
  · rw [sgn_gt h]
    have h' : ¬ a < b := by omega
    go_enter Tryz.func104, Tryz.ntmps104
    go_wp2_with (go_at_call 114; refine (nan64_any _ _).mono ?_; rintro e w' ⟨rfl, rfl⟩)
    go_ret
    exact ⟨rfl, rfl⟩
theorem cmpint_any (a b : Int) (w : World) : Calls Tryz.prog 105 #[.int .i64 a, .int .i64 b] w fun e w' => e = .returned (.int .i64 (sgn a b)) ∧ w = w' := by
  rcases Int.lt_trichotomy a b with h | h | h
  · rw [sgn_lt h]
    go_enter Tryz.func105, Tryz.ntmps105
    go_wp2_with (go_at_call 115; refine (nanint_any _ _).mono ?_; rintro e w' ⟨rfl, rfl⟩)
    go_ret
    exact ⟨rfl, rfl⟩
  · subst h
    rw [sgn_eq]
    go_enter Tryz.func105, Tryz.ntmps105
    go_wp2_with (go_at_call 115; refine (nanint_any _ _).mono ?_; rintro e w' ⟨rfl, rfl⟩)
    go_ret
    exact ⟨rfl, rfl⟩
  · rw [sgn_gt h]
    have h' : ¬ a < b := by omega
    go_enter Tryz.func105, Tryz.ntmps105
    go_wp2_with (go_at_call 115; refine (nanint_any _ _).mono ?_; rintro e w' ⟨rfl, rfl⟩)
    go_ret
    exact ⟨rfl, rfl⟩
theorem eqInK (d : Nat) (a b : K) (w : World) : Sem.run Tryz.prog (Op.equalIn (d + 2) 40 a.val b.val) w = .ok (decide (a = b)) w := by
  have u2 := Tryz.underlying2
  have u3 := Tryz.underlying3
  have a2 := Tryz.isAgg2
  have z2 := Tryz.sizeOf2
  have a3 := Tryz.isAgg3
  have z3 := Tryz.sizeOf3
  have hS : Tryz.prog.underlying 40 = some (.struct (Tryz.prog.fieldsOf 40)) := by kernel_rfl
  have hp : Tryz.prog.stoodInHeld 40 = false := by kernel_rfl
  obtain ⟨t, f, s⟩ := a
  obtain ⟨t', f', s'⟩ := b
  simp only [K.val]
  rw [run_equalIn_agg w (d + 1) 40 _ _ hS hp]
  simp only [Program.fieldsOf, Tryz.underlying40]
  go_simp
  by_cases h1 : t = t' <;> by_cases h2 : f = f' <;> by_cases h3 : s = s' <;> simp [h1, h2, h3]
/-- The model's comparison of two keys. -/
theorem eqlK (a b : K) (w : World) : Sem.run Tryz.prog (binOp .eql 40 a.val b.val) w = .ok (.bool (decide (a = b))) w := by
  have h := eqInK 9998 a b w
  simp only [K.val] at h ⊢
  rw [run_eql_struct, h]
  rfl
theorem neqK (a b : K) (w : World) : Sem.run Tryz.prog (binOp .neq 40 a.val b.val) w = .ok (.bool (!decide (a = b))) w := by
  have h := eqInK 9998 a b w
  simp only [K.val] at h ⊢
  rw [run_neq_struct, h]
  rfl
end Go.Proofs.YtminfmjgmmkaoaaGreatDoor
namespace Go.Proofs.YtminfmjgmmkaoaaGreatDoor
open Go.ChangeShapes Go.WideShapes Go.ChangeAt Go.RowKit Go.Sort
theorem cmpK_t {a b : K} (h : a.t ≠ b.t) : cmpK a b = sgn a.t b.t := by simp [cmpK, h]
theorem cmpK_f {a b : K} (h : a.t = b.t) (h' : a.f ≠ b.f) : cmpK a b = sgn a.f b.f := by simp [cmpK, h, h']
theorem cmpK_s {a b : K} (h : a.t = b.t) (h' : a.f = b.f) : cmpK a b = sgn a.s b.s := by simp [cmpK, h, h']

theorem eCompare_any (a b : K) (w : World) : Calls Tryz.prog 85 #[a.val, b.val] w fun e w' => e = .returned (.int .i64 (cmpK a b)) ∧ Read w w' := by
  have he := fun w => eqlK a b w
  by_cases h : a = b
  · have hd : decide (a = b) = true := by simpa using h
    have hr : cmpK a b = 0 := by subst h; simp [cmpK, sgn]
    rw [hd] at he
    rw [hr]
    clear h hd hr
    obtain ⟨t, f, s⟩ := a
    obtain ⟨t', f', s'⟩ := b
    simp only [K.val] at he ⊢
    go_enter Tryz.func85, Tryz.ntmps85
    go_wp2
    go_ret
    exact ⟨rfl, Read.alloc _ (Read.mk _ _)⟩
  · have hd : decide (a = b) = false := by simpa using h
    rw [hd] at he
    by_cases ht : a.t = b.t
    · by_cases hf : a.f = b.f
      · rw [cmpK_s ht hf]
        clear h hd
        obtain ⟨t, f, s⟩ := a
        obtain ⟨t', f', s'⟩ := b
        simp only at ht hf
        subst ht hf
        simp only [K.val] at he ⊢
        have hcon := fun w => cmpint_any s s' w
        generalize sgn s s' = r at hcon ⊢
        go_enter Tryz.func85, Tryz.ntmps85
        go_wp2_with (go_at_call 105; refine (hcon _).mono ?_; rintro e w' ⟨rfl, rfl⟩)
        go_ret
        exact ⟨rfl, Read.alloc _ (Read.mk _ _)⟩
      · rw [cmpK_f ht hf]
        clear h hd
        obtain ⟨t, f, s⟩ := a
        obtain ⟨t', f', s'⟩ := b
        simp only at ht hf
        subst ht
        simp only [K.val] at he ⊢
        have hcon := fun w => cmpint_any f f' w
        generalize sgn f f' = r at hcon ⊢
        go_enter Tryz.func85, Tryz.ntmps85
        go_wp2_with (go_at_call 105; refine (hcon _).mono ?_; rintro e w' ⟨rfl, rfl⟩)
        go_ret
        exact ⟨rfl, Read.alloc _ (Read.mk _ _)⟩
    · rw [cmpK_t ht]
      clear h hd
      obtain ⟨t, f, s⟩ := a
      obtain ⟨t', f', s'⟩ := b
      simp only at ht
      simp only [K.val] at he ⊢
      have hcon := fun w => cmp64_any t t' w
      generalize sgn t t' = r at hcon ⊢
      go_enter Tryz.func85, Tryz.ntmps85
      go_wp2_with (go_at_call 104; refine (hcon _).mono ?_; rintro e w' ⟨rfl, rfl⟩)
      go_ret
      exact ⟨rfl, Read.alloc _ (Read.mk _ _)⟩


def M.cells (m : M) : Array Value := #[.int .i64 m.k.t, .int .i64 m.k.f, .int .i64 m.k.s, .int .i64 m.to, .int .i64 m.v, .int .i64 m.u, .bool m.anti]
/-- Where a message lies. -/
def MsgAt (w : World) (b o : Nat) (m : M) : Prop :=
  b < w.heap.size ∧ w.cell? ⟨b, o, none⟩ = some (.int .i64 m.k.t) ∧ w.cell? ⟨b, o + 1, none⟩ = some (.int .i64 m.k.f) ∧ w.cell? ⟨b, o + 2, none⟩ = some (.int .i64 m.k.s) ∧ w.cell? ⟨b, o + 3, none⟩ = some (.int .i64 m.to) ∧
    w.cell? ⟨b, o + 4, none⟩ = some (.int .i64 m.v) ∧ w.cell? ⟨b, o + 5, none⟩ = some (.int .i64 m.u) ∧ w.cell? ⟨b, o + 6, none⟩ = some (.bool m.anti)
theorem MsgAt.read {w w' : World} {b o : Nat} {m : M} (h : MsgAt w b o m) (hr : Read w w') : MsgAt w' b o m := by
  obtain ⟨hb, h0, h1, h2, h3, h4, h5, h6⟩ := h
  exact ⟨Nat.lt_of_lt_of_le hb hr.size, hr.cell hb h0, hr.cell hb h1, hr.cell hb h2, hr.cell hb h3, hr.cell hb h4, hr.cell hb h5, hr.cell hb h6⟩
theorem MsgAt.mk (w : World) (m : M) : MsgAt (w.alloc (.cells m.cells 42)) w.heap.size 0 m := by
  refine ⟨by simp, ?_, ?_, ?_, ?_, ?_, ?_, ?_⟩ <;> simp [M.cells]

theorem vValid_any (t : Int) (w : World) : Calls Tryz.prog 38 #[.int .i64 t] w fun e w' => e = .returned (.bool (decide (0 ≤ t ∧ t ≤ 4611686018427387903))) ∧ w = w' := by
  by_cases h0 : 0 ≤ t
  · by_cases h1 : t ≤ 4611686018427387903
    · have hd : decide (0 ≤ t ∧ t ≤ 4611686018427387903) = true := by simp [h0, h1]
      rw [hd]
      go_enter Tryz.func38, Tryz.ntmps38
      go_wp2
      go_ret
      exact ⟨rfl, rfl⟩
    · have hd : decide (0 ≤ t ∧ t ≤ 4611686018427387903) = false := by simp [h1]
      rw [hd]
      go_enter Tryz.func38, Tryz.ntmps38
      go_wp2
      go_ret
      exact ⟨rfl, rfl⟩
  · have hd : decide (0 ≤ t ∧ t ≤ 4611686018427387903) = false := by simp [h0]
    rw [hd]
    go_enter Tryz.func38, Tryz.ntmps38
    go_wp2
    go_ret
    exact ⟨rfl, rfl⟩

/-- A message that may be. -/
def chkM (m : M) : Int := if (0 ≤ m.k.t ∧ m.k.t ≤ 4611686018427387903) ∧ ¬ m.k.f < -1 ∧ ¬ 16 ≤ m.k.f ∧ ¬ m.k.s < 0 ∧ ¬ m.u < 0 ∧ ¬ m.to < 0 ∧ ¬ 16 ≤ m.to then 0 else 1

set_option maxHeartbeats 2000000 in
theorem eCheck_any (a : M) (w : World) : Calls Tryz.prog 21 #[a.val] w fun e w' => e = .returned (.int .i64 (chkM a)) ∧ Read w w' := by
  have hcon := fun w => vValid_any a.k.t w
  have hb := MsgAt.mk w a
  have hz : Hid (chkM a = if (0 ≤ a.k.t ∧ a.k.t ≤ 4611686018427387903) ∧ ¬ a.k.f < -1 ∧ ¬ 16 ≤ a.k.f ∧ ¬ a.k.s < 0 ∧ ¬ a.u < 0 ∧ ¬ a.to < 0 ∧ ¬ 16 ≤ a.to then 0 else 1) := rfl
  generalize chkM a = z at hz ⊢
  obtain ⟨⟨t, f, s⟩, to, v, u, an⟩ := a
  simp only at hz hb
  simp only [M.val] at hcon ⊢
  by_cases h0 : 0 ≤ t ∧ t ≤ 4611686018427387903
  · have hd : decide (0 ≤ t ∧ t ≤ 4611686018427387903) = true := by simp [h0]
    rw [hd] at hcon
    clear hd
    by_cases h1 : f < -1
    · obtain rfl : z = 1 := by rw [hz.out]; simp [h1]
      clear hz h0
      go_enter Tryz.func21, Tryz.ntmps21
      go_wp2_with (go_at_call 38; refine (hcon _).mono ?_; rintro e w' ⟨rfl, rfl⟩)
      go_ret
      exact ⟨rfl, Read.mk _ _⟩
    ·
      by_cases h2 : 16 ≤ f
      · obtain rfl : z = 1 := by rw [hz.out]; simp [h2]
        clear hz h0
        go_enter Tryz.func21, Tryz.ntmps21
        go_wp2_with (go_at_call 38; refine (hcon _).mono ?_; rintro e w' ⟨rfl, rfl⟩)
        go_ret
        exact ⟨rfl, Read.mk _ _⟩
      ·
        by_cases h3 : s < 0
        · obtain rfl : z = 1 := by rw [hz.out]; simp [h3]
          clear hz h0
          go_enter Tryz.func21, Tryz.ntmps21
          go_wp2_with (go_at_call 38; refine (hcon _).mono ?_; rintro e w' ⟨rfl, rfl⟩)
          go_ret
          exact ⟨rfl, Read.mk _ _⟩
        ·
          by_cases h4 : u < 0
          · obtain rfl : z = 1 := by rw [hz.out]; simp [h4]
            clear hz h0
            go_enter Tryz.func21, Tryz.ntmps21
            go_wp2_with (go_at_call 38; refine (hcon _).mono ?_; rintro e w' ⟨rfl, rfl⟩)
            go_ret
            exact ⟨rfl, Read.mk _ _⟩
          ·
            by_cases h5 : to < 0
            · obtain rfl : z = 1 := by rw [hz.out]; simp [h5]
              clear hz h0
              go_enter Tryz.func21, Tryz.ntmps21
              go_wp2_with (go_at_call 38; refine (hcon _).mono ?_; rintro e w' ⟨rfl, rfl⟩)
              go_ret
              exact ⟨rfl, Read.mk _ _⟩
            ·
              by_cases h6 : 16 ≤ to
              · obtain rfl : z = 1 := by rw [hz.out]; simp [h6]
                clear hz h0
                go_enter Tryz.func21, Tryz.ntmps21
                go_wp2_with (go_at_call 38; refine (hcon _).mono ?_; rintro e w' ⟨rfl, rfl⟩)
                go_ret
                exact ⟨rfl, Read.mk _ _⟩
              ·
                obtain rfl : z = 0 := by rw [hz.out]; simp [h0, h1, h2, h3, h4, h5, h6]
                clear hz h0
                go_enter Tryz.func21, Tryz.ntmps21
                go_wp2_with (go_at_call 38; refine (hcon _).mono ?_; rintro e w' ⟨rfl, rfl⟩)
                go_ret
                exact ⟨rfl, Read.mk _ _⟩
  · have hd : decide (0 ≤ t ∧ t ≤ 4611686018427387903) = false := by simpa using h0
    rw [hd] at hcon
    clear hd
    obtain rfl : z = 1 := by rw [hz.out, if_neg (fun h => h0 h.1)]
    clear hz h0
    go_enter Tryz.func21, Tryz.ntmps21
    go_wp2_with (go_at_call 38; refine (hcon _).mono ?_; rintro e w' ⟨rfl, rfl⟩)
    go_ret
    exact ⟨rfl, Read.mk _ _⟩

end Go.Proofs.YtminfmjgmmkaoaaGreatDoor
