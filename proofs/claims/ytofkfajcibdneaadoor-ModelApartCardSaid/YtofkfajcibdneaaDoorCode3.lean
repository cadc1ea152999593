
/-
  The contract of isRestZero, at every instruction.
-/
import Derived.Test.YtofkfajcibdneaaDoorCode2
import Derived.Deep.RegionHeld3
import Derived.Deep.DeepCutAuto
namespace Go.Proofs.YtofkfajcibdneaaDoor
open Go.ChangeShapes Go.WideShapes Go.ChangeAt Go.RowKit Go.Sort

/-- Three numbers in a block. -/
def Nums (w : World) (g : Nat) (a b c : Int) : Prop := g < w.heap.size ∧ w.cell? ⟨g, 0, none⟩ = some (.int .i64 a) ∧ w.cell? ⟨g, 1, none⟩ = some (.int .i64 b) ∧ w.cell? ⟨g, 2, none⟩ = some (.int .i64 c)
theorem Nums.read {w w' : World} {g : Nat} {a b c : Int} (h : Nums w g a b c) (hr : Read w w') : Nums w' g a b c :=
  ⟨Nat.lt_of_lt_of_le h.1 hr.size, hr.cell h.1 h.2.1, hr.cell h.1 h.2.2.1, hr.cell h.1 h.2.2.2⟩
theorem numbersOf_nums (op a b c : Int) (w : World) : Calls Tryd.prog 61 #[.agg #[.int .i64 op, .int .i64 a, .int .i64 b, .int .i64 c]] w fun e w' => ∃ g, e = .returned (.slice (some ⟨g, 0, none⟩) 3 3) ∧ Read w w' ∧ Aside (Nums w' g a b c) := by
  refine (numbersOf_any op a b c w).mono ?_
  rintro e w' ⟨rfl, rfl⟩
  exact ⟨w.heap.size + 1, rfl, Read.two _ _ _, by simp, by simp, by simp, by simp⟩
def restB (u : Nat) (a b c : Int) : Bool := match u with
  | 0 => !(a != 0) && (!(b != 0) && !(c != 0))
  | 1 => !(b != 0) && !(c != 0)
  | 2 => !(c != 0)
  | _ => true

set_option maxRecDepth 100000 in
set_option maxHeartbeats 1000000 in
theorem isRestZero_0 (op a b c : Int) (nm : ByteArray) (hk : ∀ w, Calls Tryd.prog 62 #[.int .i64 op] w fun e w' => e = .returned (.agg #[.string nm, .int .i64 0]) ∧ Read w w') (w : World) :
    Calls Tryd.prog 54 #[.agg #[.int .i64 op, .int .i64 a, .int .i64 b, .int .i64 c]] w fun e w' => e = .returned (.bool (restB 0 a b c)) ∧ Read w w' := by
  have mixed := mixed
  have hfld : ∀ w, (Instr.field 120 (.agg #[.string nm, .int .i64 0]) 1).run Tryd.prog w = .ok (.int .i64 0) w := fun _ => by kernel_rfl
  have hnum := fun w => numbersOf_nums op a b c w
  go_enter Tryd.func54, Tryd.ntmps54
  go_upto_region 1 with (fail)
  have c0 : (w.alloc (.cells #[.int .i64 op, .int .i64 a, .int .i64 b, .int .i64 c] 41)).cell? ⟨w.heap.size, 0, none⟩ = some (.int .i64 op) := by simp
  have c1 : (w.alloc (.cells #[.int .i64 op, .int .i64 a, .int .i64 b, .int .i64 c] 41)).cell? ⟨w.heap.size, 1, none⟩ = some (.int .i64 a) := by simp
  have c2 : (w.alloc (.cells #[.int .i64 op, .int .i64 a, .int .i64 b, .int .i64 c] 41)).cell? ⟨w.heap.size, 2, none⟩ = some (.int .i64 b) := by simp
  have c3 : (w.alloc (.cells #[.int .i64 op, .int .i64 a, .int .i64 b, .int .i64 c] 41)).cell? ⟨w.heap.size, 3, none⟩ = some (.int .i64 c) := by simp
  have hrd := Read.mk w (.cells #[.int .i64 op, .int .i64 a, .int .i64 b, .int .i64 c] 41)
  have hlt : w.heap.size < (w.alloc (.cells #[.int .i64 op, .int .i64 a, .int .i64 b, .int .i64 c] 41)).heap.size := by simp
  generalize w.heap.size = B at c0 c1 c2 c3 hlt ⊢
  generalize w.alloc (.cells #[.int .i64 op, .int .i64 a, .int .i64 b, .int .i64 c] 41) = W at c0 c1 c2 c3 hrd hlt ⊢
  go_region_held3 (fun w' => w'.cell? ⟨B, 0, none⟩ = some (.int .i64 op) ∧ w'.cell? ⟨B, 1, none⟩ = some (.int .i64 a) ∧ w'.cell? ⟨B, 2, none⟩ = some (.int .i64 b) ∧ w'.cell? ⟨B, 3, none⟩ = some (.int .i64 c) ∧ B < w'.heap.size)
    (first | go_keep | (go_split_ands; refine ⟨hr2.cell ?_ ?_, hr2.cell ?_ ?_, hr2.cell ?_ ?_, hr2.cell ?_ ?_, Nat.lt_of_lt_of_le ?_ hr2.size⟩ <;> assumption) | (go_split_ands; refine ⟨hr1.cell ?_ ?_, hr1.cell ?_ ?_, hr1.cell ?_ ?_, hr1.cell ?_ ?_, Nat.lt_of_lt_of_le ?_ hr1.size⟩ <;> assumption))
    (first | (go_at_call 62; refine (hk _).mono ?_; rintro e w1 ⟨rfl, hr1⟩) | (go_at_call 61; refine (hnum _).mono ?_; rintro e w2 ⟨g, rfl, hr2, hn⟩))
  have hfin : Read w w1 := hrd.trans (Read.trans (Read.drew W 1) (hr2.trans hr1))
  obtain ⟨-, n0, n1, n2⟩ := hn.out.read hr1
  clear c0 c1 c2 c3 hn hr1 hr2 hrd hnum hk
  go_wp2
  refine wp_loop_rounds 4 ?_
  rw [rounds_succ]
  go_wp2
  all_goals try (rw [rounds_succ]; go_wp2)
  all_goals try (rw [rounds_succ]; go_wp2)
  all_goals try (rw [rounds_succ]; go_wp2)
  all_goals (go_ret; exact ⟨ret_bool (by unfold restB; first | rfl | (simp only [*]; rfl) | simp only [*]), hfin⟩)


set_option maxRecDepth 100000 in
set_option maxHeartbeats 1000000 in
theorem isRestZero_1 (op a b c : Int) (nm : ByteArray) (hk : ∀ w, Calls Tryd.prog 62 #[.int .i64 op] w fun e w' => e = .returned (.agg #[.string nm, .int .i64 1]) ∧ Read w w') (w : World) :
    Calls Tryd.prog 54 #[.agg #[.int .i64 op, .int .i64 a, .int .i64 b, .int .i64 c]] w fun e w' => e = .returned (.bool (restB 1 a b c)) ∧ Read w w' := by
  have mixed := mixed
  have hfld : ∀ w, (Instr.field 120 (.agg #[.string nm, .int .i64 1]) 1).run Tryd.prog w = .ok (.int .i64 1) w := fun _ => by kernel_rfl
  have hnum := fun w => numbersOf_nums op a b c w
  go_enter Tryd.func54, Tryd.ntmps54
  go_upto_region 1 with (fail)
  have c0 : (w.alloc (.cells #[.int .i64 op, .int .i64 a, .int .i64 b, .int .i64 c] 41)).cell? ⟨w.heap.size, 0, none⟩ = some (.int .i64 op) := by simp
  have c1 : (w.alloc (.cells #[.int .i64 op, .int .i64 a, .int .i64 b, .int .i64 c] 41)).cell? ⟨w.heap.size, 1, none⟩ = some (.int .i64 a) := by simp
  have c2 : (w.alloc (.cells #[.int .i64 op, .int .i64 a, .int .i64 b, .int .i64 c] 41)).cell? ⟨w.heap.size, 2, none⟩ = some (.int .i64 b) := by simp
  have c3 : (w.alloc (.cells #[.int .i64 op, .int .i64 a, .int .i64 b, .int .i64 c] 41)).cell? ⟨w.heap.size, 3, none⟩ = some (.int .i64 c) := by simp
  have hrd := Read.mk w (.cells #[.int .i64 op, .int .i64 a, .int .i64 b, .int .i64 c] 41)
  have hlt : w.heap.size < (w.alloc (.cells #[.int .i64 op, .int .i64 a, .int .i64 b, .int .i64 c] 41)).heap.size := by simp
  generalize w.heap.size = B at c0 c1 c2 c3 hlt ⊢
  generalize w.alloc (.cells #[.int .i64 op, .int .i64 a, .int .i64 b, .int .i64 c] 41) = W at c0 c1 c2 c3 hrd hlt ⊢
  go_region_held3 (fun w' => w'.cell? ⟨B, 0, none⟩ = some (.int .i64 op) ∧ w'.cell? ⟨B, 1, none⟩ = some (.int .i64 a) ∧ w'.cell? ⟨B, 2, none⟩ = some (.int .i64 b) ∧ w'.cell? ⟨B, 3, none⟩ = some (.int .i64 c) ∧ B < w'.heap.size)
    (first | go_keep | (go_split_ands; refine ⟨hr2.cell ?_ ?_, hr2.cell ?_ ?_, hr2.cell ?_ ?_, hr2.cell ?_ ?_, Nat.lt_of_lt_of_le ?_ hr2.size⟩ <;> assumption) | (go_split_ands; refine ⟨hr1.cell ?_ ?_, hr1.cell ?_ ?_, hr1.cell ?_ ?_, hr1.cell ?_ ?_, Nat.lt_of_lt_of_le ?_ hr1.size⟩ <;> assumption))
    (first | (go_at_call 62; refine (hk _).mono ?_; rintro e w1 ⟨rfl, hr1⟩) | (go_at_call 61; refine (hnum _).mono ?_; rintro e w2 ⟨g, rfl, hr2, hn⟩))
  have hfin : Read w w1 := hrd.trans (Read.trans (Read.drew W 1) (hr2.trans hr1))
  obtain ⟨-, n0, n1, n2⟩ := hn.out.read hr1
  clear c0 c1 c2 c3 hn hr1 hr2 hrd hnum hk
  go_wp2
  refine wp_loop_rounds 3 ?_
  rw [rounds_succ]
  go_wp2
  all_goals try (rw [rounds_succ]; go_wp2)
  all_goals try (rw [rounds_succ]; go_wp2)
  all_goals (go_ret; exact ⟨ret_bool (by unfold restB; first | rfl | (simp only [*]; rfl) | simp only [*]), hfin⟩)


set_option maxRecDepth 100000 in
set_option maxHeartbeats 1000000 in
theorem isRestZero_2 (op a b c : Int) (nm : ByteArray) (hk : ∀ w, Calls Tryd.prog 62 #[.int .i64 op] w fun e w' => e = .returned (.agg #[.string nm, .int .i64 2]) ∧ Read w w') (w : World) :
    Calls Tryd.prog 54 #[.agg #[.int .i64 op, .int .i64 a, .int .i64 b, .int .i64 c]] w fun e w' => e = .returned (.bool (restB 2 a b c)) ∧ Read w w' := by
  have mixed := mixed
  have hfld : ∀ w, (Instr.field 120 (.agg #[.string nm, .int .i64 2]) 1).run Tryd.prog w = .ok (.int .i64 2) w := fun _ => by kernel_rfl
  have hnum := fun w => numbersOf_nums op a b c w
  go_enter Tryd.func54, Tryd.ntmps54
  go_upto_region 1 with (fail)
  have c0 : (w.alloc (.cells #[.int .i64 op, .int .i64 a, .int .i64 b, .int .i64 c] 41)).cell? ⟨w.heap.size, 0, none⟩ = some (.int .i64 op) := by simp
  have c1 : (w.alloc (.cells #[.int .i64 op, .int .i64 a, .int .i64 b, .int .i64 c] 41)).cell? ⟨w.heap.size, 1, none⟩ = some (.int .i64 a) := by simp
  have c2 : (w.alloc (.cells #[.int .i64 op, .int .i64 a, .int .i64 b, .int .i64 c] 41)).cell? ⟨w.heap.size, 2, none⟩ = some (.int .i64 b) := by simp
  have c3 : (w.alloc (.cells #[.int .i64 op, .int .i64 a, .int .i64 b, .int .i64 c] 41)).cell? ⟨w.heap.size, 3, none⟩ = some (.int .i64 c) := by simp
  have hrd := Read.mk w (.cells #[.int .i64 op, .int .i64 a, .int .i64 b, .int .i64 c] 41)
  have hlt : w.heap.size < (w.alloc (.cells #[.int .i64 op, .int .i64 a, .int .i64 b, .int .i64 c] 41)).heap.size := by simp
  generalize w.heap.size = B at c0 c1 c2 c3 hlt ⊢
  generalize w.alloc (.cells #[.int .i64 op, .int .i64 a, .int .i64 b, .int .i64 c] 41) = W at c0 c1 c2 c3 hrd hlt ⊢
  go_region_held3 (fun w' => w'.cell? ⟨B, 0, none⟩ = some (.int .i64 op) ∧ w'.cell? ⟨B, 1, none⟩ = some (.int .i64 a) ∧ w'.cell? ⟨B, 2, none⟩ = some (.int .i64 b) ∧ w'.cell? ⟨B, 3, none⟩ = some (.int .i64 c) ∧ B < w'.heap.size)
    (first | go_keep | (go_split_ands; refine ⟨hr2.cell ?_ ?_, hr2.cell ?_ ?_, hr2.cell ?_ ?_, hr2.cell ?_ ?_, Nat.lt_of_lt_of_le ?_ hr2.size⟩ <;> assumption) | (go_split_ands; refine ⟨hr1.cell ?_ ?_, hr1.cell ?_ ?_, hr1.cell ?_ ?_, hr1.cell ?_ ?_, Nat.lt_of_lt_of_le ?_ hr1.size⟩ <;> assumption))
    (first | (go_at_call 62; refine (hk _).mono ?_; rintro e w1 ⟨rfl, hr1⟩) | (go_at_call 61; refine (hnum _).mono ?_; rintro e w2 ⟨g, rfl, hr2, hn⟩))
  have hfin : Read w w1 := hrd.trans (Read.trans (Read.drew W 1) (hr2.trans hr1))
  obtain ⟨-, n0, n1, n2⟩ := hn.out.read hr1
  clear c0 c1 c2 c3 hn hr1 hr2 hrd hnum hk
  go_wp2
  refine wp_loop_rounds 2 ?_
  rw [rounds_succ]
  go_wp2
  all_goals try (rw [rounds_succ]; go_wp2)
  all_goals (go_ret; exact ⟨ret_bool (by unfold restB; first | rfl | (simp only [*]; rfl) | simp only [*]), hfin⟩)


set_option maxRecDepth 100000 in
set_option maxHeartbeats 1000000 in
theorem isRestZero_3 (op a b c : Int) (nm : ByteArray) (hk : ∀ w, Calls Tryd.prog 62 #[.int .i64 op] w fun e w' => e = .returned (.agg #[.string nm, .int .i64 3]) ∧ Read w w') (w : World) :
    Calls Tryd.prog 54 #[.agg #[.int .i64 op, .int .i64 a, .int .i64 b, .int .i64 c]] w fun e w' => e = .returned (.bool (restB 3 a b c)) ∧ Read w w' := by
  have mixed := mixed
  have hfld : ∀ w, (Instr.field 120 (.agg #[.string nm, .int .i64 3]) 1).run Tryd.prog w = .ok (.int .i64 3) w := fun _ => by kernel_rfl
  have hnum := fun w => numbersOf_nums op a b c w
  go_enter Tryd.func54, Tryd.ntmps54
  go_upto_region 1 with (fail)
  have c0 : (w.alloc (.cells #[.int .i64 op, .int .i64 a, .int .i64 b, .int .i64 c] 41)).cell? ⟨w.heap.size, 0, none⟩ = some (.int .i64 op) := by simp
  have c1 : (w.alloc (.cells #[.int .i64 op, .int .i64 a, .int .i64 b, .int .i64 c] 41)).cell? ⟨w.heap.size, 1, none⟩ = some (.int .i64 a) := by simp
  have c2 : (w.alloc (.cells #[.int .i64 op, .int .i64 a, .int .i64 b, .int .i64 c] 41)).cell? ⟨w.heap.size, 2, none⟩ = some (.int .i64 b) := by simp
  have c3 : (w.alloc (.cells #[.int .i64 op, .int .i64 a, .int .i64 b, .int .i64 c] 41)).cell? ⟨w.heap.size, 3, none⟩ = some (.int .i64 c) := by simp
  have hrd := Read.mk w (.cells #[.int .i64 op, .int .i64 a, .int .i64 b, .int .i64 c] 41)
  have hlt : w.heap.size < (w.alloc (.cells #[.int .i64 op, .int .i64 a, .int .i64 b, .int .i64 c] 41)).heap.size := by simp
  generalize w.heap.size = B at c0 c1 c2 c3 hlt ⊢
  generalize w.alloc (.cells #[.int .i64 op, .int .i64 a, .int .i64 b, .int .i64 c] 41) = W at c0 c1 c2 c3 hrd hlt ⊢
  go_region_held3 (fun w' => w'.cell? ⟨B, 0, none⟩ = some (.int .i64 op) ∧ w'.cell? ⟨B, 1, none⟩ = some (.int .i64 a) ∧ w'.cell? ⟨B, 2, none⟩ = some (.int .i64 b) ∧ w'.cell? ⟨B, 3, none⟩ = some (.int .i64 c) ∧ B < w'.heap.size)
    (first | go_keep | (go_split_ands; refine ⟨hr2.cell ?_ ?_, hr2.cell ?_ ?_, hr2.cell ?_ ?_, hr2.cell ?_ ?_, Nat.lt_of_lt_of_le ?_ hr2.size⟩ <;> assumption) | (go_split_ands; refine ⟨hr1.cell ?_ ?_, hr1.cell ?_ ?_, hr1.cell ?_ ?_, hr1.cell ?_ ?_, Nat.lt_of_lt_of_le ?_ hr1.size⟩ <;> assumption))
    (first | (go_at_call 62; refine (hk _).mono ?_; rintro e w1 ⟨rfl, hr1⟩) | (go_at_call 61; refine (hnum _).mono ?_; rintro e w2 ⟨g, rfl, hr2, hn⟩))
  have hfin : Read w w1 := hrd.trans (Read.trans (Read.drew W 1) (hr2.trans hr1))
  obtain ⟨-, n0, n1, n2⟩ := hn.out.read hr1
  clear c0 c1 c2 c3 hn hr1 hr2 hrd hnum hk
  go_wp2
  refine wp_loop_rounds 1 ?_
  rw [rounds_succ]
  go_wp2
  all_goals (go_ret; exact ⟨ret_bool (by unfold restB; first | rfl | (simp only [*]; rfl) | simp only [*]), hfin⟩)

/-- What must be 0 is 0. -/
def restI (i : I) : Bool := restB (usedOf i.op) i.a i.b i.c
theorem isRestZero_any (i : I) (w : World) : Calls Tryd.prog 54 #[i.val] w fun e w' => e = .returned (.bool (restI i)) ∧ Read w w' := by
  obtain ⟨op, a, b, c⟩ := i
  have hk := kindOf_any op
  have hu := usedOf_le op
  unfold restI kindV I.val at *
  simp only at *
  generalize usedOf op = u at hk hu ⊢
  rcases (by omega : u = 0 ∨ u = 1 ∨ u = 2 ∨ u = 3) with rfl | rfl | rfl | rfl
  · exact isRestZero_0 op a b c _ hk w
  · exact isRestZero_1 op a b c _ hk w
  · exact isRestZero_2 op a b c _ hk w
  · exact isRestZero_3 op a b c _ hk w

end Go.Proofs.YtofkfajcibdneaaDoor
