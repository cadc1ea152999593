
/-
  The contracts of kindOf, numbersOf and isRestZero, at every instruction.
-/
import Derived.Test.YtofkfajcibdneaaDoorCode1
import Derived.LoopTactic
import Derived.Deep.WholeRow
namespace Go.Proofs.YtofkfajcibdneaaDoor
open Go.ChangeShapes Go.WideShapes Go.ChangeAt Go.RowKit Go.Sort

/-- The name of a kind, and how many of its numbers may be other than 0. -/
def nameOf (op : Int) : ByteArray :=
  if op = 0 then ⟨#[104, 97, 108, 116]⟩ else if op = 1 then ⟨#[115, 101, 116]⟩ else if op = 2 then ⟨#[109, 111, 118, 101]⟩ else if op = 3 then ⟨#[97, 100, 100]⟩ else if op = 4 then ⟨#[115, 117, 98]⟩
  else if op = 5 then ⟨#[109, 117, 108]⟩ else if op = 6 then ⟨#[100, 105, 118]⟩ else if op = 7 then ⟨#[109, 111, 100]⟩ else if op = 8 then ⟨#[108, 101, 115, 115]⟩ else if op = 9 then ⟨#[115, 97, 109, 101]⟩
  else if op = 10 then ⟨#[106, 117, 109, 112]⟩ else if op = 11 then ⟨#[122, 101, 114, 111]⟩ else if op = 12 then ⟨#[115, 101, 110, 100]⟩ else if op = 13 then ⟨#[100, 114, 97, 119]⟩ else if op = 14 then ⟨#[118, 97, 108, 117, 101]⟩
  else if op = 15 then ⟨#[116, 105, 109, 101]⟩ else if op = 16 then ⟨#[115, 101, 108, 102]⟩ else ⟨#[63]⟩
def usedOf (op : Int) : Nat :=
  if op = 0 then 0 else if op = 1 ∨ op = 2 ∨ op = 11 ∨ op = 13 then 2 else if op = 10 ∨ op = 14 ∨ op = 15 ∨ op = 16 then 1 else 3
theorem usedOf_le (op : Int) : usedOf op ≤ 3 := by
  unfold usedOf
  by_cases h1 : op = 0
  · simp [h1]
  · by_cases h2 : op = 1 ∨ op = 2 ∨ op = 11 ∨ op = 13
    · simp [h1, h2]
    · by_cases h3 : op = 10 ∨ op = 14 ∨ op = 15 ∨ op = 16
      · simp [h1, h2, h3]
      · simp [h1, h2, h3]
def kindV (op : Int) : Value := .agg #[.string (nameOf op), .int .i64 (usedOf op)]

theorem op_cases {op : Int} (h0 : 0 ≤ op) (h1 : op < 17) : op = 0 ∨ op = 1 ∨ op = 2 ∨ op = 3 ∨ op = 4 ∨ op = 5 ∨ op = 6 ∨ op = 7 ∨ op = 8 ∨ op = 9 ∨ op = 10 ∨ op = 11 ∨ op = 12 ∨ op = 13 ∨ op = 14 ∨ op = 15 ∨ op = 16 := by omega

/-- The table's cells. -/
def kindTab : Array Value := #[.string ⟨#[104, 97, 108, 116]⟩, .int .i64 0, .string ⟨#[115, 101, 116]⟩, .int .i64 2, .string ⟨#[109, 111, 118, 101]⟩, .int .i64 2, .string ⟨#[97, 100, 100]⟩, .int .i64 3, .string ⟨#[115, 117, 98]⟩, .int .i64 3,
  .string ⟨#[109, 117, 108]⟩, .int .i64 3, .string ⟨#[100, 105, 118]⟩, .int .i64 3, .string ⟨#[109, 111, 100]⟩, .int .i64 3, .string ⟨#[108, 101, 115, 115]⟩, .int .i64 3, .string ⟨#[115, 97, 109, 101]⟩, .int .i64 3,
  .string ⟨#[106, 117, 109, 112]⟩, .int .i64 1, .string ⟨#[122, 101, 114, 111]⟩, .int .i64 2, .string ⟨#[115, 101, 110, 100]⟩, .int .i64 3, .string ⟨#[100, 114, 97, 119]⟩, .int .i64 2, .string ⟨#[118, 97, 108, 117, 101]⟩, .int .i64 1,
  .string ⟨#[116, 105, 109, 101]⟩, .int .i64 1, .string ⟨#[115, 101, 108, 102]⟩, .int .i64 1]
def kindZero : Array Value := #[.string ⟨#[]⟩, .int .i64 0, .string ⟨#[]⟩, .int .i64 0, .string ⟨#[]⟩, .int .i64 0, .string ⟨#[]⟩, .int .i64 0, .string ⟨#[]⟩, .int .i64 0, .string ⟨#[]⟩, .int .i64 0, .string ⟨#[]⟩, .int .i64 0, .string ⟨#[]⟩, .int .i64 0, .string ⟨#[]⟩, .int .i64 0,
  .string ⟨#[]⟩, .int .i64 0, .string ⟨#[]⟩, .int .i64 0, .string ⟨#[]⟩, .int .i64 0, .string ⟨#[]⟩, .int .i64 0, .string ⟨#[]⟩, .int .i64 0, .string ⟨#[]⟩, .int .i64 0, .string ⟨#[]⟩, .int .i64 0, .string ⟨#[]⟩, .int .i64 0]
theorem kindInfo : (Tryd.prog.info? 122).map (·.size) = some kindTab.size := by kernel_rfl
theorem setRow2 (w : World) (A : Obj) (c c' : Array Value) (t : TypeId) : ((w.alloc A).alloc (.cells c t)).setRow (w.heap.size + 1) c' = (w.alloc A).alloc (.cells c' t) := by
  have := World.setRow_alloc_new (w.alloc A) c c' t
  rw [← this]
  simp
theorem kindStore (w : World) (ops : Array Oper) (rest : List Oper) (Q : Exit → Act → World → Prop) (a : Act) (A : Obj) (o1 : Option Tmp) (o3 : TypeId) (o4 : String) (o5 : Array Edge) (o6 : Option (Nat × Bool)) (hg : (Oper.mk o1 (.store 122 (.tmp 3) (.tmp 21)) o3 o4 o5 o6).guard = none)
    (hx : a.eval (.tmp 3) = .pointer (some ⟨w.heap.size + 1, 0, none⟩)) (hy : a.eval (.tmp 21) = .agg kindTab) (z : Array Value) (hz : z = kindZero) (h : wpList Tryd.prog ops Q rest (a.put o1 undef) ((w.alloc A).alloc (.cells kindTab 122))) :
    wpList Tryd.prog ops Q (Oper.mk o1 (.store 122 (.tmp 3) (.tmp 21)) o3 o4 o5 o6 :: rest) a ((w.alloc A).alloc (.cells z 122)) := by
  subst hz
  refine wpList_store_row hg 122 (.tmp 3) (.tmp 21) rfl (w.heap.size + 1) kindTab hx hy 122 kindZero (heap_alloc2_new w _ _) kindInfo rfl (by decide +kernel) ?_
  rw [setRow2]
  exact h
set_option maxHeartbeats 1000000 in
theorem kindOf_low (op : Int) (h : op < 0) (w : World) : Calls Tryd.prog 62 #[.int .i64 op] w fun e w' => e = .returned (.agg #[.string ⟨#[63]⟩, .int .i64 3]) ∧ Read w w' := by
  go_enter Tryd.func62, Tryd.ntmps62
  go_wp2_with ((with_reducible refine kindStore w _ _ _ _ _ _ _ _ _ _ ?_ ?_ ?_ _ ?_ ?_); (any_goals rfl))
  exact bodyPost_ret (v := .agg #[.string ⟨#[63]⟩, .int .i64 3]) (by simp [results, Tryd.results62, go_sem]) rfl ⟨rfl, Read.two _ _ _⟩
set_option maxHeartbeats 1000000 in
theorem kindOf_high (op : Int) (h : 17 ≤ op) (w : World) : Calls Tryd.prog 62 #[.int .i64 op] w fun e w' => e = .returned (.agg #[.string ⟨#[63]⟩, .int .i64 3]) ∧ Read w w' := by
  have h0 : ¬ op < 0 := by omega
  go_enter Tryd.func62, Tryd.ntmps62
  go_wp2_with ((with_reducible refine kindStore w _ _ _ _ _ _ _ _ _ _ ?_ ?_ ?_ _ ?_ ?_); (any_goals rfl))
  exact bodyPost_ret (v := .agg #[.string ⟨#[63]⟩, .int .i64 3]) (by simp [results, Tryd.results62, go_sem]) rfl ⟨rfl, Read.two _ _ _⟩
set_option maxHeartbeats 1000000 in
theorem kindOf_in (k : Nat) (h : k < 17) (n : ByteArray) (u : Int) (h1 : kindTab[k * 2]? = some (.string n)) (h2 : kindTab[k * 2 + 1]? = some (.int .i64 u)) (w : World) : Calls Tryd.prog 62 #[.int .i64 k] w fun e w' => e = .returned (.agg #[.string n, .int .i64 u]) ∧ Read w w' := by
  go_enter Tryd.func62, Tryd.ntmps62
  go_wp2_with ((with_reducible refine kindStore w _ _ _ _ _ _ _ _ _ _ ?_ ?_ ?_ _ ?_ ?_); (any_goals rfl))
  exact bodyPost_ret (v := .agg #[.string n, .int .i64 u]) (by simp [results, Tryd.results62, go_sem]) rfl ⟨rfl, Read.two _ _ _⟩
theorem kindOf_any (op : Int) (w : World) : Calls Tryd.prog 62 #[.int .i64 op] w fun e w' => e = .returned (kindV op) ∧ Read w w' := by
  by_cases h : op < 0 ∨ 17 ≤ op
  · have hn : kindV op = .agg #[.string ⟨#[63]⟩, .int .i64 3] := by
      have e1 : nameOf op = ⟨#[63]⟩ := by unfold nameOf; repeat (rw [if_neg (by omega)])
      have e2 : usedOf op = 3 := by unfold usedOf; repeat (rw [if_neg (by omega)])
      rw [kindV, e1, e2]; rfl
    rw [hn]
    rcases h with h | h
    · exact kindOf_low op h w
    · exact kindOf_high op h w
  · rcases op_cases (op := op) (by omega) (by omega) with rfl | rfl | rfl | rfl | rfl | rfl | rfl | rfl | rfl | rfl | rfl | rfl | rfl | rfl | rfl | rfl | rfl
    · exact kindOf_in 0 (by decide) _ _ rfl rfl w
    · exact kindOf_in 1 (by decide) _ _ rfl rfl w
    · exact kindOf_in 2 (by decide) _ _ rfl rfl w
    · exact kindOf_in 3 (by decide) _ _ rfl rfl w
    · exact kindOf_in 4 (by decide) _ _ rfl rfl w
    · exact kindOf_in 5 (by decide) _ _ rfl rfl w
    · exact kindOf_in 6 (by decide) _ _ rfl rfl w
    · exact kindOf_in 7 (by decide) _ _ rfl rfl w
    · exact kindOf_in 8 (by decide) _ _ rfl rfl w
    · exact kindOf_in 9 (by decide) _ _ rfl rfl w
    · exact kindOf_in 10 (by decide) _ _ rfl rfl w
    · exact kindOf_in 11 (by decide) _ _ rfl rfl w
    · exact kindOf_in 12 (by decide) _ _ rfl rfl w
    · exact kindOf_in 13 (by decide) _ _ rfl rfl w
    · exact kindOf_in 14 (by decide) _ _ rfl rfl w
    · exact kindOf_in 15 (by decide) _ _ rfl rfl w
    · exact kindOf_in 16 (by decide) _ _ rfl rfl w

theorem numbersOf_any (op a b c : Int) (w : World) : Calls Tryd.prog 61 #[.agg #[.int .i64 op, .int .i64 a, .int .i64 b, .int .i64 c]] w fun e w' =>
    e = .returned (.slice (some ⟨w.heap.size + 1, 0, none⟩) 3 3) ∧ w' = (w.alloc (.cells #[.int .i64 op, .int .i64 a, .int .i64 b, .int .i64 c] 41)).alloc (.cells #[.int .i64 a, .int .i64 b, .int .i64 c] 3) := by
  go_enter Tryd.func61, Tryd.ntmps61
  go_wp2
  go_ret
  exact ⟨rfl, rfl⟩

end Go.Proofs.YtofkfajcibdneaaDoor
