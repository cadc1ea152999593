/-
  Slices of bytes that can be read, as plain data; the contract of bytesOf, at every instruction.
-/
import Derived.Test.YtpbmfhbcnllkaaaDoorCode7
import Derived.Laws.BytesArg
import Derived.BigQuiet
import Derived.Deep.QuietTactic
namespace Go.Proofs.YtpbmfhbcnllkaaaDoor
open Go.ChangeShapes Go.WideShapes Go.ChangeAt Go.RowKit Go.Sort
set_option linter.unusedVariables false

/-- A slice value reads as the bytes bs. -/
def Byts (w : World) (a : Option Addr) (len cap : Nat) (bs : List Int) : Prop :=
  bs.length = len ∧ len ≤ cap ∧ cap ≤ maxLen ∧ (∀ x ∈ bs, 0 ≤ x ∧ x ≤ 255) ∧ (len = 0 ∨ ∃ b off, a = some ⟨b, off, none⟩ ∧ b < w.heap.size ∧ ∀ k, k < len → w.cell? ⟨b, off + k, none⟩ = some (.int .u8 (bs.getD k 0)))
theorem Byts.below {w w' : World} {a : Option Addr} {len cap : Nat} {bs : List Int} (h : Byts w a len cap bs) (hb : Below w.heap.size w w') : Byts w' a len cap bs := by
  obtain ⟨h1, h2, h3, hf, h4⟩ := h
  refine ⟨h1, h2, h3, hf, h4.imp id ?_⟩
  rintro ⟨b, off, ha, hlt, hm⟩
  exact ⟨b, off, ha, Nat.lt_of_lt_of_le hlt hb.size, fun k hk => by rw [hb.cell hlt]; exact hm k hk⟩
theorem Byts.read {w w' : World} {a : Option Addr} {len cap : Nat} {bs : List Int} (h : Byts w a len cap bs) (hr : Read w w') : Byts w' a len cap bs := h.below hr.below
theorem conv_zero (w : World) (y : Addr) (c : Nat) : (convert 28 9 (.slice (some y) 0 c)).run Tryd.prog w = .ok (.string (strOfNums [])) w := by
  rw [run_convert_bytes_string w 28 9 5 _ 0 c Tryd.underlying28 Tryd.underlying5 Tryd.underlying9]
  rfl
theorem Byts.conv {w : World} {a : Option Addr} {len cap : Nat} {bs : List Int} (h : Byts w a len cap bs) : (convert 28 9 (.slice a len cap)).run Tryd.prog w = .ok (.string (strOfNums bs)) w := by
  obtain ⟨h1, h2, h3, hf, h4⟩ := h
  rcases h4 with h0 | ⟨b, off, rfl, hlt, hm⟩
  · obtain rfl : bs = [] := List.eq_nil_of_length_eq_zero (by omega)
    subst h0
    cases a with
    | none => exact run_convert_bytes_nil (P := Tryd.prog) w 28 5 Tryd.underlying28 Tryd.underlying5 0 cap 9 Tryd.underlying9
    | some y => exact conv_zero w y cap
  · exact run_convert_bytes_arg (P := Tryd.prog) w 28 5 Tryd.underlying28 Tryd.underlying5 b off len cap bs h1 hm 9 Tryd.underlying9

/-- The nine bytes, out of what the fields are written with. -/
def nine (op a b c : Int) : List Int := [op % 256, a % 256, b % 4294967296 / 16777216, b % 4294967296 / 65536 % 256, b % 4294967296 / 256 % 256, b % 256, c % 256, 0, 0]
/-- The nine bytes of an instruction: a jump's place lies where another's number does. -/
def enc9 (i : I) : List Int := if i.op = 10 then nine 10 0 i.a i.c else nine i.op i.a i.b i.c
theorem nine_length (op a b c : Int) : (nine op a b c).length = 9 := rfl
theorem enc9_length (i : I) : (enc9 i).length = 9 := by unfold enc9; split <;> rfl
theorem nine_bytes (op a b c : Int) : ∀ x ∈ nine op a b c, 0 ≤ x ∧ x ≤ 255 := by
  intro x hx
  simp only [nine, List.mem_cons, List.not_mem_nil, or_false] at hx
  rcases hx with rfl | rfl | rfl | rfl | rfl | rfl | rfl | rfl | rfl <;> omega
theorem enc9_bytes (i : I) : ∀ x ∈ enc9 i, 0 ≤ x ∧ x ≤ 255 := by unfold enc9; split <;> exact nine_bytes _ _ _ _
/-- A new block that holds nine bytes. -/
theorem Byts.nine (W : World) (op a b c : Int) : Byts (W.alloc (.cells #[.int .u8 (op % 256), .int .u8 (a % 256), .int .u8 (b % 4294967296 / 16777216), .int .u8 (b % 4294967296 / 65536 % 256), .int .u8 (b % 4294967296 / 256 % 256), .int .u8 (b % 256), .int .u8 (c % 256), .int .u8 0, .int .u8 0] 5))
    (some ⟨W.heap.size, 0, none⟩) 9 9 (nine op a b c) := by
  refine ⟨rfl, by omega, by unfold maxLen; omega, nine_bytes _ _ _ _, .inr ⟨W.heap.size, 0, rfl, by simp, fun k hk => ?_⟩⟩
  rcases (by omega : k = 0 ∨ k = 1 ∨ k = 2 ∨ k = 3 ∨ k = 4 ∨ k = 5 ∨ k = 6 ∨ k = 7 ∨ k = 8) with rfl | rfl | rfl | rfl | rfl | rfl | rfl | rfl | rfl <;> simp [Proofs.YtpbmfhbcnllkaaaDoor.nine]

set_option maxRecDepth 100000 in
set_option maxHeartbeats 1000000 in
theorem bytesOf_other (op a b c : Int) (h : (op == 10) = false) (w : World) : Calls Tryd.prog 24 #[.agg #[.int .i64 op, .int .i64 a, .int .i64 b, .int .i64 c]] w fun e w' =>
    ∃ g, e = .returned (.slice (some ⟨g, 0, none⟩) 9 9) ∧ Read w w' ∧ Aside (Byts w' (some ⟨g, 0, none⟩) 9 9 (nine op a b c)) := by
  have mixed := mixed
  go_enter Tryd.func24, Tryd.ntmps24
  go_wp2
  go_quiet (fail)
  go_wp2
  go_ret
  refine ⟨w.heap.size + 1, rfl, ?_, ?_⟩
  · exact (Read.mk _ _).trans ((Read.drew _ _).trans (Read.mk _ _))
  · have := Byts.nine ((w.alloc (.cells #[.int .i64 op, .int .i64 a, .int .i64 b, .int .i64 c] 40)).drewN nq) op a b c
    change Byts _ _ _ _ _
    simpa using this
set_option maxRecDepth 100000 in
set_option maxHeartbeats 1000000 in
theorem bytesOf_jump (a b c : Int) (w : World) : Calls Tryd.prog 24 #[.agg #[.int .i64 10, .int .i64 a, .int .i64 b, .int .i64 c]] w fun e w' =>
    ∃ g, e = .returned (.slice (some ⟨g, 0, none⟩) 9 9) ∧ Read w w' ∧ Aside (Byts w' (some ⟨g, 0, none⟩) 9 9 (nine 10 0 a c)) := by
  have mixed := mixed
  go_enter Tryd.func24, Tryd.ntmps24
  go_wp2
  go_quiet (fail)
  go_wp2
  go_quiet (fail)
  go_wp2
  go_ret
  refine ⟨w.heap.size + 1, rfl, ?_, ?_⟩
  · exact (Read.mk _ _).trans ((Read.drew _ _).trans (Read.mk _ _))
  · rename_i nq'
    have := Byts.nine ((w.alloc (.cells #[.int .i64 10, .int .i64 a, .int .i64 b, .int .i64 c] 40)).drewN (nq' + nq)) 10 0 a c
    change Byts _ _ _ _ _
    simpa using this
theorem bytesOf_any (i : I) (w : World) : Calls Tryd.prog 24 #[i.val] w fun e w' => ∃ g, e = .returned (.slice (some ⟨g, 0, none⟩) 9 9) ∧ Read w w' ∧ Aside (Byts w' (some ⟨g, 0, none⟩) 9 9 (enc9 i)) := by
  obtain ⟨op, a, b, c⟩ := i
  unfold enc9
  by_cases h : op = 10
  · subst h
    exact bytesOf_jump a b c w
  · simp only [h, if_false]
    exact bytesOf_other op a b c (by simpa using h) w

end Go.Proofs.YtpbmfhbcnllkaaaDoor
