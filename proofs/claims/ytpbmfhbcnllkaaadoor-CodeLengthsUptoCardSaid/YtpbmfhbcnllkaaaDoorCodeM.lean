/-
  Which instructions may be, case by case; what their nine bytes read as.
-/
import Derived.Test.YtpbmfhbcnllkaaaDoorCodeB
namespace Go.Proofs.YtpbmfhbcnllkaaaDoor
open Go.ChangeShapes Go.WideShapes Go.ChangeAt Go.RowKit Go.Sort
set_option linter.unusedVariables false

def RegP (x : Int) : Prop := 0 ≤ x ∧ x ≤ 15
/-- The cases of the document's words. -/
def MayP (i : I) (n : Int) : Prop :=
  (i.op = 0 ∧ i.a = 0 ∧ i.b = 0 ∧ i.c = 0) ∨ (i.op = 1 ∧ RegP i.a ∧ (-2147483648 ≤ i.b ∧ i.b ≤ 2147483647) ∧ i.c = 0) ∨ ((i.op = 2 ∨ i.op = 13) ∧ RegP i.a ∧ RegP i.b ∧ i.c = 0)
  ∨ ((i.op = 3 ∨ i.op = 4 ∨ i.op = 5 ∨ i.op = 6 ∨ i.op = 7 ∨ i.op = 8 ∨ i.op = 9 ∨ i.op = 12) ∧ RegP i.a ∧ RegP i.b ∧ RegP i.c) ∨ (i.op = 10 ∧ (0 ≤ i.a ∧ i.a ≤ n) ∧ i.b = 0 ∧ i.c = 0)
  ∨ (i.op = 11 ∧ RegP i.a ∧ (0 ≤ i.b ∧ i.b ≤ n) ∧ i.c = 0) ∨ ((i.op = 14 ∨ i.op = 15 ∨ i.op = 16) ∧ RegP i.a ∧ i.b = 0 ∧ i.c = 0)
theorem may_iff (i : I) (n : Int) : mayB i n = true ↔ MayP i n := by
  obtain ⟨op, a, b, c⟩ := i
  by_cases h : 0 ≤ op ∧ op < 17
  · rcases op_cases h.1 h.2 with rfl | rfl | rfl | rfl | rfl | rfl | rfl | rfl | rfl | rfl | rfl | rfl | rfl | rfl | rfl | rfl | rfl
    all_goals (simp [mayB, fieldsB, restI, usedOf, restB, MayP, regB, wordB, placeB, RegP]; try omega)
  · have h1 : fieldsB ⟨op, a, b, c⟩ n = false := by
      unfold fieldsB
      simp only
      repeat (rw [if_neg (by omega)])
      simp; omega
    rw [mayB, h1]
    simp [MayP]
    omega
/-- What is written in the word's place lies in a word. -/
theorem may_word {i : I} {n : Int} (h : mayB i n = true) (hn : n ≤ 256) : (i.op = 10 → -2147483648 ≤ i.a ∧ i.a ≤ 2147483647) ∧ (i.op ≠ 10 → -2147483648 ≤ i.b ∧ i.b ≤ 2147483647) := by
  have := (may_iff i n).1 h
  unfold MayP RegP at this
  omega
/-- The number of four bytes, the highest first, two's complement. -/
def wordOf (p q r s : Int) : Int := if p < 128 then p * 16777216 + q * 65536 + r * 256 + s else p * 16777216 + q * 65536 + r * 256 + s - 4294967296
/-- The instruction of nine bytes. -/
def dec9 (x0 x1 x2 x3 x4 x5 x6 : Int) : I := if x0 = 10 then ⟨10, wordOf x2 x3 x4 x5, 0, x6⟩ else ⟨x0, x1, wordOf x2 x3 x4 x5, x6⟩
/-- The nine bytes are taken, in a program of n. -/
def take9 (x0 x1 x2 x3 x4 x5 x6 x7 x8 n : Int) : Bool := mayB (dec9 x0 x1 x2 x3 x4 x5 x6) n && decide (enc9 (dec9 x0 x1 x2 x3 x4 x5 x6) = [x0, x1, x2, x3, x4, x5, x6, x7, x8])
def byteP (x : Int) : Prop := 0 ≤ x ∧ x ≤ 255
theorem word_back (p q r s : Int) (hp : byteP p) (hq : byteP q) (hr : byteP r) (hs : byteP s) :
    wordOf p q r s % 4294967296 / 16777216 = p ∧ wordOf p q r s % 4294967296 / 65536 % 256 = q ∧ wordOf p q r s % 4294967296 / 256 % 256 = r ∧ wordOf p q r s % 256 = s := by
  unfold wordOf byteP at *
  split <;> omega
theorem word_there (b : Int) (h : -2147483648 ≤ b ∧ b ≤ 2147483647) : wordOf (b % 4294967296 / 16777216) (b % 4294967296 / 65536 % 256) (b % 4294967296 / 256 % 256) (b % 256) = b := by
  unfold wordOf
  split <;> omega
/-- The document's own words of it: the bytes beside the fields are 0. -/
theorem take9_eq (x0 x1 x2 x3 x4 x5 x6 x7 x8 n : Int) (h0 : byteP x0) (h1 : byteP x1) (h2 : byteP x2) (h3 : byteP x3) (h4 : byteP x4) (h5 : byteP x5) (h6 : byteP x6) :
    take9 x0 x1 x2 x3 x4 x5 x6 x7 x8 n = (!(x0 == 10 && x1 != 0) && (x7 == 0 && (x8 == 0 && mayB (dec9 x0 x1 x2 x3 x4 x5 x6) n))) := by
  obtain ⟨w1, w2, w3, w4⟩ := word_back x2 x3 x4 x5 h2 h3 h4 h5
  unfold take9
  cases hm : mayB (dec9 x0 x1 x2 x3 x4 x5 x6) n with
  | false => simp
  | true =>
    rw [Bool.true_and]
    unfold byteP at *
    by_cases h : x0 = 10
    · subst h
      have e0 : dec9 10 x1 x2 x3 x4 x5 x6 = ⟨10, wordOf x2 x3 x4 x5, 0, x6⟩ := by simp [dec9]
      rw [e0]
      unfold enc9 nine
      simp only [if_true, w1, w2, w3, w4]
      rw [Bool.eq_iff_iff]
      simp
      omega
    · have e0 : dec9 x0 x1 x2 x3 x4 x5 x6 = ⟨x0, x1, wordOf x2 x3 x4 x5, x6⟩ := by simp [dec9, h]
      rw [e0]
      unfold enc9 nine
      simp only [h, if_false, w1, w2, w3, w4]
      rw [Bool.eq_iff_iff]
      simp [h]
      omega
/-- Encoded, read, an instruction that may be is itself. -/
theorem dec_enc {i : I} {n : Int} (h : mayB i n = true) (hn : n ≤ 256) : ∃ x0 x1 x2 x3 x4 x5 x6 x7 x8, enc9 i = [x0, x1, x2, x3, x4, x5, x6, x7, x8] ∧ dec9 x0 x1 x2 x3 x4 x5 x6 = i := by
  have hw := may_word h hn
  have hm := (may_iff i n).1 h
  obtain ⟨op, a, b, c⟩ := i
  unfold MayP RegP at hm
  simp only at hm hw
  unfold enc9 nine
  by_cases e : op = 10
  · subst e
    rw [if_pos rfl]
    refine ⟨_, _, _, _, _, _, _, _, _, rfl, ?_⟩
    have h1 := word_there a (hw.1 rfl)
    have hb : b = 0 := by omega
    have hc : c = 0 := by omega
    subst hb hc
    simp [dec9, h1]
  · simp only [e, if_false]
    refine ⟨_, _, _, _, _, _, _, _, _, rfl, ?_⟩
    have h1 := word_there b (hw.2 e)
    have e1 : op % 256 = op := by omega
    have e2 : a % 256 = a := by omega
    have e3 : c % 256 = c := by omega
    unfold dec9
    rw [e1, e2, e3, h1, if_neg e]

end Go.Proofs.YtpbmfhbcnllkaaaDoor
