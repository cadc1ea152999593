/-
  The words of an instruction: how many blanks they have, and that they neither begin nor end with one.
-/
import Derived.Test.YtpbmfhbcnllkaaaDoorLawT
namespace Go.Proofs.YtpbmfhbcnllkaaaDoor
open Go.ChangeShapes Go.WideShapes Go.ChangeAt Go.RowKit Go.Sort
set_option linter.unusedVariables false

theorem digit_ne (d : Nat) (h : d < 10) : UInt8.ofNat (48 + d) ≠ 32 := by
  rcases (by omega : d = 0 ∨ d = 1 ∨ d = 2 ∨ d = 3 ∨ d = 4 ∨ d = 5 ∨ d = 6 ∨ d = 7 ∨ d = 8 ∨ d = 9) with rfl | rfl | rfl | rfl | rfl | rfl | rfl | rfl | rfl | rfl <;> decide
theorem dec_ne (u : Nat) : Lib.decDigits u ≠ [] ∧ ∀ c ∈ Lib.decDigits u, c ≠ 32 := by
  induction u using Nat.strongRecOn with
  | ind u ih =>
    by_cases h : u < 10
    · rw [dec_small h]
      refine ⟨by simp, ?_⟩
      intro c hc
      simp only [List.mem_singleton] at hc
      subst hc
      exact digit_ne u h
    · rw [dec_big h]
      refine ⟨by simp, ?_⟩
      intro c hc
      simp only [List.mem_append, List.mem_singleton] at hc
      rcases hc with hc | rfl
      · exact (ih (u / 10) (by omega)).2 c hc
      · exact digit_ne _ (Nat.mod_lt _ (by decide))
theorem itoa_ne (n : Int) : Lib.itoa n ≠ [] ∧ ∀ c ∈ Lib.itoa n, c ≠ 32 := by
  by_cases hn : n < 0
  · obtain ⟨u, rfl⟩ : ∃ u : Nat, n = -(u : Int) := ⟨n.natAbs, by omega⟩
    rw [Lib.itoa_neg u (by omega)]
    refine ⟨by simp, ?_⟩
    intro c hc
    simp only [List.mem_cons] at hc
    rcases hc with rfl | hc
    · decide
    · exact (dec_ne u).2 c hc
  · obtain ⟨u, rfl⟩ : ∃ u : Nat, n = (u : Int) := ⟨n.toNat, by omega⟩
    rw [Lib.itoa_nonneg]
    exact dec_ne u
theorem name_ne (op : Int) : nameL op ≠ [] ∧ ∀ c ∈ nameL op, c ≠ 32 := by
  by_cases h : op < 0 ∨ 17 ≤ op
  · have e1 : nameOf op = ⟨#[63]⟩ := by unfold nameOf; repeat (rw [if_neg (by omega)])
    unfold nameL
    rw [e1]
    decide
  · rcases op_cases (op := op) (by omega) (by omega) with rfl | rfl | rfl | rfl | rfl | rfl | rfl | rfl | rfl | rfl | rfl | rfl | rfl | rfl | rfl | rfl | rfl
    all_goals decide
theorem count_none {l : List UInt8} (h : ∀ c ∈ l, c ≠ 32) : l.count 32 = 0 := by
  rw [List.count_eq_zero]
  intro hm
  exact h 32 hm rfl
theorem words_count (nm : List UInt8) (xs : List Int) : (words nm xs).count 32 = nm.count 32 + xs.length := by
  induction xs generalizing nm with
  | nil => simp [words_nil]
  | cons x xs ih =>
    rw [words_cons, ih, List.count_append, List.count_cons_self, count_none (itoa_ne x).2]
    simp
    omega
theorem text_count (i : I) : (textI i).count 32 = usedOf i.op := by
  unfold textI
  have := usedOf_le i.op
  rw [words_count, count_none (name_ne i.op).2]
  simp
  omega
/-- The first byte is a name's. -/
theorem words_head (nm : List UInt8) (xs : List Int) (h : nm ≠ []) : (words nm xs).head? = nm.head? := by
  unfold words
  cases nm with
  | nil => exact absurd rfl h
  | cons a l => rfl
theorem words_last (nm : List UInt8) (xs : List Int) (h : nm ≠ []) (hb : ∀ c ∈ nm, c ≠ 32) : ∃ c, (words nm xs).getLast? = some c ∧ c ≠ 32 := by
  suffices H : ∀ (xs : List Int) (nm : List UInt8), (∃ c, nm.getLast? = some c ∧ c ≠ 32) → ∃ c, (words nm xs).getLast? = some c ∧ c ≠ 32 by
    refine H xs nm ⟨nm.getLast h, List.getLast?_eq_some_getLast h, hb _ (List.getLast_mem h)⟩
  intro xs
  induction xs with
  | nil => intro nm hn; rw [words_nil]; exact hn
  | cons x xs ih =>
    intro nm hn
    rw [words_cons]
    refine ih _ ?_
    obtain ⟨h1, h2⟩ := itoa_ne x
    refine ⟨(Lib.itoa x).getLast h1, ?_, h2 _ (List.getLast_mem h1)⟩
    rw [List.getLast?_append, List.getLast?_cons, List.getLast?_eq_some_getLast h1]
    simp
theorem words_len (nm : List UInt8) (xs : List Int) (h : nm.length ≤ 5) (hx : xs.length ≤ 3) (hi : ∀ x ∈ xs, inI x) : (words nm xs).length ≤ 5 + 22 * xs.length := by
  unfold words
  rw [List.length_append]
  suffices H : ∀ xs : List Int, (∀ x ∈ xs, inI x) → (xs.flatMap fun x => 32 :: Lib.itoa x).length ≤ 22 * xs.length by
    have := H xs hi
    omega
  intro xs
  induction xs with
  | nil => simp
  | cons x xs ih =>
    intro hi
    have h1 := itoa_len x (hi x (by simp)).1 (hi x (by simp)).2
    have h2 := ih fun y hy => hi y (by simp [hy])
    simp only [List.flatMap_cons, List.length_append, List.length_cons] at *
    omega
theorem text_len (i : I) (hf : i.inAll) : (textI i).length ≤ 71 := by
  obtain ⟨h1, h2, h3⟩ := hf
  have hu := usedOf_le i.op
  have := words_len (nameL i.op) ([i.a, i.b, i.c].take (usedOf i.op)) (nameL_len _) (by simp; omega) (by
    intro x hx
    have := List.mem_of_mem_take hx
    simp only [List.mem_cons, List.not_mem_nil, or_false] at this
    rcases this with rfl | rfl | rfl <;> assumption)
  unfold textI
  simp only [List.length_take, List.length_cons, List.length_nil] at this
  omega
theorem text_ne (i : I) : textI i ≠ [] := by
  intro h
  have := text_count i
  have h1 := words_head (nameL i.op) ([i.a, i.b, i.c].take (usedOf i.op)) (name_ne i.op).1
  unfold textI at h
  rw [h] at h1
  have h2 := (name_ne i.op).1
  cases hn : nameL i.op with
  | nil => exact h2 hn
  | cons a l => rw [hn] at h1; simp at h1
theorem text_head (i : I) : ∃ c, (textI i).head? = some c ∧ c ≠ 32 ∧ (i.op < 0 ∨ 17 ≤ i.op → c = 63) := by
  unfold textI
  rw [words_head _ _ (name_ne i.op).1]
  cases hn : nameL i.op with
  | nil => exact absurd hn (name_ne i.op).1
  | cons a l =>
    refine ⟨a, rfl, (name_ne i.op).2 a (by rw [hn]; simp), fun h => ?_⟩
    have e1 : nameOf i.op = ⟨#[63]⟩ := by unfold nameOf; repeat (rw [if_neg (by omega)])
    unfold nameL at hn
    rw [e1] at hn
    simp at hn
    exact hn.1.symm
theorem text_last (i : I) : ∃ c, (textI i).getLast? = some c ∧ c ≠ 32 := words_last _ _ (name_ne i.op).1 (name_ne i.op).2

end Go.Proofs.YtpbmfhbcnllkaaaDoor
