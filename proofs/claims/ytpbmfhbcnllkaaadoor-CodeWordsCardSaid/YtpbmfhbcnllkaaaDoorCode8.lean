/-
  The document's digits of a number are those of strconv.Itoa, at every int.
-/
import Derived.Test.YtpbmfhbcnllkaaaDoorCode9
import Derived.Laws.BytesArg
namespace Go.Proofs.YtpbmfhbcnllkaaaDoor
open Go.ChangeShapes Go.WideShapes Go.ChangeAt Go.RowKit Go.Sort
set_option linter.unusedVariables false

theorem dec_small {u : Nat} (h : u < 10) : Lib.decDigits u = [UInt8.ofNat (48 + u)] := Lib.decDigits_one h
theorem dec_big {u : Nat} (h : ¬ u < 10) : Lib.decDigits u = Lib.decDigits (u / 10) ++ [UInt8.ofNat (48 + u % 10)] := by
  rw [Lib.decDigits, dif_neg h]
theorem dec_len (u : Nat) (h : u ≤ 9223372036854775808) : (Lib.decDigits u).length ≤ 22 := by
  have : (Lib.itoa (-(u : Int))).length ≤ 21 := Lib.itoa_length_le _ (by omega) (by omega)
  rcases Nat.eq_zero_or_pos u with h0 | h0
  · subst h0; simp [dec_small]
  · rw [Lib.itoa_neg u h0] at this
    simp at this
    omega
theorem strOf (u : Nat) : strOfNums [48 + (u : Int) % 10] = ⟨[UInt8.ofNat (48 + u % 10)].toArray⟩ := by
  unfold strOfNums
  have : (48 + (u : Int) % 10).toNat = 48 + u % 10 := by omega
  simp [this]
theorem digit_conv (u : Nat) (w : World) : (convert 28 9 (.slice (some ⟨w.heap.size, 0, none⟩) 1 1)).run Tryd.prog (w.alloc (.cells #[.int .u8 (48 + (u : Int) % 10)] 5)) = .ok (.string ⟨[UInt8.ofNat (48 + u % 10)].toArray⟩) (w.alloc (.cells #[.int .u8 (48 + (u : Int) % 10)] 5)) := by
  rw [← strOf]
  exact run_convert_bytes_arg (P := Tryd.prog) (w.alloc (.cells #[.int .u8 (48 + (u : Int) % 10)] 5)) 28 5 Tryd.underlying28 Tryd.underlying5 w.heap.size 0 1 1 [48 + (u : Int) % 10] rfl (by intro i hi; (obtain rfl : i = 0 := by omega); simp) 9 Tryd.underlying9
theorem add_lists (x y : List UInt8) (hx : x.length ≤ 100) (hy : y.length ≤ 100) (w : World) :
    (Op.stringOp .add ⟨x.toArray⟩ ⟨y.toArray⟩).run Tryd.prog w = .ok (.string ⟨(x ++ y).toArray⟩) w := run_string_add_lists w _ _ (by omega) (by omega)

set_option maxRecDepth 100000 in
set_option maxHeartbeats 1000000 in
theorem number_nat : ∀ (u : Nat) (w : World), u ≤ 9223372036854775807 → Calls Tryd.prog 29 #[.int .i64 u] w fun e w' => e = .returned (.string ⟨(Lib.decDigits u).toArray⟩) ∧ Read w w' := by
  intro u
  induction u using Nat.strongRecOn with
  | ind u ih =>
    intro w hu
    have hconv := digit_conv u w
    by_cases h : u < 10
    · rw [dec_small h]
      have hm : u % 10 = u := by omega
      rw [hm] at hconv
      clear hm ih
      generalize [UInt8.ofNat (48 + u)] = d at hconv ⊢
      go_enter Tryd.func29, Tryd.ntmps29
      go_wp2_with fail
      go_ret
      exact ⟨rfl, Read.mk _ _⟩
    · have hi := fun w => ih (u / 10) (by omega) w (by omega)
      have e : ((u / 10 : Nat) : Int) = (u : Int) / 10 := by omega
      rw [e] at hi
      have hadd := fun w => add_lists (Lib.decDigits (u / 10)) [UInt8.ofNat (48 + u % 10)] (by have := dec_len (u / 10) (by omega); omega) (by simp) w
      rw [dec_big h]
      clear ih e
      have h' : 10 ≤ u := by omega
      generalize Lib.decDigits (u / 10) ++ [UInt8.ofNat (48 + u % 10)] = D at hadd ⊢
      generalize [UInt8.ofNat (48 + u % 10)] = d at hadd hconv
      generalize Lib.decDigits (u / 10) = D1 at hadd hi
      go_enter Tryd.func29, Tryd.ntmps29
      go_wp2_with (go_at_call 29; refine (hi _).mono ?_; rintro e w1 ⟨rfl, hr1⟩)
      go_ret
      exact ⟨rfl, (Read.mk _ _).trans hr1⟩
set_option maxRecDepth 100000 in
set_option maxHeartbeats 1000000 in
theorem number_neg (u : Nat) (h1 : 1 ≤ u) (h2 : u ≤ 9223372036854775808) (w : World) : Calls Tryd.prog 29 #[.int .i64 (-(u : Int))] w fun e w' => e = .returned (.string ⟨(45 :: Lib.decDigits u).toArray⟩) ∧ Read w w' := by
  by_cases h : u < 10
  · have hi := fun w => number_nat u w (by omega)
    have hadd := fun w => add_lists [45] (Lib.decDigits u) (by simp) (by have := dec_len u (by omega); omega) w
    simp only [List.singleton_append] at hadd
    generalize 45 :: Lib.decDigits u = D at hadd ⊢
    generalize Lib.decDigits u = D1 at hadd hi
    have hn : ¬ (-(u : Int) < -9) := by omega
    have hn0 : -(u : Int) < 0 := by omega
    go_enter Tryd.func29, Tryd.ntmps29
    go_wp2_with (go_at_call 29; refine (hi _).mono ?_; rintro e w1 ⟨rfl, hr1⟩)
    go_ret
    exact ⟨rfl, hr1⟩
  · have hi := fun w => number_nat (u / 10) w (by omega)
    have hj := fun w => number_nat (u % 10) w (by omega)
    have e : ((u / 10 : Nat) : Int) = (u : Int) / 10 := by omega
    have e' : ((u % 10 : Nat) : Int) = (u : Int) % 10 := by omega
    rw [e] at hi
    rw [e'] at hj
    have hq : (-(u : Int)).tdiv 10 = -((u : Int) / 10) := by rw [Int.neg_tdiv, Int.tdiv_eq_ediv_of_nonneg (by omega)]
    have hm : (-(u : Int)).tmod 10 = -((u : Int) % 10) := by rw [Int.neg_tmod, Int.tmod_eq_emod_of_nonneg (by omega)]
    have hd : Lib.decDigits (u % 10) = [UInt8.ofNat (48 + u % 10)] := dec_small (by omega)
    have hadd1 := fun w => add_lists [45] (Lib.decDigits (u / 10)) (by simp) (by have := dec_len (u / 10) (by omega); omega) w
    have hadd2 := fun w => add_lists (45 :: Lib.decDigits (u / 10)) (Lib.decDigits (u % 10)) (by have := dec_len (u / 10) (by omega); simp; omega) (by have := dec_len (u % 10) (by omega); omega) w
    simp only [List.singleton_append] at hadd1
    rw [dec_big h, ← hd]
    clear hd e e'
    rw [← List.cons_append]
    generalize 45 :: Lib.decDigits (u / 10) ++ Lib.decDigits (u % 10) = D at hadd2 ⊢
    generalize 45 :: Lib.decDigits (u / 10) = D0 at hadd1 hadd2
    generalize Lib.decDigits (u / 10) = D1 at hadd1 hi
    generalize Lib.decDigits (u % 10) = D2 at hadd2 hj
    have hn : -(u : Int) < -9 := by omega
    go_enter Tryd.func29, Tryd.ntmps29
    go_wp2_with (first | (go_at_call 29; (with_reducible refine (hi _).mono ?_); rintro e w1 ⟨rfl, hr1⟩) | (go_at_call 29; (with_reducible refine (hj _).mono ?_); rintro e w2 ⟨rfl, hr2⟩))
    go_ret
    exact ⟨rfl, hr1.trans hr2⟩
theorem number_any (n : Int) (h : inI n) (w : World) : Calls Tryd.prog 29 #[.int .i64 n] w fun e w' => e = .returned (.string ⟨(Lib.itoa n).toArray⟩) ∧ Read w w' := by
  obtain ⟨h0, h1⟩ := h
  by_cases hn : n < 0
  · obtain ⟨u, rfl⟩ : ∃ u : Nat, n = -(u : Int) := ⟨n.natAbs, by omega⟩
    rw [Lib.itoa_neg u (by omega)]
    exact number_neg u (by omega) (by omega) w
  · obtain ⟨u, rfl⟩ : ∃ u : Nat, n = (u : Int) := ⟨n.toNat, by omega⟩
    rw [Lib.itoa_nonneg]
    exact number_nat u w (by omega)

end Go.Proofs.YtpbmfhbcnllkaaaDoor
