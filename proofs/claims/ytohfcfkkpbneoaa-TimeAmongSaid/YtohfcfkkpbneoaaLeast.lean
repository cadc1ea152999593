/-
  The contracts of the program's Least and of the document's own answer for it: over every slice of int64 numbers that can be read, both answer the least of its numbers and of Never, and leave the world as it was.
-/
import Derived.Test.YtohfcfkkpbneoaaBase
import Derived.LoopTactic
import Derived.Below
import Derived.Lib.Hide
namespace Go.Proofs.Ytohfcfkkpbneoaa
open Go.ChangeShapes Go.WideShapes Go.ChangeAt Go.RowKit

/-- The least of the numbers and of Never. -/
def leastV (l : List Int) : Int := l.foldl (fun n x => if x < n then x else n) 4611686018427387904
theorem leastV_snoc (l : List Int) (x : Int) : leastV (l ++ [x]) = if x < leastV l then x else leastV l := by
  unfold leastV
  rw [List.foldl_append]
  rfl
theorem leastV_take (l : List Int) (k : Nat) (h : k < l.length) : leastV (l.take (k + 1)) = if l.getD k 0 < leastV (l.take k) then l.getD k 0 else leastV (l.take k) := by
  rw [List.take_succ_eq_append_getElem h, leastV_snoc]
  simp [List.getD_eq_getElem?_getD, h]

/-- A slice value reads as the numbers zs. -/
def Reads (w : World) (a : Option Addr) (len : Nat) (zs : List Int) : Prop :=
  zs.length = len ∧ len ≤ 9223372036854775807 ∧ (len = 0 ∨ ∃ b off, a = some ⟨b, off, none⟩ ∧ ∀ i, i < len → w.cell? ⟨b, off + i, none⟩ = some (.int .i64 (zs.getD i 0)))

theorem reads_of {w : World} {a : Option Addr} {len cap : Nat} {zs : List Int}
    (h : (a = none ∧ len = 0 ∧ cap = 0 ∧ zs = []) ∨ ∃ x, a = some x ∧ len ≤ cap ∧ cap ≤ maxLen ∧ zs.length = cap ∧ (∀ i, i < zs.length → w.cell? (x.add i) = some (.int .i64 (zs.getD i 0))) ∧ ∀ n ∈ zs, (Lit.int .i64 n).wf = true) :
    Reads w a len (zs.take len) := by
  unfold maxLen at h
  rcases h with ⟨rfl, rfl, rfl, rfl⟩ | ⟨⟨b, off, spot⟩, rfl, hl, hm, hz, hcell, -⟩
  · exact ⟨rfl, by omega, .inl rfl⟩
  · refine ⟨by rw [List.length_take]; omega, by omega, ?_⟩
    by_cases h0 : len = 0
    · exact .inl h0
    · have hspot : spot = none := by simpa [Addr.add] using World.cell?_spot (hcell 0 (by omega))
      subst hspot
      refine .inr ⟨b, off, rfl, fun i hi => ?_⟩
      have := hcell i (by omega)
      rw [add_plain] at this
      rw [this]
      simp [List.getD_eq_getElem?_getD, hi]

theorem least_any (a : Option Addr) (len cap : Nat) (zs : List Int) (w : World) (h : Reads w a len zs) :
    Calls Try.prog 19 #[.slice a len cap] w fun e w' => e = .returned (.int .i64 (leastV zs)) ∧ w = w' := by
  obtain ⟨hz, hm, h⟩ := h
  rcases h with h0 | ⟨b, off, rfl, hc⟩
  · subst h0
    have hz' : Hid (zs = []) := List.eq_nil_of_length_eq_zero hz
    clear hz
    go_enter Try.func19, Try.ntmps19
    go_wp2
    go_loop [3, 8] (fun n i => n = .int .i64 4611686018427387904 ∧ i = .int .i64 0) (fun _ i => 0)
    case atStart => exact ⟨rfl, rfl⟩
    case round =>
      obtain ⟨rfl, rfl⟩ := hrel
      go_wp2
      go_ret
      exact ⟨by rw [hz'.out]; rfl, rfl⟩
  · have hz' := Lib.hid hz
    have hc' := Lib.hid hc
    clear hz hc
    go_enter Try.func19, Try.ntmps19
    go_wp2
    go_loop [3, 8] (fun n i => ∃ k : Nat, k ≤ len ∧ i = .int .i64 k ∧ n = .int .i64 (leastV (zs.take k))) (fun _ i => len - (intOf i).toNat)
    case atStart => exact ⟨0, Nat.zero_le _, rfl, rfl⟩
    case round =>
      obtain ⟨k, hk, rfl, rfl⟩ := hrel
      by_cases hlt : k < len
      · have hcell := hc'.out k hlt
        have hs := Lib.hid (leastV_take zs k (by rw [hz'.out]; exact hlt))
        generalize zs.getD k 0 = x at hcell hs
        generalize leastV (zs.take k) = y at hs ⊢
        go_wp2
        go_round
        case rel => exact ⟨k + 1, by omega, by go_num, by rw [hs.out]⟩
        case measure => simp [intOf]; omega
      · have hkl : Hid (k = len) := by show k = len; omega
        go_wp2
        go_ret
        exact ⟨ret_int (by rw [List.take_of_length_le (by rw [hz'.out]; omega)]), rfl⟩

theorem refleast_any (a : Option Addr) (len cap : Nat) (zs : List Int) (w : World) (h : Reads w a len zs) :
    Calls Try.prog 20 #[.slice a len cap] w fun e w' => e = .returned (.int .i64 (leastV zs)) ∧ w = w' := by
  obtain ⟨hz, hm, h⟩ := h
  rcases h with h0 | ⟨b, off, rfl, hc⟩
  · subst h0
    have hz' : Hid (zs = []) := List.eq_nil_of_length_eq_zero hz
    clear hz
    go_enter Try.func20, Try.ntmps20
    go_wp2
    go_loop [3, 4] (fun n i => n = .int .i64 4611686018427387904 ∧ i = .int .i64 0) (fun _ i => 0)
    case atStart => exact ⟨rfl, rfl⟩
    case round =>
      obtain ⟨rfl, rfl⟩ := hrel
      go_wp2
      go_ret
      exact ⟨by rw [hz'.out]; rfl, rfl⟩
  · have hz' := Lib.hid hz
    have hc' := Lib.hid hc
    clear hz hc
    go_enter Try.func20, Try.ntmps20
    go_wp2
    go_loop [3, 4] (fun n i => ∃ k : Nat, k ≤ len ∧ i = .int .i64 k ∧ n = .int .i64 (leastV (zs.take k))) (fun _ i => len - (intOf i).toNat)
    case atStart => exact ⟨0, Nat.zero_le _, rfl, rfl⟩
    case round =>
      obtain ⟨k, hk, rfl, rfl⟩ := hrel
      by_cases hlt : k < len
      · have hcell := hc'.out k hlt
        have hs := Lib.hid (leastV_take zs k (by rw [hz'.out]; exact hlt))
        generalize zs.getD k 0 = x at hcell hs
        generalize leastV (zs.take k) = y at hs ⊢
        go_wp2
        go_round
        case rel => exact ⟨k + 1, by omega, by go_num, by rw [hs.out]⟩
        case measure => simp [intOf]; omega
      · have hkl : Hid (k = len) := by show k = len; omega
        go_wp2
        go_ret
        exact ⟨ret_int (by rw [List.take_of_length_le (by rw [hz'.out]; omega)]), rfl⟩

end Go.Proofs.Ytohfcfkkpbneoaa
