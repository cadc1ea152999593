
/-
  Slices of slices in memory: rows of times, of parcels, the outer rows; the law's least, the law's floor.
-/
import Derived.Test.YtobfjfmaicmkdaaUR
import Derived.Test.YtobfjfmaicmkdaaUS
import Derived.Test.YtobfjfmaicmkdaaUJ
namespace Go.Proofs.Ytobfjfmaicmkdaa
open Go.ChangeShapes Go.WideShapes Go.ChangeAt Go.Shelf Go.RowKit Go.Lib Go.Sort Go.Deep Col
set_option linter.unusedVariables false
set_option linter.unusedSimpArgs false
set_option maxRecDepth 4000

/-- Times as cells; parcels as cells. -/
def ints (l : List Int) : List Value := l.map fun z => .int .i64 z
def pcs : List (Int × Bool) → List Value
  | [] => []
  | m :: l => .int .i64 m.1 :: .int .i64 (colI m.2) :: pcs l
theorem ints_len (l : List Int) : (ints l).length = l.length := by simp [ints]
theorem ints_get {l : List Int} {i : Nat} (h : i < l.length) : (ints l)[i]? = some (.int .i64 (l.getD i 0)) := by simp [ints, List.getD_eq_getElem?_getD, h]
theorem ints_snoc (l : List Int) (z : Int) : ints (l ++ [z]) = ints l ++ [.int .i64 z] := by simp [ints]
theorem pcs_len (l : List (Int × Bool)) : (pcs l).length = l.length * 2 := by induction l with
  | nil => rfl
  | cons m l ih => simp [pcs, ih]; omega
theorem pcs_snoc (l : List (Int × Bool)) (m : Int × Bool) : pcs (l ++ [m]) = pcs l ++ [.int .i64 m.1, .int .i64 (colI m.2)] := by
  induction l with
  | nil => rfl
  | cons a l ih => simp [pcs, ih]
theorem pcs_get0 : ∀ {l : List (Int × Bool)} {i : Nat}, i < l.length → (pcs l)[i * 2]? = some (.int .i64 (l.getD i (0, false)).1)
  | [], i, h => by simp at h
  | m :: l, 0, h => rfl
  | m :: l, i + 1, h => by
    have : i < l.length := by simpa using h
    have ih := pcs_get0 this
    rw [show (i + 1) * 2 = i * 2 + 2 by omega]
    simpa [pcs] using ih
theorem pcs_drop (m : Int × Bool) (l : List (Int × Bool)) : (pcs (m :: l)).drop 2 = pcs l := rfl
/-- The cells of an outer row. -/
def vals (f : Nat → Value) (n : Nat) : List Value := (List.range n).map f
theorem vals_len (f : Nat → Value) (n : Nat) : (vals f n).length = n := by simp [vals]
theorem vals_get (f : Nat → Value) {n i : Nat} (h : i < n) : (vals f n)[i]? = some (f i) := by simp [vals, h]
section
variable {w w' wr : World} {e : TypeId} {g off n cap sz : Nat} {xs : List Value} {v : Value}
/-- One cell of an outer row is stored. -/
theorem RowIn.set1 {f : Nat → Value} (h : RowIn w e 1 g off n cap (vals f n)) {p : Nat} (hp : p < n) (u : Value) : RowIn (w.setCell ⟨g, off + p, none⟩ u) e 1 g off n cap (vals (upd f p u) n) := by
  obtain ⟨cur, h0, h2, h3, h4, h5, h6⟩ := h
  refine ⟨_, Go.heap_setCell_same w g (off + p) _ _ u h0, h2, h3, by simpa using h4, by rw [vals_len]; omega, fun j y hj => ?_⟩
  have hlt : j < n := by
    have := (List.getElem?_eq_some_iff.1 hj).1
    rwa [vals_len] at this
  rw [vals_get _ hlt] at hj
  by_cases hjp : j = p
  · subst hjp
    rw [upd_same] at hj
    rw [Array.getElem?_setIfInBounds_self_of_lt (by omega)]
    exact hj
  · rw [upd_ne _ _ hjp] at hj
    rw [Array.getElem?_setIfInBounds_ne (by omega)]
    exact h6 j y (by rw [vals_get _ hlt]; exact hj)
/-- All but the first. -/
def cutV (sz : Nat) : Value → Value
  | .slice (some ⟨g, off, s⟩) n cap => .slice (some ⟨g, if cap = 1 then off else off + sz, s⟩) (n - 1) (cap - 1)
  | v => v
theorem cutV_own (sz : Nat) (v : Value) : (cutV sz v).ownBlock = v.ownBlock := by
  unfold cutV
  split <;> rfl
theorem RowAt.cut (h : RowAt w e sz v (n + 1) xs) : RowAt w e sz (cutV sz v) n (xs.drop sz) := by
  obtain ⟨g, off, cap, rfl, hR⟩ := h.form (by omega)
  have hp := hR.part 1 n (by omega)
  have hl := hR.bounds
  rw [Nat.one_mul, List.take_of_length_le (by rw [List.length_drop, hl.2.2, Nat.add_mul]; omega)] at hp
  refine .inr ?_
  unfold cutV
  by_cases h1 : cap = 1
  · obtain rfl : n = 0 := by omega
    refine ⟨g, off, cap - 1, by simp [h1], ?_⟩
    obtain ⟨cur, h0, h2, h3, h4, h5, h6⟩ := hR
    refine ⟨cur, h0, by omega, by unfold maxLen; omega, ?_, by rw [List.length_drop, h5]; omega, fun j u hj => ?_⟩
    · rw [h1] at h4 ⊢
      omega
    · rw [List.drop_of_length_le (by rw [h5]; omega)] at hj
      simp at hj
  · exact ⟨g, off + sz, cap - 1, by simp [h1], hp⟩
end
theorem leastL_take {l : List Int} {i : Nat} (h : i < l.length) : leastL (l.take (i + 1)) = min (leastL (l.take i)) (l.getD i 0) := by
  rw [List.take_succ_eq_append_getElem h]
  unfold leastL
  rw [List.foldl_append]
  simp [List.getD_eq_getElem?_getD, h]
set_option maxHeartbeats 1000000 in
theorem least12_any {w : World} {v : Value} {l : List Int} (h : RowAt w 2 1 v l.length (ints l)) (hl : l.length < 1000000) : Calls Try.prog 25 #[v] w fun e w' => e = .returned (.int .i64 (leastL l)) ∧ w = w' := by
  obtain ⟨a, cap, hv, hcap⟩ := h.shape
  have hsh := Lib.hid h
  subst hv
  clear h
  generalize hn : l.length = n at *
  have hn' := Lib.hid hn
  clear hn
  go_enter Try.func25, Try.ntmps25
  go_wp2
  go_loopw [3, 4] (fun s3 s4 wr => ∃ (i : Nat) (z : Int), i ≤ n ∧ s4 = .int .i64 i ∧ s3 = .int .i64 z ∧ Hid (z = leastL (l.take i)) ∧ w = wr) (fun _ s4 _ => n - (intOf s4).toNat)
  case atStart => exact ⟨0, _, Nat.zero_le _, rfl, rfl, by show _ = _; rfl, rfl⟩
  case round =>
    obtain ⟨i, z, hi, rfl, rfl, hz, rfl⟩ := hrel
    by_cases hin : i < n
    · obtain ⟨g, off, cap', hv, hR⟩ := hsh.out.form (by omega)
      simp only [Value.slice.injEq, true_and] at hv
      obtain ⟨rfl, rfl⟩ := hv
      have c := hR.cell (ints_get (by rw [hn'.out]; exact hin))
      have hlt : (i : Int) < (n : Int) := by omega
      have hnext : Hid (min z (l.getD i 0) = leastL (l.take (i + 1))) := by
        show _ = _
        rw [leastL_take (by rw [hn'.out]; exact hin), ← hz.out]
      generalize l.getD i 0 = y at *
      have hw1 : IntKind.i64.wrap ((i : Int) + 1) = (i : Int) + 1 := IntWalk.i64_in _ (by omega)
      have hin' := Lib.hid hin
      clear hR hz hin
      go_wp2
      go_roundw
      case rel => (repeat apply Exists.intro); first | exact ⟨⟨hin'.out, by go_num, rfl, hnext⟩, rfl⟩ | exact ⟨hin'.out, by go_num, rfl, hnext, trivial⟩
      case measure => have := hin'.out; simp [intOf]; omega
    · obtain rfl : i = n := by omega
      have hlt : ¬ (i : Int) < (i : Int) := by omega
      have hfin : z = leastL l := by rw [hz.out, List.take_of_length_le (by have := hn'.out; omega)]
      have hfin' := Lib.hid hfin
      clear hfin hz hin
      go_wp2
      go_ret
      exact ⟨by rw [hfin'.out]; rfl, rfl⟩
end Go.Proofs.Ytobfjfmaicmkdaa
