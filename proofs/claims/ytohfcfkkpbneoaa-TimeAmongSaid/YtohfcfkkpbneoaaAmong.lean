/-
  The walk of TimeAmong: over every slice of int64 numbers that can be read, the law returns true and writes nothing that was there.
-/
import Derived.Test.YtohfcfkkpbneoaaLeast
import Derived.OwnWalk
namespace Go.Proofs.Ytohfcfkkpbneoaa
open Go.ChangeShapes Go.WideShapes Go.ChangeAt Go.RowKit

theorem leastFrom_le (l : List Int) (n : Int) : l.foldl (fun n x => if x < n then x else n) n ≤ n ∧ (∀ x ∈ l, l.foldl (fun n x => if x < n then x else n) n ≤ x) ∧
    (l.foldl (fun n x => if x < n then x else n) n = n ∨ l.foldl (fun n x => if x < n then x else n) n ∈ l) := by
  induction l generalizing n with
  | nil => exact ⟨Int.le_refl _, (fun _ h => by cases h), .inl rfl⟩
  | cons y l ih =>
    rw [List.foldl_cons]
    obtain ⟨h1, h2, h3⟩ := ih (if y < n then y else n)
    refine ⟨by omega, fun x hx => ?_, ?_⟩
    · rcases List.mem_cons.1 hx with rfl | hx
      · omega
      · exact h2 x hx
    · rcases h3 with h3 | h3
      · rw [h3]
        by_cases hy : y < n
        · rw [if_pos hy]; exact .inr (by simp)
        · rw [if_neg hy]; exact .inl rfl
      · exact .inr (by simp [h3])
theorem leastV_le (l : List Int) : leastV l ≤ 4611686018427387904 ∧ (∀ x ∈ l, leastV l ≤ x) ∧ (leastV l = 4611686018427387904 ∨ leastV l ∈ l) := leastFrom_le l _
theorem leastV_same (l l' : List Int) (h : ∀ x, x ∈ l ↔ x ∈ l') : leastV l = leastV l' := by
  obtain ⟨a1, a2, a3⟩ := leastV_le l
  obtain ⟨b1, b2, b3⟩ := leastV_le l'
  have c1 : leastV l ≤ leastV l' := by
    rcases b3 with b3 | b3
    · omega
    · exact a2 _ ((h _).2 b3)
  have c2 : leastV l' ≤ leastV l := by
    rcases a3 with a3 | a3
    · omega
    · exact b2 _ ((h _).1 a3)
  omega

/-- Whether the least has been met, from place m on. -/
def thB (zs : List Int) (m : Nat) : Bool := leastV zs == 4611686018427387904 || (zs.drop m).any (· == leastV zs)
theorem thB_zero (zs : List Int) : thB zs 0 = true := by
  rcases (leastV_le zs).2.2 with h | h
  · simp [thB, h]
  · simp only [thB, List.drop_zero, Bool.or_eq_true, List.any_eq_true]
    exact .inr ⟨_, h, by simp⟩
theorem drop_at (zs : List Int) (j : Nat) (h : j < zs.length) : zs.drop j = zs.getD j 0 :: zs.drop (j + 1) := by
  rw [List.drop_eq_getElem_cons h]
  simp [List.getD_eq_getElem?_getD, h]
theorem thB_step (zs : List Int) (j : Nat) (h : j < zs.length) : thB zs j = (thB zs (j + 1) || zs.getD j 0 == leastV zs) := by
  unfold thB
  rw [drop_at zs j h, List.any_cons]
  cases leastV zs == 4611686018427387904 <;> cases zs.getD j 0 == leastV zs <;> simp
theorem thB_end (zs : List Int) : thB zs zs.length = (leastV zs == 4611686018427387904) := by simp [thB]
/-- What has been gathered, from place m on. -/
def gath (zs : List Int) (m : Nat) : List Value := (zs.drop m).reverse.map (Value.int .i64)
theorem gath_step (zs : List Int) (j : Nat) (h : j < zs.length) : gath zs j = gath zs (j + 1) ++ [.int .i64 (zs.getD j 0)] := by
  unfold gath
  rw [drop_at zs j h]
  simp
theorem gath_end (zs : List Int) : gath zs zs.length = [] := by simp [gath]

theorem Try.info2 : (Try.prog.info? 2).map (fun i => (i.zero, i.size, i.bytes)) = some (some (.int .i64 0), 1, 8) := by kernel_rfl

theorem reads_own {w : World} {B : Nat} {v : Value} {zs : List Int} (hz : zs.length ≤ 9223372036854775807) (h : w.ownsRow B 2 1 v zs.length (gath zs 0)) :
    ∃ a cap, v = .slice a zs.length cap ∧ Reads w a zs.length zs.reverse := by
  have h0 := h
  obtain ⟨hl, hc⟩ := h
  rcases hc with ⟨rfl, hn⟩ | ⟨g, cap, cur, rfl, hg, hh, hn, hcap, hsz, htake⟩
  · exact ⟨none, 0, by rw [hn], by simp, hz, .inl hn⟩
  · refine ⟨some ⟨g, 0, none⟩, cap, rfl, by simp, hz, .inr ⟨g, 0, rfl, fun i hi => ?_⟩⟩
    rw [Nat.zero_add, h0.cellAt i (by omega)]
    have hi' : i < zs.reverse.length := by simpa using hi
    rw [gath, List.drop_zero, List.getElem?_map, List.getD_eq_getElem?_getD, List.getElem?_eq_getElem hi']
    rfl

theorem among_step {w wr w1 : World} {u5 v' : Value} {len j : Nat} {zs : List Int} {gs : List Value} {x : Int} {o : Obj} (hm : j + 1 ≤ len) (hown : wr.ownsRow w.heap.size 2 1 u5 (len - (j + 1)) gs) (hnx : Below w.heap.size w wr)
    (hgs : gath zs j = gs ++ [Value.int .i64 x]) (hown' : w1.ownsRow w.heap.size 2 1 v' (len - (j + 1) + 1) (gs ++ [Value.int .i64 x])) (hgrow : (wr.alloc o).grownBy w1 u5.ownBlock) :
    w1.ownsRow w.heap.size 2 1 v' (len - j) (gath zs j) ∧ Below w.heap.size w w1 := by
  have hsz := hnx.size
  refine ⟨?_, (hnx.alloc hsz o).grown hgrow (by simp; omega) (fun k hk => (hown.lt k hk).1)⟩
  rw [hgs]
  rw [show len - (j + 1) + 1 = len - j from by omega] at hown'
  exact hown'

set_option maxHeartbeats 1600000 in
set_option maxRecDepth 100000 in
theorem among_any (b off len cap : Nat) (zs : List Int) (w : World) (hreach : len * 8 ≤ 140737488351232) (hz : zs.length = len) (hb : b < w.heap.size)
    (hc : ∀ j, j < len → w.cell? ⟨b, off + j, none⟩ = some (.int .i64 (zs.getD j 0))) :
    Calls Try.prog 9 #[.slice (some ⟨b, off, none⟩) len cap] w fun e w' => e = .returned (.bool true) ∧ Below w.heap.size w w' := by
  obtain ⟨i0, hi, hz0, hz1, hz2⟩ := info_parts Try.info2
  have hR : Reads w (some ⟨b, off, none⟩) len zs := ⟨hz, by omega, .inr ⟨b, off, rfl, hc⟩⟩
  have HR := Lib.hid hR
  have HZ := Lib.hid hz
  have HC := Lib.hid hc
  have hend := Lib.hid (thB_end zs)
  have hge := Lib.hid (gath_end zs)
  clear hR hz hc
  go_enter Try.func9, Try.ntmps9
  go_wp2_with fail
  refine (least_any _ _ _ _ _ HR.out).mono ?_
  rintro e w' ⟨rfl, rfl⟩
  go_wp2_with fail
  go_loopw [4, 5, 6] (fun th v i wr => ∃ m : Nat, m ≤ len ∧ i = .int .i64 ((m : Int) - 1) ∧ th = .bool (thB zs m) ∧ wr.ownsRow w.heap.size 2 1 v (len - m) (gath zs m) ∧ Below w.heap.size w wr)
    (fun _ _ i _ => (intOf i + 1).toNat)
  case atStart => exact ⟨len, Nat.le_refl _, rfl, by rw [← HZ.out, hend.out], by rw [← HZ.out, hge.out, Nat.sub_self]; exact World.ownsRow_nil _ _ _ _, Below.refl _ _⟩
  case round =>
    obtain ⟨m, hm, rfl, rfl, hown, hnx⟩ := hrel
    by_cases hm0 : m = 0
    · subst hm0
      rw [thB_zero]
      rw [Nat.sub_zero, ← HZ.out] at hown
      obtain ⟨a', cap', rfl, hR'⟩ := reads_own (by rw [HZ.out]; omega) hown
      have HR' := Lib.hid hR'
      have hrev := Lib.hid (leastV_same zs.reverse zs (fun x => by simp))
      clear hR' hown
      go_wp2_with fail
      refine (least_any _ _ _ _ _ HR'.out).mono ?_
      rintro e w' ⟨rfl, rfl⟩
      rw [hrev.out]
      go_wp2_with fail
      refine (awake_any _).mono ?_
      rintro e w' ⟨rfl, rfl⟩
      go_wp2_with fail
      go_ret
      exact ⟨rfl, hnx⟩
    · obtain ⟨j, rfl⟩ : ∃ j, m = j + 1 := ⟨m - 1, by omega⟩
      clear hm0
      have hcx : wr.cell? ⟨b, off + j, none⟩ = some (.int .i64 (zs.getD j 0)) := (hnx.cell (by exact hb)).trans (HC.out j (by omega))
      have hjz : j < zs.length := by rw [HZ.out]; omega
      have hlow : ¬ zs.getD j 0 < leastV zs := by
        have h1 := (leastV_le zs).2.1 (zs.getD j 0) (by rw [List.getD_eq_getElem?_getD, List.getElem?_eq_getElem hjz]; simp)
        omega
      have hst := Lib.hid (thB_step zs j hjz)
      have hgs := Lib.hid (gath_step zs j hjz)
      have hsz := hnx.size
      rw [show (((j + 1 : Nat) : Int) - 1) = (j : Int) from by omega]
      clear hjz
      generalize zs.getD j 0 = x at hcx hlow hst hgs
      generalize leastV zs = n at hlow hst ⊢
      generalize thB zs (j + 1) = t at hst ⊢
      generalize hg : gath zs (j + 1) = gs at hgs hown
      clear hg
      cases t
      · by_cases hx : x = n
        · have hxb : (x == n) = true := by simp [hx]
          clear hx
          go_wp2_with (at_builtin; refine wpList_append_own _ rfl _ _ 31 rfl w.heap.size 2 i0 (.int .i64 0) 1 8 Try.underlying31 hi hz0 hz1 hz2 rfl (by decide) _ _ _ rfl (hown.alloc _) ⟨wr.heap.size, 0, none⟩ 1 1 [.int .i64 x] rfl rfl ?c1 ?c2 ?c3 ?c4 ?c5 ?_)
          case c2 => rfl
          case c3 => unfold maxLen; omega
          case c4 => omega
          case c5 => omega
          intro v' w1 hown' hgrow _
          have R := among_step hm hown hnx hgs.out hown' hgrow
          have R1 := Lib.hid R.1
          have R2 := R.2
          clear R hown' hgrow hown hnx hcx
          go_wp2
          go_roundw
          case rel => exact ⟨j, by omega, rfl, by rw [hst.out]; first | rfl | (rw [hxb]; rfl), R1.out, R2⟩
          case measure => simp [intOf]
        · have hxb : (x == n) = false := by simp [hx]
          clear hx
          go_wp2_with (at_builtin; refine wpList_append_own _ rfl _ _ 31 rfl w.heap.size 2 i0 (.int .i64 0) 1 8 Try.underlying31 hi hz0 hz1 hz2 rfl (by decide) _ _ _ rfl (hown.alloc _) ⟨wr.heap.size, 0, none⟩ 1 1 [.int .i64 x] rfl rfl ?c1 ?c2 ?c3 ?c4 ?c5 ?_)
          case c2 => rfl
          case c3 => unfold maxLen; omega
          case c4 => omega
          case c5 => omega
          intro v' w1 hown' hgrow _
          have R := among_step hm hown hnx hgs.out hown' hgrow
          have R1 := Lib.hid R.1
          have R2 := R.2
          clear R hown' hgrow hown hnx hcx
          go_wp2
          go_roundw
          case rel => exact ⟨j, by omega, rfl, by rw [hst.out]; first | rfl | (rw [hxb]; rfl), R1.out, R2⟩
          case measure => simp [intOf]
      · go_wp2_with (at_builtin; refine wpList_append_own _ rfl _ _ 31 rfl w.heap.size 2 i0 (.int .i64 0) 1 8 Try.underlying31 hi hz0 hz1 hz2 rfl (by decide) _ _ _ rfl (hown.alloc _) ⟨wr.heap.size, 0, none⟩ 1 1 [.int .i64 x] rfl rfl ?c1 ?c2 ?c3 ?c4 ?c5 ?_)
        case c2 => rfl
        case c3 => unfold maxLen; omega
        case c4 => omega
        case c5 => omega
        intro v' w1 hown' hgrow _
        have R := among_step hm hown hnx hgs.out hown' hgrow
        have R1 := Lib.hid R.1
        have R2 := R.2
        clear R hown' hgrow hown hnx hcx
        go_wp2
        go_roundw
        case rel => exact ⟨j, by omega, rfl, by rw [hst.out]; rfl, R1.out, R2⟩
        case measure => simp [intOf]

/-- A slice of length 0, a nil one too. -/
theorem among_empty (a : Option Addr) (cap : Nat) (w : World) :
    Calls Try.prog 9 #[.slice a 0 cap] w fun e w' => e = .returned (.bool true) ∧ Below w.heap.size w w' := by
  have HR : Hid (Reads w a 0 []) := ⟨rfl, by omega, .inl rfl⟩
  have HN : Hid (∀ w : World, Reads w none 0 []) := fun w => ⟨rfl, by omega, .inl rfl⟩
  have HE : Hid (leastV [] = 4611686018427387904) := rfl
  go_enter Try.func9, Try.ntmps9
  go_wp2_with fail
  refine (least_any _ _ _ _ _ HR.out).mono ?_
  rintro e w' ⟨rfl, rfl⟩
  rw [HE.out]
  go_wp2_with fail
  refine wp_loop_rounds 1 ?_
  rw [rounds_succ]
  go_wp2_with fail
  refine (least_any _ _ _ _ _ (HN.out _)).mono ?_
  rintro e w' ⟨rfl, rfl⟩
  rw [HE.out]
  go_wp2_with fail
  refine (awake_any _).mono ?_
  rintro e w' ⟨rfl, rfl⟩
  go_wp2_with fail
  go_ret
  exact ⟨rfl, Below.refl _ _⟩

end Go.Proofs.Ytohfcfkkpbneoaa
