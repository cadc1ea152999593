/-
  The document's own way: New, place, Room, Least.
-/
import Derived.Test.YtjbammgnkegecaaKL
namespace Go.Proofs.Ytjbammgnkegecaa
open Go.ChangeShapes Go.WideShapes Go.ChangeAt Go.Shelf Go.RowKit Go.Lib Go.Sort Go.Deep
set_option linter.unusedVariables false
set_option maxRecDepth 4000

set_option maxHeartbeats 2000000 in
theorem rlNew_no {f t k most : Int} {b : Bool} (h : ¬ okW f t most) (w : World) : Calls Try.prog 10 #[lkV f t k b, .int .i64 most] w fun e w' => e = .returned (.tuple #[.pointer none, .int .i64 1]) ∧ Below w.heap.size w w' := by
  have hb : Below w.heap.size w (w.alloc (.cells #[.int .i64 f, .int .i64 t, .int .i64 k, .bool b] 23)) := (Below.refl _ w).alloc (Nat.le_refl _) _
  have hb' := Lib.hid hb
  clear hb
  unfold okW at h
  unfold lkV
  by_cases h1 : f < 0
  · go_enter Try.func10, Try.ntmps10
    go_wp2
    go_ret2
    exact ⟨rfl, hb'.out⟩
  · by_cases h2 : 16 ≤ f
    · go_enter Try.func10, Try.ntmps10
      go_wp2
      go_ret2
      exact ⟨rfl, hb'.out⟩
    · by_cases h3 : t < 0
      · go_enter Try.func10, Try.ntmps10
        go_wp2
        go_ret2
        exact ⟨rfl, hb'.out⟩
      · by_cases h4 : 16 ≤ t
        · go_enter Try.func10, Try.ntmps10
          go_wp2
          go_ret2
          exact ⟨rfl, hb'.out⟩
        · by_cases h5 : most < 1
          · go_enter Try.func10, Try.ntmps10
            go_wp2
            go_ret2
            exact ⟨rfl, hb'.out⟩
          · have h6 : 1024 < most := by omega
            go_enter Try.func10, Try.ntmps10
            go_wp2
            go_ret2
            exact ⟨rfl, hb'.out⟩
/-- The document's way that has just been made. -/
def MadeD (w : World) (y : Wy) (hb : Nat) (w' : World) : Prop := w.heap.size ≤ hb ∧ DyAt w' hb (fun k => k = hb) y [] ∧ Below w.heap.size w w'
theorem MadeD.mk {w w2 : World} {y : Wy} {lk : Int} (hy : y.ok) (hb : Below w.heap.size w w2) : MadeD w y w2.heap.size (w2.alloc (.cells #[.int .i64 y.fr, .int .i64 y.to, .int .i64 lk, .bool y.loose, .int .i64 y.most, .slice none 0 0] 50)) :=
  ⟨hb.size, ⟨lk, .slice none 0 0, heap_alloc_new w2 _, .inl ⟨rfl, rfl, rfl⟩, hy, rfl, fun k e => (by cases e), fun k e => (by subst e; simp)⟩, hb.alloc hb.size _⟩
set_option maxHeartbeats 2000000 in
theorem rlNew_yes {f t k most : Int} {b : Bool} (h : okW f t most) (w : World) : Calls Try.prog 10 #[lkV f t k b, .int .i64 most] w fun e w' => ∃ hb, e = .returned (.tuple #[.pointer (some ⟨hb, 0, none⟩), .int .i64 0]) ∧ Hid (MadeD w ⟨f, t, most, b⟩ hb w') := by
  obtain ⟨⟨h1, h2⟩, ⟨h3, h4⟩, h5, h6⟩ := h
  have hb : Below w.heap.size w (w.alloc (.cells #[.int .i64 f, .int .i64 t, .int .i64 k, .bool b] 23)) := (Below.refl _ w).alloc (Nat.le_refl _) _
  have hmk : Hid (MadeD w ⟨f, t, most, b⟩ (w.alloc (.cells #[.int .i64 f, .int .i64 t, .int .i64 k, .bool b] 23)).heap.size ((w.alloc (.cells #[.int .i64 f, .int .i64 t, .int .i64 k, .bool b] 23)).alloc (.cells #[.int .i64 f, .int .i64 t, .int .i64 k, .bool b, .int .i64 most, .slice none 0 0] 50))) := MadeD.mk (y := ⟨f, t, most, b⟩) ⟨h5, h6⟩ hb
  have d1 : ¬ f < 0 := by omega
  have d2 : ¬ 16 ≤ f := by omega
  have d3 : ¬ t < 0 := by omega
  have d4 : ¬ 16 ≤ t := by omega
  have d5 : ¬ most < 1 := by omega
  have d6 : ¬ 1024 < most := by omega
  clear h1 h2 h3 h4 h5 h6 hb
  unfold lkV
  go_enter Try.func10, Try.ntmps10
  go_wp2
  go_ret2
  rw [show (w.alloc (.cells #[.int .i64 f, .int .i64 t, .int .i64 k, .bool b] 23)).heap.size = w.heap.size + 1 by simp] at hmk
  exact ⟨_, rfl, hmk⟩
section
variable {w : World} {hb : Nat} {S : Nat → Prop} {y : Wy} {lk : Int} {v : Value} {L : List Pc}
theorem DyOf.shape (h : DyOf w hb S y lk v L) : ∃ a cap, v = .slice a L.length cap ∧ L.length ≤ cap := RowAt.shape h.list
set_option maxHeartbeats 1000000 in
theorem rlRoom_any (h : DyAt w hb S y L) (hl : L.length < 1000000000000000) : Calls Try.prog 18 #[.pointer (some ⟨hb, 0, none⟩)] w fun e w' => e = .returned (.int .i64 (roomN y L.length)) ∧ Below w.heap.size w w' := by
  have mixed := mixed
  obtain ⟨lk, v, h⟩ := h
  have hd : Below w.heap.size w w.drew := (Below.refl _ w).drew
  have hd' := Lib.hid hd
  have d2 := (h.below hd).c4
  have d4 := (h.below hd).c5
  have ho := h.ok
  obtain ⟨ho1, ho2⟩ := ho
  obtain ⟨a, cap, rfl, hc⟩ := h.shape
  clear h hd
  have hw : IntKind.i64.wrap (y.most - (L.length : Int)) = y.most - (L.length : Int) := IntWalk.i64_in _ (by omega)
  unfold roomN
  rw [Int.max_comm]
  generalize L.length = k at *
  go_enter Try.func18, Try.ntmps18
  go_upto_region 1 with (fail)
  go_region_held3 (fun w' => w'.cell? ⟨hb, 4, none⟩ = some (.int .i64 y.most) ∧ w'.cell? ⟨hb, 5, none⟩ = some (.slice a k cap)) (exact ⟨d2, d4⟩) (fail)
  go_wp2
  go_ret
  exact ⟨rfl, hd'.out⟩
theorem rlPlace_any (h : DyOf w hb S y lk v L) (n : Int) (hl : L.length < 1000000000000000) (h0 : 0 < L.length) : Calls Try.prog 31 #[.pointer (some ⟨hb, 0, none⟩), .int .i64 n] w fun e w' => e = .returned (.int .i64 (placeN y.loose n L.length : Nat)) ∧ w = w' := by
  have c3 := h.c3
  have c5 := h.c5
  obtain ⟨a, cap, rfl, hc⟩ := h.shape
  clear h
  obtain ⟨r, hr⟩ : ∃ r : Int, r = (placeN y.loose n L.length : Nat) := ⟨_, rfl⟩
  rw [← hr]
  unfold placeN at hr
  generalize L.length = k at *
  cases hlo : y.loose with
  | true =>
    rw [hlo] at hr c3
    have h1 := Int.emod_nonneg n (show (k : Int) ≠ 0 by omega)
    rw [if_pos rfl] at hr
    have hr2 : r = n % (k : Int) := by omega
    have hkp : (0 : Int) < (k : Int) := by omega
    obtain ⟨t1, t2⟩ := tmod_bd n (k : Int) hkp
    have hne : ¬ (k : Int) = 0 := by omega
    rw [tmod_emod n k hkp] at hr2
    have hw : IntKind.i64.wrap (n.tmod (k : Int)) = n.tmod (k : Int) := IntWalk.i64_in _ (by omega)
    clear hr h1 hlo
    by_cases ht : n.tmod (k : Int) < 0
    · rw [if_pos ht] at hr2
      have hw2 : IntKind.i64.wrap (n.tmod (k : Int) + (k : Int)) = n.tmod (k : Int) + (k : Int) := IntWalk.i64_in _ (by omega)
      subst hr2
      go_enter Try.func31, Try.ntmps31
      go_wp2
      go_ret
      exact ⟨rfl, rfl⟩
    · rw [if_neg ht] at hr2
      subst hr2
      go_enter Try.func31, Try.ntmps31
      go_wp2
      go_ret
      exact ⟨rfl, rfl⟩
  | false =>
    rw [hlo] at hr c3
    simp only [Bool.false_eq_true, if_false] at hr
    subst hr
    clear hlo
    go_enter Try.func31, Try.ntmps31
    go_wp2
    go_ret
    exact ⟨rfl, rfl⟩
set_option maxHeartbeats 4000000 in
theorem rlLeast_any (h : DyAt w hb S y L) (hl : L.length < 1000000000000000) : Calls Try.prog 20 #[.pointer (some ⟨hb, 0, none⟩)] w fun e w' => e = .returned (.int .i64 (leastT L)) ∧ w = w' := by
  obtain ⟨lk, v, h⟩ := h
  have c5 := h.c5
  have hlist := Lib.hid h.list
  obtain ⟨a, cap, hv, hc⟩ := h.shape
  rw [hv] at c5
  obtain ⟨N, hN⟩ : ∃ N, N = L.length := ⟨_, rfl⟩
  rw [← hN] at c5 hl hc hv
  have hN' := Lib.hid hN
  have hv' := Lib.hid hv
  clear h hN hv
  go_enter Try.func20, Try.ntmps20
  go_wp2
  go_loopw [4, 3] (fun s4 s3 wr => ∃ k : Nat, k ≤ N ∧ s4 = .int .i64 k ∧ (∃ z, s3 = .int .i64 z ∧ Hid (z = leastT (L.take k))) ∧ w = wr) (fun s4 _ _ => N - (intOf s4).toNat)
  case atStart => exact ⟨0, Nat.zero_le _, rfl, ⟨_, rfl, rfl⟩, rfl⟩
  case round =>
    obtain ⟨k, hk, rfl, ⟨z, rfl, hz⟩, rfl⟩ := hrel
    by_cases hkl : k < N
    · have hkI : (k : Int) < (N : Int) := by omega
      have hkL : k < L.length := by rw [← hN'.out]; exact hkl
      obtain ⟨g, off, cap2, e, hca, hcb, hg, hr⟩ := AtP.get hlist.out hkL
      rw [hv'.out, ← hN'.out] at e
      simp only [Value.slice.injEq, true_and] at e
      obtain ⟨rfl, rfl⟩ := e
      have hst : Hid (min z (L.getD k default).m.k.t = leastT (L.take (k + 1))) := by show _ = _; rw [leastT_take hkL, hz.out]
      generalize L.getD k default = p at *
      obtain ⟨x0, -, -, -, -, -, -, -⟩ := PcAt.of_range hr
      clear hr hz
      have hw1 : IntKind.i64.wrap ((k : Int) + 1) = (k : Int) + 1 := IntWalk.i64_in _ (by omega)
      go_wp2
      go_roundw
      case rel => exact ⟨k + 1, by omega, by go_num, ⟨_, rfl, hst⟩, trivial⟩
      case measure => simp [intOf]; omega
    · obtain rfl : k = N := by omega
      have hz2 : ¬ (k : Int) < (k : Int) := by omega
      have hfin : Hid (z = leastT L) := by show _ = _; rw [hz.out, hN'.out, List.take_length]
      go_wp2
      go_ret
      exact ⟨by rw [← hfin.out]; rfl, rfl⟩
end
end Go.Proofs.Ytjbammgnkegecaa
