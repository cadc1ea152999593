
/-
  A way's Least and All.
-/
import Derived.Test.YtjbammgnkegecaaKI
namespace Go.Proofs.Ytjbammgnkegecaa
open Go.ChangeShapes Go.WideShapes Go.ChangeAt Go.Shelf Go.RowKit Go.Lib Go.Sort Go.Deep
set_option linter.unusedVariables false
set_option maxRecDepth 4000

theorem leastT_snoc (L : List Pc) (p : Pc) : leastT (L ++ [p]) = min (leastT L) p.m.k.t := by simp [leastT]
theorem leastT_le : ∀ (L : List Pc), leastT L ≤ 4611686018427387904 := by
  intro L
  unfold leastT
  generalize (4611686018427387904 : Int) = z
  induction L generalizing z with
  | nil => exact Int.le_refl _
  | cons p L ih => rw [List.foldl_cons]; exact Int.le_trans (ih _) (Int.min_le_left _ _)
theorem leastT_take {L : List Pc} {k : Nat} (hk : k < L.length) : leastT (L.take (k + 1)) = min (leastT (L.take k)) (L.getD k default).m.k.t := by
  rw [List.take_succ_eq_append_getElem hk, leastT_snoc]
  simp [List.getD_eq_getElem?_getD, hk]

/-- The least of two times that lie in a slice. -/
theorem vLeast_two {w : World} {b : Nat} {x y : Int} (c0 : w.cell? ⟨b, 0, none⟩ = some (.int .i64 x)) (c1 : w.cell? ⟨b, 1, none⟩ = some (.int .i64 y)) (hx : x ≤ 4611686018427387904) :
    Calls Try.prog 34 #[.slice (some ⟨b, 0, none⟩) 2 2] w fun e w' => e = .returned (.int .i64 (min x y)) ∧ w = w' := by
  have hm : min (4611686018427387904 : Int) x = x := Int.min_eq_right hx
  go_enter Try.func34, Try.ntmps34
  go_wp2
  go_loopw [8, 3] (fun s8 s3 wr => (s8 = .int .i64 0 ∧ s3 = .int .i64 4611686018427387904 ∨ s8 = .int .i64 1 ∧ s3 = .int .i64 x ∨ s8 = .int .i64 2 ∧ s3 = .int .i64 (min x y)) ∧ w = wr) (fun s8 _ _ => 2 - (intOf s8).toNat)
  case atStart => exact ⟨.inl ⟨rfl, rfl⟩, rfl⟩
  case round =>
    obtain ⟨hh, rfl⟩ := hrel
    rcases hh with ⟨rfl, rfl⟩ | ⟨rfl, rfl⟩ | ⟨rfl, rfl⟩
    · go_wp2
      go_roundw
      case rel => exact ⟨.inr (.inl ⟨rfl, rfl⟩), trivial⟩
      case measure => simp [intOf]
    · go_wp2
      go_roundw
      case rel => exact ⟨.inr (.inr ⟨rfl, rfl⟩), trivial⟩
      case measure => simp [intOf]
    · go_wp2
      go_ret
      exact ⟨rfl, rfl⟩

set_option maxHeartbeats 1000000 in
theorem cloneP_some (ad : Addr) (n c : Nat) (news : List Value) (w : World) (hl : news.length = n * 8) (hn : n ≤ maxLen) (hbig : n * 64 ≤ 140737488355328)
    (hc : ∀ j u, news[j]? = some u → w.cell? (ad.add j) = some u) (h1 : ∀ u ∈ news, u.oneCell' = true) :
    Calls Try.prog 35 #[.slice (some ad) n c] w fun e w' => ∃ v', e = .returned v' ∧ w'.ownsRow w.heap.size 37 8 v' n news ∧ Below w.heap.size w w' := by
  obtain ⟨i0, hi, hz0, hz1, hz2⟩ := info_parts infoP
  have q22 : ∀ (w : World) (a : Option Addr) (n c n' c' : Nat), (binOp .eql 48 (.slice a n c) (.slice none n' c')).run Try.prog w = .ok (.bool a.isNone) w := fun w a n c n' c' => Lib.run_eql_slice_nil w _ _ a n c n' c' Try.underlying48
  have A : Aside (∀ j u, news[j]? = some u → w.cell? (ad.add j) = some u) := hc
  clear hc
  go_enter Try.func35, Try.ntmps35
  go_wp2_with (at_builtin; refine wpList_append_own _ rfl _ _ 48 rfl w.heap.size 37 i0 _ 8 64 Try.underlying48 hi hz0 hz1 hz2 rfl (by omega) _ _ _ rfl (World.ownsRow_made w #[] 0 (Nat.le_refl _) (Nat.zero_le _) (by simp)) ad n c news rfl ?qc1 ?qc2 ?qc3 ?qc4 ?qc5 ?qc6 ?_)
  case qc1 => exact hl
  case qc2 =>
    intro j u hj
    exact Lib.cell?_alloc_some _ (A.out j u hj)
  case qc3 => exact h1
  case qc4 => rw [Nat.zero_add]; exact hn
  case qc5 => rw [Nat.zero_add]; exact hbig
  case qc6 => simp
  intro v' w1 hown hgrow hnil
  go_wp2
  go_ret
  refine ⟨v', rfl, by simpa using hown, ?_⟩
  exact ((Below.refl _ w).alloc (Nat.le_refl _) _).grown hgrow (by simp) (by intro k hk; simp [Value.ownBlock] at hk; omega)
theorem cloneP_nil (n c : Nat) (w : World) : Calls Try.prog 35 #[.slice none n c] w fun e w' => e = .returned (.slice none 0 0) ∧ w' = w := by
  have q22 : ∀ (w : World) (a : Option Addr) (n c n' c' : Nat), (binOp .eql 48 (.slice a n c) (.slice none n' c')).run Try.prog w = .ok (.bool a.isNone) w := fun w a n c n' c' => Lib.run_eql_slice_nil w _ _ a n c n' c' Try.underlying48
  go_enter Try.func35, Try.ntmps35
  go_wp2
  go_ret
  exact ⟨rfl, rfl⟩
theorem RowAt.of_own {w : World} {base : Nat} {e : TypeId} {sz n : Nat} {v : Value} {xs : List Value} (h : w.ownsRow base e sz v n xs) : RowAt w e sz v n xs := by
  rcases h.2 with ⟨rfl, rfl⟩ | ⟨g, cap, cur, rfl, hb, hg, _⟩
  · exact .inl ⟨rfl, rfl, List.eq_nil_of_length_eq_zero (by simpa using h.1)⟩
  · exact .inr ⟨g, 0, cap, rfl, RowIn.of_own h⟩
section
variable {w : World} {hb : Nat} {S : Nat → Prop} {y : Wy} {v : Value} {L : List Pc}
theorem cloneP_any (h : AtP w v L) (hs : L.length * 64 ≤ 140737488355328) : Calls Try.prog 35 #[v] w fun e w' => ∃ a' c', e = .returned (.slice a' L.length c') ∧ Hid (AtP w' (.slice a' L.length c') L ∧ Below w.heap.size w w') := by
  rcases h with ⟨rfl, h0, h1⟩ | ⟨g, off, cap, rfl, hr⟩
  · have hL : L = [] := List.eq_nil_of_length_eq_zero h0
    subst hL
    refine (cloneP_nil 0 0 w).mono ?_
    rintro e w' ⟨rfl, rfl⟩
    exact ⟨none, 0, rfl, .inl ⟨rfl, rfl, rfl⟩, Below.refl _ _⟩
  · refine (cloneP_some ⟨g, off, none⟩ L.length cap (flatP L) w (flatP_length L) (by unfold maxLen; omega) hs (fun j u hj => by have := RowIn.cellA hr 0 (j := j) (u := u) (by rwa [Nat.zero_add]); simpa using this) (flatP_one L)).mono ?_
    rintro e w' ⟨v', rfl, ho, hb⟩
    have hra := RowAt.of_own ho
    obtain ⟨a', c', rfl, -⟩ := RowAt.shape hra
    exact ⟨a', c', rfl, hra, hb⟩
theorem lkAll_of (h : WyOf w hb S y v L) (hs : L.length * 64 ≤ 140737488355328) : Calls Try.prog 23 #[.pointer (some ⟨hb, 0, none⟩)] w fun e w' => ∃ a' c', e = .returned (.slice a' L.length c') ∧ Hid (AtP w' (.slice a' L.length c') L ∧ Below w.heap.size w w') := by
  have hm := made_any h
  have c4 := h.c4
  have hcl := Lib.hid (cloneP_any h.list hs)
  obtain ⟨a, cap, rfl, hc⟩ := h.shape
  clear h
  go_enter Try.func23, Try.ntmps23
  go_wp2_with (first
    | (go_at_call 33; refine hm.mono ?_; rintro e w' ⟨rfl, rfl⟩)
    | (go_at_call 35; refine hcl.out.mono ?_; rintro e w1 ⟨a', c', rfl, hq⟩))
  go_ret
  exact ⟨a', c', rfl, hq⟩
set_option maxHeartbeats 4000000 in
theorem lkLeast_of (h : WyOf w hb S y v L) (hl : L.length < 1000000000000000) : Calls Try.prog 19 #[.pointer (some ⟨hb, 0, none⟩)] w fun e w' => e = .returned (.int .i64 (leastT L)) ∧ Below w.heap.size w w' := by
  have hm := made_any h
  have c4 := h.c4
  have hlist := Lib.hid h.list
  obtain ⟨a, cap, hv, hc⟩ := h.shape
  rw [hv] at c4
  obtain ⟨N, hN⟩ : ∃ N, N = L.length := ⟨_, rfl⟩
  rw [← hN] at c4 hl hc hv
  have hN' := Lib.hid hN
  have hv' := Lib.hid hv
  clear h hN hv
  go_enter Try.func19, Try.ntmps19
  go_wp2_with (go_at_call 33; refine hm.mono ?_; rintro e w' ⟨rfl, rfl⟩)
  go_loopw [15, 3] (fun s15 s3 wr => ∃ k : Nat, k ≤ N ∧ s15 = .int .i64 k ∧ (∃ z, s3 = .int .i64 z ∧ Hid (z = leastT (L.take k))) ∧ Hid (Below w.heap.size w wr)) (fun s15 _ _ => N - (intOf s15).toNat)
  case atStart => exact ⟨0, Nat.zero_le _, rfl, ⟨_, rfl, rfl⟩, Below.refl _ _⟩
  case round =>
    obtain ⟨k, hk, rfl, ⟨z, rfl, hz⟩, hB⟩ := hrel
    by_cases hkl : k < N
    · have hkI : (k : Int) < (N : Int) := by omega
      have hkL : k < L.length := by rw [← hN'.out]; exact hkl
      obtain ⟨g, off, cap2, e, hca, hcb, hg, hr⟩ := AtP.get hlist.out hkL
      rw [hv'.out, ← hN'.out] at e
      simp only [Value.slice.injEq, true_and] at e
      obtain ⟨rfl, rfl⟩ := e
      have hr2 : wr.rangeAt g (off + k * 8) (encP (L.getD k default)) := fun j u hj => by
        rw [hB.out.cell (p := ⟨g, _, none⟩) hg]
        exact hr j u hj
      have hst : Hid (min z (L.getD k default).m.k.t = leastT (L.take (k + 1))) := by show _ = _; rw [leastT_take hkL, hz.out]
      have hz0 : z ≤ 4611686018427387904 := by rw [hz.out]; exact leastT_le _
      generalize L.getD k default = p at *
      obtain ⟨x0, x1, x2, x3, x4, x5, x6, x7⟩ := PcAt.of_range hr2
      clear hr hr2
      have hw1 : IntKind.i64.wrap ((k : Int) + 1) = (k : Int) + 1 := IntWalk.i64_in _ (by omega)
      have hvl : Hid (∀ w1 : World, Calls Try.prog 34 #[.slice (some ⟨w1.heap.size, 0, none⟩) 2 2] (w1.alloc (.cells #[.int .i64 z, .int .i64 p.m.k.t] 2)) fun e w' => e = .returned (.int .i64 (min z p.m.k.t)) ∧ w1.alloc (.cells #[.int .i64 z, .int .i64 p.m.k.t] 2) = w') := Lib.hid (fun w1 => vLeast_two (by simp) (by simp) hz0)
      have hbf : Hid (∀ w1 : World, Below w.heap.size w w1 → Below w.heap.size w (w1.alloc (.cells #[.int .i64 z, .int .i64 p.m.k.t] 2))) := Lib.hid (fun w1 h1 => h1.alloc h1.size _)
      have hb7 : Hid (Below w.heap.size w (wr.alloc (.cells p.cells 37))) := hB.out.alloc hB.out.size _
      have hbx : Hid (BoxP (wr.alloc (.cells p.cells 37)) wr.heap.size p) := BoxP.mk wr p
      go_upto_region 7 with (fail)
      rw [show wr.alloc (.cells #[.int .i64 p.m.k.t, .int .i64 p.m.k.f, .int .i64 p.m.k.s, .int .i64 p.m.to, .int .i64 p.m.v, .int .i64 p.m.u, .bool p.m.anti, .int .i64 p.c] 37) = wr.alloc (.cells p.cells 37) from rfl]
      obtain ⟨q0, q1, q2, q3, q4, q5, q6, q7⟩ := hbx.out.at
      clear x0 x1 x2 x3 x4 x5 x6 x7
      generalize wr.heap.size = B at *
      generalize wr.alloc (.cells p.cells 37) = W1 at *
      have hbb := hbf.out W1 hb7.out
      have hbb' := Lib.hid hbb
      clear hbb hbf hz
      go_wp2_with (go_at_call 34; refine (hvl.out _).mono ?_; rintro e w2 ⟨rfl, rfl⟩)
      go_roundw
      case rel => exact ⟨k + 1, by omega, by go_num, ⟨_, rfl, hst⟩, hbb'⟩
      case measure => simp [intOf]; omega
    · obtain rfl : k = N := by omega
      have hz2 : ¬ (k : Int) < (k : Int) := by omega
      have hfin : Hid (z = leastT L) := by show _ = _; rw [hz.out, hN'.out, List.take_length]
      go_wp2
      go_ret
      exact ⟨by rw [← hfin.out]; rfl, hB.out⟩
end
end Go.Proofs.Ytjbammgnkegecaa
