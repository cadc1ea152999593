/-
  The document's own queue: find, New, First, Pop.
  The document's own queue: First, Pop.
-/
import Derived.Test.YtjlbkdghlijoeaaGreatPDD
import Derived.Test.YtjlbkdghlijoeaaGreatPRI
namespace Go.Proofs.YtjlbkdghlijoeaaGreat
open Go.ChangeShapes Go.WideShapes Go.ChangeAt Go.Shelf Go.RowKit Go.Lib Go.Sort Go.Deep Go.Maps
set_option linter.unusedVariables false

/-- The document's queue holds the messages of L. -/
def DocAt (w : World) (rb : Nat) (a : Option Addr) (cap : Nat) (L : List M) : Prop := w.heap[rb]? = some (.cells #[.slice a L.length cap] 40) ∧ Msgs w a L.length cap L
theorem DocAt.c0 {w : World} {rb cap : Nat} {a : Option Addr} {L : List M} (h : DocAt w rb a cap L) : w.cell? ⟨rb, 0, none⟩ = some (.slice a L.length cap) := cell_of_block (o := 0) h.1 rfl
theorem DocAt.lt {w : World} {rb cap : Nat} {a : Option Addr} {L : List M} (h : DocAt w rb a cap L) : rb < w.heap.size := (Array.getElem?_eq_some_iff.1 h.1).1
theorem DocAt.below {w w' : World} {rb cap : Nat} {a : Option Addr} {L : List M} (h : DocAt w rb a cap L) (hb : Below w.heap.size w w') : DocAt w' rb a cap L :=
  ⟨(hb.block _ h.lt).trans h.1, h.2.below hb⟩
/-- What find answers. -/
def FoundAt (L : List M) (f u i : Int) : Prop := (i = -1 ∧ hasS L f u = false) ∨ ∃ (k : Nat) (hk : k < L.length), i = (k : Int) ∧ L[k].k.f = f ∧ L[k].u = u
theorem not_has {L : List M} {f u : Int} (h : ∀ j, j < L.length → ¬ ((L.getD j default).k.f = f ∧ (L.getD j default).u = u)) : hasS L f u = false := by
  cases e : hasS L f u with
  | false => rfl
  | true =>
    obtain ⟨m, hm, h1, h2⟩ := hasS_iff.1 e
    obtain ⟨j, hj, rfl⟩ := List.getElem_of_mem hm
    refine absurd ⟨?_, ?_⟩ (h j hj)
    · simpa [List.getD_eq_getElem?_getD, hj] using h1
    · simpa [List.getD_eq_getElem?_getD, hj] using h2

set_option maxHeartbeats 2000000 in
theorem rfind_any {w : World} {rb cap : Nat} {a : Option Addr} {L : List M} (h : DocAt w rb a cap L) (f u : Int) :
    Calls Tryz.prog 32 #[.pointer (some ⟨rb, 0, none⟩), .int .i64 f, .int .i64 u] w fun e w' => (∃ i, e = .returned (.int .i64 i) ∧ FoundAt L f u i) ∧ w = w' := by
  have c0 := h.c0
  have hM := Lib.hid h.2
  have hmx : L.length ≤ 9223372036854775807 ∧ L.length ≤ cap := by have h1 := h.2.2.1; have h2 := h.2.2.2.1; unfold maxLen at h2; omega
  obtain ⟨hmx, hcap⟩ := hmx
  clear h
  obtain ⟨N, hN⟩ : ∃ N, N = L.length := ⟨_, rfl⟩
  rw [← hN] at c0 hmx hcap
  have hN' := Lib.hid hN
  clear hN
  go_enter Tryz.func32, Tryz.ntmps32
  go_wp2
  go_loopw [7] (fun s7 wr => ∃ k : Nat, k ≤ N ∧ s7 = .int .i64 k ∧ Hid (∀ j, j < k → ¬ ((L.getD j default).k.f = f ∧ (L.getD j default).u = u)) ∧ w = wr) (fun s7 _ => N - (intOf s7).toNat)
  case atStart => exact ⟨0, Nat.zero_le _, rfl, fun j hj => absurd hj (Nat.not_lt_zero j), rfl⟩
  case round =>
    obtain ⟨k, hk, rfl, hno, rfl⟩ := hrel
    by_cases hkl : k < N
    · have hz : (k : Int) < (N : Int) := by omega
      obtain ⟨b, off, rfl, hma⟩ : ∃ b off, a = some ⟨b, off, none⟩ ∧ ∀ i, i < L.length → MsgAt w b (off + i * 7) (L.getD i default) := by
        rcases hM.out.2.2.2.2 with h0 | hx
        · have := hN'.out
          omega
        · exact hx
      have hmk := hma k (by rw [← hN'.out]; exact hkl)
      have hnk := fun (hn : ¬ ((L.getD k default).k.f = f ∧ (L.getD k default).u = u)) => (show Hid (∀ j, j < k + 1 → ¬ ((L.getD j default).k.f = f ∧ (L.getD j default).u = u)) from fun j hj => by
        by_cases e : j = k
        · subst e; exact hn
        · exact hno.out j (by omega))
      have hyk := fun (hy : (L.getD k default).k.f = f ∧ (L.getD k default).u = u) => (show Hid (FoundAt L f u (k : Int)) from .inr ⟨k, by rw [← hN'.out]; exact hkl, rfl, by
        have e : L[k]'(by rw [← hN'.out]; exact hkl) = L.getD k default := by simp [List.getD_eq_getElem?_getD, show k < L.length by rw [← hN'.out]; exact hkl]
        rw [e]; exact hy⟩)
      have hnk' := Lib.hid hnk
      have hyk' := Lib.hid hyk
      clear hma hnk hyk
      generalize L.getD k default = m at hmk hnk' hyk'
      obtain ⟨-, -, x1, -, -, -, x5, -⟩ := hmk
      by_cases h1 : m.k.f = f
      · by_cases h2 : m.u = u
        · have hfin := Lib.hid (hyk'.out ⟨h1, h2⟩).out
          go_wp2
          go_ret
          exact ⟨⟨_, rfl, hfin.out⟩, rfl⟩
        · have hfin := Lib.hid (hnk'.out (fun h => h2 h.2)).out
          go_wp2
          go_roundw
          case rel => exact ⟨k + 1, by omega, by go_num, hfin, trivial⟩
          case measure => simp [intOf]; omega
      · have hfin := Lib.hid (hnk'.out (fun h => h1 h.1)).out
        go_wp2
        go_roundw
        case rel => exact ⟨k + 1, by omega, by go_num, hfin, trivial⟩
        case measure => simp [intOf]; omega
    · obtain rfl : k = N := by omega
      have hz : ¬ (k : Int) < (k : Int) := by omega
      have hfin : Hid (FoundAt L f u (-1)) := .inl ⟨rfl, not_has (by rw [← hN'.out]; exact hno.out)⟩
      go_wp2
      go_ret
      exact ⟨⟨_, rfl, hfin.out⟩, rfl⟩
theorem rNew_any (w : World) : Calls Tryz.prog 18 #[] w fun e w' => e = .returned (.pointer (some ⟨w.heap.size, 0, none⟩)) ∧ DocAt w' w.heap.size none 0 [] ∧ Below w.heap.size w w' := by
  go_enter Tryz.func18, Tryz.ntmps18
  go_wp2
  go_ret
  exact ⟨rfl, ⟨heap_alloc_new w _, rfl, by simp, by unfold maxLen; omega, by simp, .inl rfl⟩, (Below.refl _ w).alloc (Nat.le_refl _) _⟩
end Go.Proofs.YtjlbkdghlijoeaaGreat
namespace Go.Proofs.YtjlbkdghlijoeaaGreat
open Go.ChangeShapes Go.WideShapes Go.ChangeAt Go.Shelf Go.RowKit Go.Lib Go.Sort Go.Deep Go.Maps
set_option linter.unusedVariables false

theorem DocAt.first {w : World} {rb cap : Nat} {a : Option Addr} {m : M} {T : List M} (h : DocAt w rb a cap (m :: T)) : ∃ b off, a = some ⟨b, off, none⟩ ∧ MsgAt w b off m := by
  rcases h.2.2.2.2.2 with h0 | ⟨b, off, rfl, hm⟩
  · simp at h0
  · have := hm 0 (by simp)
    simp only [Nat.zero_mul, Nat.add_zero, List.getD_cons_zero] at this
    exact ⟨b, off, rfl, this⟩

set_option maxHeartbeats 1000000 in
theorem rFirst_none {w : World} {rb cap : Nat} {a : Option Addr} (h : DocAt w rb a cap []) :
    Calls Tryz.prog 21 #[.pointer (some ⟨rb, 0, none⟩)] w fun e w' => e = .returned (.tuple #[zeroM.val, .int .i64 6]) ∧ Below w.heap.size w w' := by
  have c0 := (h.below ((Below.refl _ w).alloc (Nat.le_refl _) (.cells #[.int .i64 0, .int .i64 0, .int .i64 0, .int .i64 0, .int .i64 0, .int .i64 0, .bool false] 34))).c0
  simp only [List.length_nil] at c0
  clear h
  go_enter Tryz.func21, Tryz.ntmps21
  go_wp2
  refine bodyPost_ret (v := .tuple #[.agg #[.int .i64 0, .int .i64 0, .int .i64 0, .int .i64 0, .int .i64 0, .int .i64 0, .bool false], .int .i64 6]) (by simp [results, Tryz.results21, go_sem]) rfl ⟨rfl, ?_⟩
  repeat (refine Below.setCell ?_ (by simp) _)
  exact (Below.refl _ w).alloc (Nat.le_refl _) _

set_option maxHeartbeats 1000000 in
theorem rFirst_some {w : World} {rb cap : Nat} {a : Option Addr} {m : M} {T : List M} (h : DocAt w rb a cap (m :: T)) :
    Calls Tryz.prog 21 #[.pointer (some ⟨rb, 0, none⟩)] w fun e w' => e = .returned (.tuple #[m.val, .int .i64 0]) ∧ Below w.heap.size w w' := by
  obtain ⟨W0, hW0⟩ : ∃ W0, W0 = w.alloc (.cells #[.int .i64 0, .int .i64 0, .int .i64 0, .int .i64 0, .int .i64 0, .int .i64 0, .bool false] 34) := ⟨_, rfl⟩
  have hB0 : Hid (Below w.heap.size w W0) := by rw [hW0]; exact (Below.refl _ w).alloc (Nat.le_refl _) _
  have hR0 : Hid (BoxM W0 w.heap.size zeroM) := by rw [hW0]; exact BoxM.mk w zeroM
  have h0 := h.below hB0.out
  have c0 := h0.c0
  obtain ⟨b, off, rfl, hm⟩ := h0.first
  have hmx : (m :: T).length ≤ 9223372036854775807 ∧ (m :: T).length ≤ cap ∧ 0 < (m :: T).length := by have h1 := h.2.2.1; have h2 := h.2.2.2.1; unfold maxLen at h2; exact ⟨by omega, h1, by simp⟩
  obtain ⟨hmx, hcap, hpos⟩ := hmx
  obtain ⟨-, x0, x1, x2, x3, x4, x5, x6⟩ := hm
  clear h h0
  generalize (m :: T).length = N at c0 hmx hcap hpos
  have hz : ((N : Int) == 0) = false := by simp; omega
  have hz1 : ¬ (N : Int) = 0 := by omega
  have hz2 : (0 : Int) < (N : Int) := by omega
  go_enter Tryz.func21, Tryz.ntmps21
  go_upto_region 1 with (fail)
  rw [← hW0]
  clear hW0
  go_wp2_with (refine wpList_store_row rfl 34 (.tmp 2) (.tmp 16) rfl w.heap.size m.cells rfl rfl 34 zeroM.cells hR0.out infoS rfl (M.cells_one m) ?_)
  obtain ⟨-, s0, s1, s2, s3, s4, s5, s6⟩ := (hR0.out.row m).at
  simp only [Nat.zero_add] at s0 s1 s2 s3 s4 s5 s6
  refine bodyPost_ret (v := .tuple #[m.val, .int .i64 0]) (by simp [results, Tryz.results21, go_sem, s0, s1, s2, s3, s4, s5, s6, M.val]) rfl ⟨rfl, ?_⟩
  exact ((KeptOff.of_below (S := fun k => False) hB0.out).then_new (KeptOff.row _ _ _) (fun k hk e => by omega)).below (fun _ _ e => e.elim) (Nat.le_refl _)

set_option maxHeartbeats 1000000 in
theorem rPop_none {w : World} {rb cap : Nat} {a : Option Addr} (h : DocAt w rb a cap []) :
    Calls Tryz.prog 22 #[.pointer (some ⟨rb, 0, none⟩)] w fun e w' => e = .returned (.tuple #[zeroM.val, .int .i64 6]) ∧ Below w.heap.size w w' := by
  obtain ⟨W0, hW0⟩ : ∃ W0, W0 = w.alloc (.cells #[.int .i64 0, .int .i64 0, .int .i64 0, .int .i64 0, .int .i64 0, .int .i64 0, .bool false] 34) := ⟨_, rfl⟩
  have hB0 : Hid (Below w.heap.size w W0) := by rw [hW0]; exact (Below.refl _ w).alloc (Nat.le_refl _) _
  have hR0 : Hid (BoxM W0 w.heap.size zeroM) := by rw [hW0]; exact BoxM.mk w zeroM
  have hf := rFirst_none (h.below hB0.out)
  rw [zeroM_val] at hf
  have hfin : Hid (∀ w3, Below W0.heap.size W0 w3 → BoxM (w3.alloc (.cells #[.int .i64 0, .int .i64 0, .int .i64 0, .int .i64 0, .int .i64 0, .int .i64 0, .bool false] 34)) w.heap.size zeroM ∧ Below w.heap.size w ((w3.alloc (.cells #[.int .i64 0, .int .i64 0, .int .i64 0, .int .i64 0, .int .i64 0, .int .i64 0, .bool false] 34)).setRow w.heap.size zeroM.cells)) := by
    intro w3 hb
    have hb4 := hb.alloc hb.size (.cells #[.int .i64 0, .int .i64 0, .int .i64 0, .int .i64 0, .int .i64 0, .int .i64 0, .bool false] 34)
    refine ⟨hR0.out.kept (S := fun _ => False) (.of_below hb4) (fun e => e), ?_⟩
    exact ((KeptOff.of_below (S := fun k => False) (hB0.out.trans (hb4.mono hB0.out.size))).then_new (KeptOff.row _ _ _) (fun k hk e => by omega)).below (fun _ _ e => e.elim) (Nat.le_refl _)
  clear h
  go_enter Tryz.func22, Tryz.ntmps22
  go_upto_region 1 with (fail)
  rw [← hW0]
  clear hW0
  go_wp2_with (first
    | (go_at_call 21; refine hf.mono ?_; rintro e w3 ⟨rfl, hb3⟩; have hF3 := hfin.out w3 hb3; clear hb3; have hF3' := Lib.hid hF3; clear hF3)
    | (refine wpList_store_row rfl 34 (.tmp 2) (.tmp 21) rfl w.heap.size zeroM.cells rfl rfl 34 zeroM.cells hF3'.out.1 infoS rfl (M.cells_one zeroM) ?_))
  obtain ⟨-, s0, s1, s2, s3, s4, s5, s6⟩ := (hF3'.out.1.row zeroM).at
  simp only [Nat.zero_add] at s0 s1 s2 s3 s4 s5 s6
  exact bodyPost_ret (v := .tuple #[zeroM.val, .int .i64 6]) (by simp [results, Tryz.results22, go_sem, s0, s1, s2, s3, s4, s5, s6, M.val]) rfl ⟨rfl, hF3'.out.2⟩

/-- The row from its second place on. -/
theorem DocAt.popped {W : World} {rb cap b off : Nat} {m : M} {T : List M} (h : DocAt W rb (some ⟨b, off, none⟩) cap (m :: T)) (hne : b ≠ rb) :
    DocAt (W.setCell ⟨rb, 0, none⟩ (.slice (if cap = 1 then some ⟨b, off, none⟩ else some ⟨b, off + 7, none⟩) T.length (cap - 1))) rb (if cap = 1 then some ⟨b, off, none⟩ else some ⟨b, off + 7, none⟩) (cap - 1) T := by
  have hh := h.1
  refine ⟨by simp [World.setCell, Array.getElem?_modify, hh], ?_⟩
  have hl : T.length + 1 ≤ cap := h.2.2.1
  have hM : Msgs W (if cap = 1 then some ⟨b, off, none⟩ else some ⟨b, off + 7, none⟩) T.length (cap - 1) T := by
    refine ⟨rfl, by omega, by have := h.2.2.2.1; omega, fun x hx => h.2.2.2.2.1 x (List.mem_cons_of_mem _ hx), ?_⟩
    by_cases h0 : T.length = 0
    · exact .inl h0
    · rw [if_neg (by omega)]
      refine .inr ⟨b, off + 7, rfl, fun i hi => ?_⟩
      rcases h.2.2.2.2.2 with h1 | ⟨b1, o1, e, hm⟩
      · simp at h1
      · cases e
        have := hm (i + 1) (by simp; omega)
        rw [List.getD_cons_succ, show off + (i + 1) * 7 = off + 7 + i * 7 by omega] at this
        exact this
  refine hM.kept (KeptOff.set W ⟨rb, 0, none⟩ _) (.inr ⟨b, if cap = 1 then off else off + 7, by split <;> rfl, hne⟩)

/-- What a Pop leaves of the document's queue. -/
def RPopped (w : World) (rb : Nat) (a : Option Addr) (T : List M) (w' : World) : Prop := ∃ a' cap', DocAt w' rb a' cap' T ∧ KeptOff (fun k => k = rb) w w' ∧ ∃ b off off', a = some ⟨b, off, none⟩ ∧ a' = some ⟨b, off', none⟩
set_option maxHeartbeats 1000000 in
theorem rPop_some {w : World} {rb cap : Nat} {a : Option Addr} {m : M} {T : List M} (h : DocAt w rb a cap (m :: T)) (hne : ∀ b off, a = some ⟨b, off, none⟩ → b ≠ rb) :
    Calls Tryz.prog 22 #[.pointer (some ⟨rb, 0, none⟩)] w fun e w' => e = .returned (.tuple #[m.val, .int .i64 0]) ∧ RPopped w rb a T w' := by
  obtain ⟨W0, hW0⟩ : ∃ W0, W0 = w.alloc (.cells #[.int .i64 0, .int .i64 0, .int .i64 0, .int .i64 0, .int .i64 0, .int .i64 0, .bool false] 34) := ⟨_, rfl⟩
  have hB0 : Hid (Below w.heap.size w W0) := by rw [hW0]; exact (Below.refl _ w).alloc (Nat.le_refl _) _
  have hR0 : Hid (BoxM W0 w.heap.size zeroM) := by rw [hW0]; exact BoxM.mk w zeroM
  have h0 := h.below hB0.out
  have hf := rFirst_some h0
  have hrl := h.lt
  obtain ⟨b, off, rfl, -⟩ := h0.first
  have hbw : b < w.heap.size := by
    obtain ⟨b2, o2, e, hm⟩ := h.first
    cases e
    exact hm.1
  have hmx : (m :: T).length ≤ 9223372036854775807 ∧ (m :: T).length ≤ cap ∧ cap ≤ 9223372036854775807 := by have h1 := h.2.2.1; have h2 := h.2.2.2.1; unfold maxLen at h2; exact ⟨by omega, h1, by omega⟩
  obtain ⟨hmx, hcap, hcm⟩ := hmx
  have h4 : Hid (∀ w3, Below W0.heap.size W0 w3 → DocAt (w3.alloc (.cells m.cells 34)) rb (some ⟨b, off, none⟩) cap (m :: T) ∧ BoxM (w3.alloc (.cells m.cells 34)) w.heap.size zeroM ∧ BoxM (w3.alloc (.cells m.cells 34)) w3.heap.size m ∧ Below w.heap.size w (w3.alloc (.cells m.cells 34)) ∧ w.heap.size < w3.heap.size) := by
    intro w3 hb
    have hb4 := hb.alloc hb.size (.cells m.cells 34)
    have hs : W0.heap.size = w.heap.size + 1 := by rw [hW0]; simp
    exact ⟨h0.below hb4, hR0.out.kept (S := fun _ => False) (.of_below hb4) (fun e => e), BoxM.mk w3 m, hB0.out.trans (hb4.mono hB0.out.size), by have := hb.size; omega⟩
  have hlT : (m :: T).length = T.length + 1 := rfl
  clear h h0
  simp only [M.val, M.cells] at hf h4
  obtain ⟨N, hN⟩ : ∃ N, N = T.length := ⟨_, rfl⟩
  rw [← hN] at hlT
  have hN' := Lib.hid hN
  clear hN
  go_enter Tryz.func22, Tryz.ntmps22
  go_upto_region 1 with (fail)
  rw [← hW0]
  clear hW0
  go_upto_region 2 with (first
    | (go_at_call 21; refine hf.mono ?_; rintro e w3 ⟨rfl, hb3⟩; have hF3 := h4.out w3 hb3; clear hb3; have hF3' := Lib.hid hF3; clear hF3))
  obtain ⟨hd4, hr4, hb4, hw4, hlt4⟩ := hF3'.out
  have hQ := Lib.hid (And.intro hd4 (And.intro hr4 (And.intro hb4 (And.intro hw4 hlt4))))
  clear hd4 hr4 hb4 hw4 hlt4 hF3' hf h4
  generalize w3.heap.size = B4 at hQ ⊢
  generalize w3.alloc (.cells #[.int .i64 m.k.t, .int .i64 m.k.f, .int .i64 m.k.s, .int .i64 m.to, .int .i64 m.v, .int .i64 m.u, .bool m.anti] 34) = W4 at hQ ⊢
  have c0 := hQ.out.1.c0
  rw [hlT] at c0 hmx hcap
  have f0 : W4.frozen? ⟨rb, 0, none⟩ = false := frozen_of_block (o := 0) hQ.out.1.1
  have b1 : (1 : Int) ≤ ((N : Int) + 1) := by omega
  have b2 : ((N : Int) + 1) ≤ (cap : Int) := by omega
  go_upto_region 4 with (fail)
  have hb := hne b off rfl
  have hd5 := hQ.out.1.popped hb
  rw [← hN'.out] at hd5
  have hks := KeptOff.set W4 ⟨rb, 0, none⟩ (.slice (if cap = 1 then some ⟨b, off, none⟩ else some ⟨b, off + 7, none⟩) N (cap - 1))
  obtain ⟨-, hr4, hb4, hw4, hlt4⟩ := hQ.out
  have hr5 := hr4.kept hks (by simp only; omega)
  have hb5 := hb4.kept hks (by simp only; omega)
  have hbl : b < w.heap.size := hbw
  obtain ⟨-, x0, x1, x2, x3, x4, x5, x6⟩ := hb5.at
  simp only [Nat.zero_add] at x0 x1 x2 x3 x4 x5 x6
  have hk5 : KeptOff (fun k => k = rb) w (W4.setCell ⟨rb, 0, none⟩ (.slice (if cap = 1 then some ⟨b, off, none⟩ else some ⟨b, off + 7, none⟩) N (cap - 1))) := (KeptOff.of_below (S := fun k => k = rb) hw4).trans hks
  have hfin : Hid (DocAt ((W4.setCell ⟨rb, 0, none⟩ (.slice (if cap = 1 then some ⟨b, off, none⟩ else some ⟨b, off + 7, none⟩) N (cap - 1))).setRow w.heap.size m.cells) rb (if cap = 1 then some ⟨b, off, none⟩ else some ⟨b, off + 7, none⟩) (cap - 1) T ∧ KeptOff (fun k => k = rb) w ((W4.setCell ⟨rb, 0, none⟩ (.slice (if cap = 1 then some ⟨b, off, none⟩ else some ⟨b, off + 7, none⟩) N (cap - 1))).setRow w.heap.size m.cells)) := by
    have hkr := KeptOff.row (W4.setCell ⟨rb, 0, none⟩ (.slice (if cap = 1 then some ⟨b, off, none⟩ else some ⟨b, off + 7, none⟩) N (cap - 1))) w.heap.size m.cells
    refine ⟨⟨(hkr.block rb hd5.lt (by omega)).trans hd5.1, hd5.2.kept hkr (.inr ⟨b, if cap = 1 then off else off + 7, by split <;> rfl, by omega⟩)⟩, hk5.then_new hkr (fun k hk e => by omega)⟩
  generalize W4.setCell ⟨rb, 0, none⟩ (.slice (if cap = 1 then some ⟨b, off, none⟩ else some ⟨b, off + 7, none⟩) N (cap - 1)) = W5 at *
  have hr5' := Lib.hid hr5
  have hoo : Hid (∃ o', (if cap = 1 then some ⟨b, off, none⟩ else some ⟨b, off + 7, none⟩ : Option Addr) = some ⟨b, o', none⟩) := ⟨if cap = 1 then off else off + 7, by split <;> rfl⟩
  generalize (if cap = 1 then some ⟨b, off, none⟩ else some ⟨b, off + 7, none⟩ : Option Addr) = a' at hoo hfin hd5 ⊢
  clear hd5 hks hr4 hb4 hw4 hr5 hb5 hk5 c0 f0 hQ
  go_wp2_with (refine wpList_store_row rfl 34 (.tmp 2) (.tmp 21) rfl w.heap.size m.cells rfl rfl 34 zeroM.cells hr5'.out infoS rfl (M.cells_one m) ?_)
  obtain ⟨-, s0, s1, s2, s3, s4, s5, s6⟩ := (hr5'.out.row m).at
  simp only [Nat.zero_add] at s0 s1 s2 s3 s4 s5 s6
  refine bodyPost_ret (v := .tuple #[m.val, .int .i64 0]) (by simp [results, Tryz.results22, go_sem, s0, s1, s2, s3, s4, s5, s6, M.val]) rfl ⟨rfl, ?_⟩
  obtain ⟨o', ho'⟩ := hoo.out
  exact ⟨_, _, hfin.out.1, hfin.out.2, b, off, o', rfl, ho'⟩
end Go.Proofs.YtjlbkdghlijoeaaGreat
