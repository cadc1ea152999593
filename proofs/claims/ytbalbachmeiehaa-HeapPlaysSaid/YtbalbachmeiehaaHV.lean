/-
  A queue: First, Pop.
-/
import Derived.Test.YtbalbachmeiehaaHU
namespace Go.Proofs.Ytbalbachmeiehaa
open Go.ChangeShapes Go.WideShapes Go.ChangeAt Go.Shelf Go.RowKit Go.Lib Go.Sort Go.Deep Go.Maps
set_option linter.unusedVariables false

theorem root_of {l : List M} (h : HeapOn ltM l.toArray) (h0 : 0 < l.length) : ∀ x ∈ l, ltM x (l.getD 0 default) = false := by
  intro x hx
  obtain ⟨i, hi, rfl⟩ := List.getElem_of_mem hx
  have := root_min ordM h i i (Nat.le_refl _) (by simpa using hi)
  have e0 : l.toArray[0]! = l.getD 0 default := by
    rw [getElem!_pos _ 0 (by simpa using h0)]
    simp [List.getD_eq_getElem?_getD, h0]
  have e1 : l.toArray[i]! = l[i] := by
    rw [getElem!_pos _ i (by simpa using hi)]
    simp
  rwa [e0, e1] at this
/-- The first of a queue is the tree's root. -/
theorem QAt.root {w : World} {b0 hb tb mb n : Nat} {v : Value} {m : M} {T : List M} (h : QAt w b0 hb tb mb n v (m :: T)) : ∃ l, TreeAt w b0 tb v l ∧ l.Perm (m :: T) ∧ 0 < l.length ∧ l.getD 0 default = m ∧ ∀ l', (m :: l').Perm l → l'.Perm T := by
  obtain ⟨l, hl, hp⟩ := h.t
  have h0 : 0 < l.length := by rw [hp.length_eq]; simp
  have key : ∀ l', (l.getD 0 default :: l').Perm l → l.getD 0 default = m ∧ l'.Perm T := by
    intro l' hp'
    obtain ⟨T', e, hT'⟩ := pop_list hp hp' (root_of hl.heap h0) h.o h.u
    cases e
    exact ⟨rfl, hT'⟩
  have e0 : l.getD 0 default = m := by
    cases l with
    | nil => simp at h0
    | cons a l => exact (key l (List.Perm.refl _)).1
  exact ⟨l, hl, hp, h0, e0, fun l' hp' => (key l' (by rw [e0]; exact hp')).2⟩

theorem eqErr (a b : Int) (w : World) : Sem.run Try.prog (binOp .neq 42 (.int .i64 a) (.int .i64 b)) w = .ok (.bool (!decide (a = b))) w := by
  go_simp
  try (by_cases h : a = b <;> simp [h])

set_option maxHeartbeats 1000000 in
theorem hFirst_none {w : World} {b0 hb tb mb n : Nat} {v : Value} (h : QAt w b0 hb tb mb n v []) :
    Calls Try.prog 19 #[.pointer (some ⟨hb, 0, none⟩)] w fun e w' => e = .returned (.tuple #[zeroM.val, .int .i64 6]) ∧ Below w.heap.size w w' := by
  have hr := refusal_any (h.below ((Below.refl _ w).alloc (Nat.le_refl _) (.cells #[.int .i64 0, .int .i64 0, .int .i64 0, .int .i64 0, .int .i64 0, .int .i64 0, .bool false] 31)))
  simp only [if_true] at hr
  clear h
  go_enter Try.func19, Try.ntmps19
  go_wp2_with (go_at_call 33; refine hr.mono ?_; rintro e w' ⟨rfl, rfl⟩)
  refine bodyPost_ret (v := .tuple #[.agg #[.int .i64 0, .int .i64 0, .int .i64 0, .int .i64 0, .int .i64 0, .int .i64 0, .bool false], .int .i64 6]) (by simp [results, Try.results19, go_sem]) rfl ⟨rfl, ?_⟩
  repeat (refine Below.setCell ?_ (by simp) _)
  exact (Below.refl _ w).alloc (Nat.le_refl _) _

set_option maxHeartbeats 1000000 in
theorem hFirst_some {w : World} {b0 hb tb mb n : Nat} {v : Value} {m : M} {T : List M} (h : QAt w b0 hb tb mb n v (m :: T)) :
    Calls Try.prog 19 #[.pointer (some ⟨hb, 0, none⟩)] w fun e w' => e = .returned (.tuple #[m.val, .int .i64 0]) ∧ Below w.heap.size w w' := by
  obtain ⟨W0, hW0⟩ : ∃ W0, W0 = w.alloc (.cells #[.int .i64 0, .int .i64 0, .int .i64 0, .int .i64 0, .int .i64 0, .int .i64 0, .bool false] 31) := ⟨_, rfl⟩
  have hB0 : Hid (Below w.heap.size w W0) := by rw [hW0]; exact (Below.refl _ w).alloc (Nat.le_refl _) _
  have hR0 : Hid (BoxM W0 w.heap.size zeroM) := by rw [hW0]; exact BoxM.mk w zeroM
  have h0 := h.below hB0.out
  have hr := refusal_any h0
  simp only [reduceCtorEq, if_false] at hr
  obtain ⟨l, hl, _, hlen, he, _⟩ := h0.root
  have hf := tfirst_any hl hlen
  rw [he] at hf
  have c0 := h0.h.c0
  have hr' := Lib.hid hr
  have hf' := Lib.hid hf
  clear h h0 hr hf hl he hlen
  go_enter Try.func19, Try.ntmps19
  go_upto_region 1 with (fail)
  rw [← hW0]
  clear hW0
  go_wp2_with (first
    | (go_at_call 33; refine hr'.out.mono ?_; rintro e w' ⟨rfl, rfl⟩)
    | (go_at_call 36; refine hf'.out.mono ?_; rintro e w3 ⟨rfl, hb3⟩; have hR3 := Lib.hid (hR0.out.kept (S := fun _ => False) (.of_below hb3) (fun e => e)); have hb3' := Lib.hid hb3; clear hb3)
    | (refine wpList_store_row rfl 31 (.tmp 2) (.tmp 15) rfl w.heap.size m.cells rfl rfl 31 zeroM.cells hR3.out infoS rfl (M.cells_one m) ?_))
  obtain ⟨-, s0, s1, s2, s3, s4, s5, s6⟩ := (hR3.out.row m).at
  simp only [Nat.zero_add] at s0 s1 s2 s3 s4 s5 s6
  refine bodyPost_ret (v := .tuple #[m.val, .int .i64 0]) (by simp [results, Try.results19, go_sem, s0, s1, s2, s3, s4, s5, s6, M.val]) rfl ⟨rfl, ?_⟩
  exact ((KeptOff.of_below (S := fun k => False) (hB0.out.trans (hb3'.out.mono hB0.out.size))).then_new (KeptOff.setRow _ _ _) (fun k hk e => by omega)).below (fun _ _ e => e.elim) (Nat.le_refl _)

set_option maxHeartbeats 1000000 in
theorem hPop_none {w : World} {b0 hb tb mb n : Nat} {v : Value} (h : QAt w b0 hb tb mb n v []) :
    Calls Try.prog 17 #[.pointer (some ⟨hb, 0, none⟩)] w fun e w' => e = .returned (.tuple #[zeroM.val, .int .i64 6]) ∧ Below w.heap.size w w' := by
  have hr := refusal_any (h.below ((Below.refl _ w).alloc (Nat.le_refl _) (.cells #[.int .i64 0, .int .i64 0, .int .i64 0, .int .i64 0, .int .i64 0, .int .i64 0, .bool false] 31)))
  simp only [if_true] at hr
  clear h
  go_enter Try.func17, Try.ntmps17
  go_wp2_with (go_at_call 33; refine hr.mono ?_; rintro e w' ⟨rfl, rfl⟩)
  refine bodyPost_ret (v := .tuple #[.agg #[.int .i64 0, .int .i64 0, .int .i64 0, .int .i64 0, .int .i64 0, .int .i64 0, .bool false], .int .i64 6]) (by simp [results, Try.results17, go_sem]) rfl ⟨rfl, ?_⟩
  repeat (refine Below.setCell ?_ (by simp) _)
  exact (Below.refl _ w).alloc (Nat.le_refl _) _

set_option maxHeartbeats 1000000 in
theorem hPop_some {w : World} {b0 hb tb mb n : Nat} {v : Value} {m : M} {T : List M} (h : QAt w b0 hb tb mb n v (m :: T)) :
    Calls Try.prog 17 #[.pointer (some ⟨hb, 0, none⟩)] w fun e w' => e = .returned (.tuple #[m.val, .int .i64 0]) ∧ ∃ v', QAt w' b0 hb tb mb n v' T ∧ QStep w w' tb mb v v' := by
  obtain ⟨W0, hW0⟩ : ∃ W0, W0 = w.alloc (.cells #[.int .i64 0, .int .i64 0, .int .i64 0, .int .i64 0, .int .i64 0, .int .i64 0, .bool false] 31) := ⟨_, rfl⟩
  have hB0 : Hid (Below w.heap.size w W0) := by rw [hW0]; exact (Below.refl _ w).alloc (Nat.le_refl _) _
  have hR0 : Hid (BoxM W0 w.heap.size zeroM) := by rw [hW0]; exact BoxM.mk w zeroM
  have hbw : hb < w.heap.size ∧ tb < w.heap.size ∧ mb < w.heap.size := ⟨h.h.lt, by obtain ⟨l, hl, _⟩ := h.t; exact hl.t.lt, h.s.lt⟩
  have h0 := h.below hB0.out
  have hr := refusal_any h0
  simp only [reduceCtorEq, if_false] at hr
  obtain ⟨l, hl, hlp, hlen, he, hre⟩ := h0.root
  have hf := htake_any h0.h hl (by obtain ⟨D, d1, d2⟩ := h0.s; exact ⟨D, d1, fun f u hf hu => (d2 f u hf hu).trans (hasS_perm hlp.symm f u)⟩) (h0.u.perm hlp.symm) h0.lh h0.lm h0.dt 0 hlen
  rw [he] at hf
  have hrl : ∀ k, v.ownBlock = some k → k < w.heap.size := by
    obtain ⟨l2, hl2, _⟩ := h.t
    exact fun k hk => (hl2.own.lt k hk).2
  have hfin : ∀ w3, TakeRes W0 b0 hb tb mb n v l 0 w3 → Hid (BoxM w3 w.heap.size zeroM ∧ ∃ v', QAt (w3.setRow w.heap.size m.cells) b0 hb tb mb n v' T ∧ QStep w (w3.setRow w.heap.size m.cells) tb mb v v') := by
    rintro w3 ⟨v', l', t1, t2, t3, t4, t5, t6⟩
    rw [he] at t2
    have hp' := hre l' t2
    have hk5 := KeptOff.setRow w3 w.heap.size m.cells
    have hR3 := hR0.out.kept t5 (fun e => by rcases e with e | e | e; · omega
                                             · omega
                                             · have := hrl _ e; omega)
    refine ⟨hR3, v', ⟨t3.kept hk5 (by omega), ⟨l', t1.kept hk5 (by omega) (fun k hk e => by have := hrl k (t6 ▸ hk); omega), hp'⟩, ?_, (List.pairwise_cons.1 h0.o).2, (List.pairwise_cons.1 h0.u).2, h0.lh, h0.lm, h0.dt⟩, ?_, fun g hg => .inl (t6 ▸ hg)⟩
    · exact (t4.kept hk5 (by omega)).congr (fun f u => hasS_perm hp' f u)
    · exact ((KeptOff.of_below hB0.out).trans (t5.mono (fun _ _ e => e))).then_new hk5 (fun k hk e => by omega)
  have c0 := h0.h.c0
  have hr' := Lib.hid hr
  have hf' : Hid (Calls Try.prog 34 #[.pointer (some ⟨hb, 0, none⟩), .int .i64 0] W0 fun e w' => e = .returned m.val ∧ TakeRes W0 b0 hb tb mb n v l 0 w') := hf
  have hfin' := Lib.hid hfin
  clear h h0 hr hf hl he hlen hlp hre hfin hrl
  go_enter Try.func17, Try.ntmps17
  go_upto_region 1 with (fail)
  rw [← hW0]
  clear hW0
  go_wp2_with (first
    | (go_at_call 33; refine hr'.out.mono ?_; rintro e w' ⟨rfl, rfl⟩)
    | (go_at_call 34; refine hf'.out.mono ?_; rintro e w3 ⟨rfl, ht3⟩; have hQ3 := hfin'.out w3 ht3; clear ht3)
    | (refine wpList_store_row rfl 31 (.tmp 2) (.tmp 12) rfl w.heap.size m.cells rfl rfl 31 zeroM.cells hQ3.out.1 infoS rfl (M.cells_one m) ?_))
  obtain ⟨-, s0, s1, s2, s3, s4, s5, s6⟩ := (hQ3.out.1.row m).at
  simp only [Nat.zero_add] at s0 s1 s2 s3 s4 s5 s6
  exact bodyPost_ret (v := .tuple #[m.val, .int .i64 0]) (by simp [results, Try.results17, go_sem, s0, s1, s2, s3, s4, s5, s6, M.val]) rfl ⟨rfl, hQ3.out.2⟩
end Go.Proofs.Ytbalbachmeiehaa
