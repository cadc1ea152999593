
/-
  The document's own tallies: Sent, Got, Flip.
-/
import Derived.Test.YtobfjfmaicmkdaaUG
namespace Go.Proofs.Ytobfjfmaicmkdaa
open Go.ChangeShapes Go.WideShapes Go.ChangeAt Go.Shelf Go.RowKit Go.Lib Go.Sort Go.Deep Col
set_option linter.unusedVariables false
set_option maxRecDepth 4000
set_option linter.unusedSimpArgs false
section
variable {w w' : World} {b g : Nat} {S X : Nat → Prop} {t : Ta}
set_option maxHeartbeats 2000000 in
theorem rcSent_any (h : DTaAt w b S t) (ho : Ta.ok t) (a : Int) : Calls Try.prog 13 #[.pointer (some ⟨b, 0, none⟩), .int .i64 a] w fun e w' => e = .returned (.int .i64 (colI t.c)) ∧ Hid (∃ S', DTaAt w' b S' (t.sent a) ∧ CStep w w' S S') := by
  have mixed := mixed
  obtain ⟨g, h⟩ := h
  obtain ⟨c, n0, n1, red⟩ := t
  obtain ⟨⟨o1, o2⟩, o3, o4⟩ := ho
  dsimp only at o1 o2 o3 o4
  cases c with
  | false =>
    show Calls _ _ _ _ fun e w' => e = .returned (.int .i64 0) ∧ Hid (∃ S', DTaAt w' b S' ⟨false, n0 + 1, n1, min red a⟩ ∧ CStep w w' S S')
    have h0 := h.below (Below.refl _ w).drew
    have hk0 : Hid (KeptOff S w w.drew) := KeptOff.of_below (Below.refl _ w).drew
    have hw : IntKind.i64.wrap (n0 + 1) = n0 + 1 := IntWalk.i64_in _ (by omega)
    have hA : Hid (∀ W : World, DRow W b g S ⟨false, n0, n1, red⟩ → DRow (W.setCell ⟨g, 0, none⟩ (.int .i64 (n0 + 1))) b g S ⟨false, n0 + 1, n1, red⟩ ∧ KeptOff S W (W.setCell ⟨g, 0, none⟩ (.int .i64 (n0 + 1)))) := Lib.hid (fun W h => h.setG 0 _ rfl rfl rfl)
    have hB : Hid (∀ W : World, DRow W b g S ⟨false, n0 + 1, n1, red⟩ → DRow (W.setCell ⟨b, 2, none⟩ (.int .i64 (min red a))) b g S ⟨false, n0 + 1, n1, min red a⟩ ∧ KeptOff S W (W.setCell ⟨b, 2, none⟩ (.int .i64 (min red a)))) := Lib.hid (fun W h => h.setB 2 _ rfl rfl rfl)
    have c0 := h0.c
    have c1 := h0.v
    have cn := h0.n0
    have fg := h0.fg 0
    simp only [colI, Bool.false_eq_true, if_false, if_true] at c0 cn
    have hh := Lib.hid h0
    clear h h0 o1 o2 o3 o4
    go_enter Try.func13, Try.ntmps13
    go_upto_region 1 with fail
    refine wp_region_still_tail 12 (by kernel_rfl) (by kernel_rfl) ?_
    change wpStill _ _ (w).drew (fun a' => wpList _ _ _ _ a' (w).drew) _ _
    generalize (w).drew = W1 at *
    simp only [List.take_succ_cons, List.take_zero, List.drop_succ_cons, List.drop_zero]
    repeat still_step
    refine wpStill_nil ?_
    go_upto_region 2 with fail
    have h1 := hA.out W1 hh.out
    have hk1 : Hid (KeptOff S w (W1.setCell ⟨g, 0, none⟩ (.int .i64 (n0 + 1)))) := hk0.out.trans h1.2
    have h2 := h1.1
    have hk2 := hk1
    clear c0 c1 cn fg h1 hk0 hk1 hh hA
    generalize W1.setCell ⟨g, 0, none⟩ (.int .i64 (n0 + 1)) = W2 at *
    have c2 := h2.r
    have f2 := h2.fb 2
    simp only at c2
    have hh2 := Lib.hid h2
    clear h2
    go_upto_region 3 with fail
    have h3 := hB.out W2 hh2.out
    have hk3 : Hid (KeptOff S w (W2.setCell ⟨b, 2, none⟩ (.int .i64 (min red a)))) := hk2.out.trans h3.2
    clear c2 f2 hh2 hk2 hB
    generalize W2.setCell ⟨b, 2, none⟩ (.int .i64 (min red a)) = W4 at *
    have c3 := h3.1.c
    simp only [colI, Bool.false_eq_true, if_false, if_true] at c3
    have hh3 := Lib.hid h3.1
    clear h3
    go_wp2
    go_ret
    exact ⟨rfl, S, ⟨g, hh3.out⟩, hk3.out, fun k e => .inl e⟩
  | true =>
    show Calls _ _ _ _ fun e w' => e = .returned (.int .i64 1) ∧ Hid (∃ S', DTaAt w' b S' ⟨true, n0, n1 + 1, min red a⟩ ∧ CStep w w' S S')
    have h0 := h.below (Below.refl _ w).drew
    have hk0 : Hid (KeptOff S w w.drew) := KeptOff.of_below (Below.refl _ w).drew
    have hw : IntKind.i64.wrap (n1 + 1) = n1 + 1 := IntWalk.i64_in _ (by omega)
    have hA : Hid (∀ W : World, DRow W b g S ⟨true, n0, n1, red⟩ → DRow (W.setCell ⟨g, 1, none⟩ (.int .i64 (n1 + 1))) b g S ⟨true, n0, n1 + 1, red⟩ ∧ KeptOff S W (W.setCell ⟨g, 1, none⟩ (.int .i64 (n1 + 1)))) := Lib.hid (fun W h => h.setG 1 _ rfl rfl rfl)
    have hB : Hid (∀ W : World, DRow W b g S ⟨true, n0, n1 + 1, red⟩ → DRow (W.setCell ⟨b, 2, none⟩ (.int .i64 (min red a))) b g S ⟨true, n0, n1 + 1, min red a⟩ ∧ KeptOff S W (W.setCell ⟨b, 2, none⟩ (.int .i64 (min red a)))) := Lib.hid (fun W h => h.setB 2 _ rfl rfl rfl)
    have c0 := h0.c
    have c1 := h0.v
    have cn := h0.n1
    have fg := h0.fg 1
    simp only [colI, Bool.false_eq_true, if_false, if_true] at c0 cn
    have hh := Lib.hid h0
    clear h h0 o1 o2 o3 o4
    go_enter Try.func13, Try.ntmps13
    go_upto_region 1 with fail
    refine wp_region_still_tail 12 (by kernel_rfl) (by kernel_rfl) ?_
    change wpStill _ _ (w).drew (fun a' => wpList _ _ _ _ a' (w).drew) _ _
    generalize (w).drew = W1 at *
    simp only [List.take_succ_cons, List.take_zero, List.drop_succ_cons, List.drop_zero]
    repeat still_step
    refine wpStill_nil ?_
    go_upto_region 2 with fail
    have h1 := hA.out W1 hh.out
    have hk1 : Hid (KeptOff S w (W1.setCell ⟨g, 1, none⟩ (.int .i64 (n1 + 1)))) := hk0.out.trans h1.2
    have h2 := h1.1
    have hk2 := hk1
    clear c0 c1 cn fg h1 hk0 hk1 hh hA
    generalize W1.setCell ⟨g, 1, none⟩ (.int .i64 (n1 + 1)) = W2 at *
    have c2 := h2.r
    have f2 := h2.fb 2
    simp only at c2
    have hh2 := Lib.hid h2
    clear h2
    go_upto_region 3 with fail
    have h3 := hB.out W2 hh2.out
    have hk3 : Hid (KeptOff S w (W2.setCell ⟨b, 2, none⟩ (.int .i64 (min red a)))) := hk2.out.trans h3.2
    clear c2 f2 hh2 hk2 hB
    generalize W2.setCell ⟨b, 2, none⟩ (.int .i64 (min red a)) = W4 at *
    have c3 := h3.1.c
    simp only [colI, Bool.false_eq_true, if_false, if_true] at c3
    have hh3 := Lib.hid h3.1
    clear h3
    go_wp2
    go_ret
    exact ⟨rfl, S, ⟨g, hh3.out⟩, hk3.out, fun k e => .inl e⟩
set_option maxHeartbeats 2000000 in
theorem rcGot_any (h : DTaAt w b S t) (ho : Ta.ok t) (q : Int) : Calls Try.prog 15 #[.pointer (some ⟨b, 0, none⟩), .int .i64 q] w fun e w' => e = .returned (.int .i64 (gotC q)) ∧ Hid (∃ S', DTaAt w' b S' (gotT t q) ∧ CStep w w' S S') := by
  have mixed := mixed
  have hsame := Lib.hid h
  obtain ⟨g, h⟩ := h
  obtain ⟨c, n0, n1, red⟩ := t
  obtain ⟨⟨o1, o2⟩, o3, o4⟩ := ho
  dsimp only at o1 o2 o3 o4
  unfold gotC gotT
  by_cases h0 : q = 0
  · subst h0
    rw [if_pos (.inl rfl), if_pos rfl]
    show Calls _ _ _ _ fun e w' => e = .returned (.int .i64 0) ∧ Hid (∃ S', DTaAt w' b S' ⟨c, n0 - 1, n1, red⟩ ∧ CStep w w' S S')
    have hw : IntKind.i64.wrap (n0 - 1) = n0 - 1 := IntWalk.i64_in _ (by omega)
    have hA := h.setG 0 (.int .i64 (n0 - 1)) (t' := ⟨c, n0 - 1, n1, red⟩) rfl rfl rfl
    have hf : Hid (∃ S', DTaAt (w.setCell ⟨g, 0, none⟩ (.int .i64 (n0 - 1))) b S' ⟨c, n0 - 1, n1, red⟩ ∧ CStep w (w.setCell ⟨g, 0, none⟩ (.int .i64 (n0 - 1))) S S') := ⟨S, ⟨g, hA.1⟩, hA.2, fun k e => .inl e⟩
    have c1 := h.v
    have cn := h.n0
    have fg := h.fg 0
    simp only at cn
    clear h hA o1 o2 o3 o4
    go_enter Try.func15, Try.ntmps15
    go_wp2
    go_ret
    exact ⟨rfl, hf⟩
  · by_cases h1 : q = 1
    · subst h1
      rw [if_pos (.inr rfl), if_neg h0, if_pos rfl]
      show Calls _ _ _ _ fun e w' => e = .returned (.int .i64 0) ∧ Hid (∃ S', DTaAt w' b S' ⟨c, n0, n1 - 1, red⟩ ∧ CStep w w' S S')
      have hw : IntKind.i64.wrap (n1 - 1) = n1 - 1 := IntWalk.i64_in _ (by omega)
      have hA := h.setG 1 (.int .i64 (n1 - 1)) (t' := ⟨c, n0, n1 - 1, red⟩) rfl rfl rfl
      have hf : Hid (∃ S', DTaAt (w.setCell ⟨g, 1, none⟩ (.int .i64 (n1 - 1))) b S' ⟨c, n0, n1 - 1, red⟩ ∧ CStep w (w.setCell ⟨g, 1, none⟩ (.int .i64 (n1 - 1))) S S') := ⟨S, ⟨g, hA.1⟩, hA.2, fun k e => .inl e⟩
      have c1 := h.v
      have cn := h.n1
      have fg := h.fg 1
      simp only at cn
      clear h hA o1 o2 o3 o4
      go_enter Try.func15, Try.ntmps15
      go_wp2
      go_ret
      exact ⟨rfl, hf⟩
    · rw [if_neg (by omega), if_neg h0, if_neg h1]
      have hf : Hid (∃ S', DTaAt w b S' ⟨c, n0, n1, red⟩ ∧ CStep w w S S') := ⟨S, hsame.out, CStep.of_below (Below.refl _ _)⟩
      clear h hsame o1 o2 o3 o4
      by_cases h2 : q < 0
      · go_enter Try.func15, Try.ntmps15
        go_wp2
        go_ret
        exact ⟨rfl, hf⟩
      · have h3 : 1 < q := by omega
        go_enter Try.func15, Try.ntmps15
        go_wp2
        go_ret
        exact ⟨rfl, hf⟩
set_option maxHeartbeats 2000000 in
theorem rcFlip_any (h : DTaAt w b S t) : Calls Try.prog 16 #[.pointer (some ⟨b, 0, none⟩)] w fun e w' => e = .returned (.tuple #[]) ∧ Hid (∃ S', DTaAt w' b S' t.flip ∧ CStep w w' S S') := by
  have mixed := mixed
  obtain ⟨g, h⟩ := h
  obtain ⟨c, n0, n1, red⟩ := t
  cases c with
  | false =>
    have hf : Hid (∃ S', DTaAt ((w.setCell ⟨b, 0, none⟩ (.int .i64 1)).setCell ⟨b, 2, none⟩ (.int .i64 4611686018427387904)) b S' (Ta.flip ⟨false, n0, n1, red⟩) ∧ CStep w ((w.setCell ⟨b, 0, none⟩ (.int .i64 1)).setCell ⟨b, 2, none⟩ (.int .i64 4611686018427387904)) S S') := by
      have h1 := h.setB 0 (.int .i64 1) (t' := ⟨!false, n0, n1, red⟩) rfl rfl rfl
      have h2 := h1.1.setB 2 (.int .i64 4611686018427387904) (t' := Ta.flip ⟨false, n0, n1, red⟩) rfl rfl rfl
      exact ⟨S, ⟨g, h2.1⟩, h1.2.trans h2.2, fun k e => .inl e⟩
    have c0 := h.c
    have c2 := h.r
    have f0 := h.fb 0
    have f2 := h.fb 2
    simp only [colI, Bool.false_eq_true, if_false, if_true] at c0
    clear h
    go_enter Try.func16, Try.ntmps16
    go_wp2
    go_end0
    exact ⟨rfl, hf⟩
  | true =>
    have hf : Hid (∃ S', DTaAt ((w.setCell ⟨b, 0, none⟩ (.int .i64 0)).setCell ⟨b, 2, none⟩ (.int .i64 4611686018427387904)) b S' (Ta.flip ⟨true, n0, n1, red⟩) ∧ CStep w ((w.setCell ⟨b, 0, none⟩ (.int .i64 0)).setCell ⟨b, 2, none⟩ (.int .i64 4611686018427387904)) S S') := by
      have h1 := h.setB 0 (.int .i64 0) (t' := ⟨!true, n0, n1, red⟩) rfl rfl rfl
      have h2 := h1.1.setB 2 (.int .i64 4611686018427387904) (t' := Ta.flip ⟨true, n0, n1, red⟩) rfl rfl rfl
      exact ⟨S, ⟨g, h2.1⟩, h1.2.trans h2.2, fun k e => .inl e⟩
    have c0 := h.c
    have c2 := h.r
    have f0 := h.fb 0
    have f2 := h.fb 2
    simp only [colI, Bool.false_eq_true, if_false, if_true] at c0
    clear h
    go_enter Try.func16, Try.ntmps16
    go_wp2
    go_end0
    exact ⟨rfl, hf⟩
end
end Go.Proofs.Ytobfjfmaicmkdaa
