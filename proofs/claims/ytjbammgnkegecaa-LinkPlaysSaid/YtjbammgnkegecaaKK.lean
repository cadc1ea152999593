
/-
  A way that nobody made; the law of it.
-/
import Derived.Test.YtjbammgnkegecaaKJ
namespace Go.Proofs.Ytjbammgnkegecaa
open Go.ChangeShapes Go.WideShapes Go.ChangeAt Go.Shelf Go.RowKit Go.Lib Go.Sort Go.Deep
set_option linter.unusedVariables false
set_option maxRecDepth 4000

/-- A way that nobody made. -/
def NotMade (w : World) (q : Value) : Prop := q = .pointer none ∨ ∃ hb, q = .pointer (some ⟨hb, 0, none⟩) ∧ hb < w.heap.size ∧ w.cell? ⟨hb, 2, none⟩ = some (.int .i64 0)
theorem NotMade.below {w w' : World} {q : Value} (h : NotMade w q) (hb : Below w.heap.size w w') : NotMade w' q := by
  rcases h with rfl | ⟨b, rfl, h1, h2⟩
  · exact .inl rfl
  · exact .inr ⟨b, rfl, Nat.lt_of_lt_of_le h1 hb.size, (hb.cell (p := ⟨b, 2, none⟩) h1).trans h2⟩
theorem made_not {w : World} {q : Value} (h : NotMade w q) : Calls Try.prog 33 #[q] w fun e w' => e = .returned (.bool false) ∧ w = w' := by
  rcases h with rfl | ⟨b, rfl, _, h2⟩
  · go_enter Try.func33, Try.ntmps33
    go_wp2
    go_ret
    exact ⟨rfl, rfl⟩
  · go_enter Try.func33, Try.ntmps33
    go_wp2
    go_ret
    exact ⟨rfl, rfl⟩
theorem lkLen_not {w : World} {q : Value} (h : NotMade w q) : Calls Try.prog 21 #[q] w fun e w' => e = .returned (.int .i64 0) ∧ w = w' := by
  have hm := made_not h
  clear h
  go_enter Try.func21, Try.ntmps21
  go_wp2_with (go_at_call 33; refine hm.mono ?_; rintro e w' ⟨rfl, rfl⟩)
  go_ret
  exact ⟨rfl, rfl⟩
theorem lkRoom_not {w : World} {q : Value} (h : NotMade w q) : Calls Try.prog 17 #[q] w fun e w' => e = .returned (.int .i64 0) ∧ w = w' := by
  have hm := made_not h
  clear h
  go_enter Try.func17, Try.ntmps17
  go_wp2_with (go_at_call 33; refine hm.mono ?_; rintro e w' ⟨rfl, rfl⟩)
  go_ret
  exact ⟨rfl, rfl⟩
theorem lkLeast_not {w : World} {q : Value} (h : NotMade w q) : Calls Try.prog 19 #[q] w fun e w' => e = .returned (.int .i64 4611686018427387904) ∧ w = w' := by
  have hm := made_not h
  clear h
  go_enter Try.func19, Try.ntmps19
  go_wp2_with (go_at_call 33; refine hm.mono ?_; rintro e w' ⟨rfl, rfl⟩)
  go_ret
  exact ⟨rfl, rfl⟩
theorem lkAll_not {w : World} {q : Value} (h : NotMade w q) : Calls Try.prog 23 #[q] w fun e w' => e = .returned (.slice none 0 0) ∧ w = w' := by
  have hm := made_not h
  clear h
  go_enter Try.func23, Try.ntmps23
  go_wp2_with (go_at_call 33; refine hm.mono ?_; rintro e w' ⟨rfl, rfl⟩)
  go_ret
  exact ⟨rfl, rfl⟩
theorem place_not {w : World} {q : Value} (h : NotMade w q) (n : Int) : Calls Try.prog 30 #[q, .int .i64 n] w fun e w' => e = .returned (.tuple #[.int .i64 0, .int .i64 7]) ∧ w = w' := by
  have hm := made_not h
  clear h
  go_enter Try.func30, Try.ntmps30
  go_wp2_with (go_at_call 33; refine hm.mono ?_; rintro e w' ⟨rfl, rfl⟩)
  go_ret2
  exact ⟨rfl, rfl⟩
theorem refusal_not {w : World} {q : Value} (h : NotMade w q) (p : Pc) : Calls Try.prog 28 #[q, p.val] w fun e w' => e = .returned (.int .i64 7) ∧ Below w.heap.size w w' := by
  have hm := fun o => made_not (h.below ((Below.refl _ w).alloc (Nat.le_refl _) o))
  clear h
  unfold Pc.val
  go_enter Try.func28, Try.ntmps28
  go_wp2_with (go_at_call 33; refine (hm _).mono ?_; rintro e w' ⟨rfl, rfl⟩)
  go_ret
  exact ⟨rfl, (Below.refl _ w).alloc (Nat.le_refl _) _⟩
theorem put_not {w : World} {q : Value} (h : NotMade w q) (p : Pc) : Calls Try.prog 11 #[q, p.val] w fun e w' => e = .returned (.int .i64 7) ∧ Below w.heap.size w w' := by
  have hm := fun o => refusal_not (h.below ((Below.refl _ w).alloc (Nat.le_refl _) o)) p
  have hbb : Hid (∀ o w', Below (w.alloc o).heap.size (w.alloc o) w' → Below w.heap.size w w') := fun o w' h2 => ((Below.refl _ w).alloc (Nat.le_refl _) o).trans (h2.mono (by simp))
  clear h
  unfold Pc.val at hm ⊢
  go_enter Try.func11, Try.ntmps11
  go_wp2_with (go_at_call 28; refine (hm _).mono ?_; rintro e w' ⟨rfl, h2⟩; have h3 := Lib.hid (hbb.out _ w' h2); clear h2)
  go_ret
  exact ⟨rfl, h3.out⟩
set_option maxHeartbeats 1000000 in
theorem peek_not {w : World} {q : Value} (h : NotMade w q) (n : Int) : Calls Try.prog 13 #[q, .int .i64 n] w fun e w' => e = .returned (.tuple #[zeroP.val, .int .i64 7]) ∧ Below w.heap.size w w' := by
  have hp := fun o => place_not (h.below ((Below.refl _ w).alloc (Nat.le_refl _) o)) n
  clear h
  go_enter Try.func13, Try.ntmps13
  go_wp2_with (go_at_call 30; refine (hp _).mono ?_; rintro e w' ⟨rfl, rfl⟩)
  refine bodyPost_ret (v := .tuple #[.agg #[.int .i64 0, .int .i64 0, .int .i64 0, .int .i64 0, .int .i64 0, .int .i64 0, .bool false, .int .i64 0], .int .i64 7]) (by simp [results, Try.results13, go_sem]) rfl ⟨rfl, ?_⟩
  repeat (refine Below.setCell ?_ (by simp) _)
  exact (Below.refl _ w).alloc (Nat.le_refl _) _
set_option maxHeartbeats 1000000 in
theorem take_not {w : World} {q : Value} (h : NotMade w q) (n : Int) : Calls Try.prog 15 #[q, .int .i64 n] w fun e w' => e = .returned (.tuple #[zeroP.val, .int .i64 7]) ∧ Below w.heap.size w w' := by
  have hp := fun o => place_not (h.below ((Below.refl _ w).alloc (Nat.le_refl _) o)) n
  clear h
  go_enter Try.func15, Try.ntmps15
  go_wp2_with (go_at_call 30; refine (hp _).mono ?_; rintro e w' ⟨rfl, rfl⟩)
  refine bodyPost_ret (v := .tuple #[.agg #[.int .i64 0, .int .i64 0, .int .i64 0, .int .i64 0, .int .i64 0, .int .i64 0, .bool false, .int .i64 0], .int .i64 7]) (by simp [results, Try.results15, go_sem]) rfl ⟨rfl, ?_⟩
  repeat (refine Below.setCell ?_ (by simp) _)
  exact (Below.refl _ w).alloc (Nat.le_refl _) _

theorem zeroP_val : zeroP.val = .agg #[.int .i64 0, .int .i64 0, .int .i64 0, .int .i64 0, .int .i64 0, .int .i64 0, .bool false, .int .i64 0] := rfl
set_option maxHeartbeats 4000000 in
set_option maxRecDepth 100000 in
theorem lawLinkZero (p : Pc) (hp : p.fits) (n : Int) (hn : (Lit.int .i64 n).wf = true) (w : World) : Calls Try.prog 7 #[p.val, .int .i64 n] w fun e w' => e = .returned (.bool true) ∧ Below w.heap.size w w' := by
  have hW0' : Hid ((w.alloc (.cells #[.int .i64 p.m.k.t, .int .i64 p.m.k.f, .int .i64 p.m.k.s, .int .i64 p.m.to, .int .i64 p.m.v, .int .i64 p.m.u, .bool p.m.anti, .int .i64 p.c] 37)).alloc (.cells #[.int .i64 0, .int .i64 0, .int .i64 0, .nilFunc, .slice none 0 0] 66) = (w.alloc (.cells p.cells 37)).alloc (.cells #[.int .i64 0, .int .i64 0, .int .i64 0, .nilFunc, .slice none 0 0] 66)) := rfl
  have hB1 : Hid (Below w.heap.size w ((w.alloc (.cells p.cells 37)).alloc (.cells #[.int .i64 0, .int .i64 0, .int .i64 0, .nilFunc, .slice none 0 0] 66))) := ((Below.refl _ w).alloc (Nat.le_refl _) _).alloc (by simp) _
  have hN1 : Hid (NotMade ((w.alloc (.cells p.cells 37)).alloc (.cells #[.int .i64 0, .int .i64 0, .int .i64 0, .nilFunc, .slice none 0 0] 66)) (.pointer (some ⟨w.heap.size + 1, 0, none⟩))) := .inr ⟨_, rfl, by simp, by simp⟩
  have hM1 : Hid (BoxP ((w.alloc (.cells p.cells 37)).alloc (.cells #[.int .i64 0, .int .i64 0, .int .i64 0, .nilFunc, .slice none 0 0] 66)) w.heap.size p) := (BoxP.mk w p).below ((Below.refl _ _).alloc (Nat.le_refl _) _)
  have hpk := fun w' => peek_not (w := w') (q := .pointer none) (.inl rfl) n
  have hpn := fun w' => put_not (w := w') (q := .pointer none) (.inl rfl) p
  have hrn := fun w' => lkRoom_not (w := w') (q := .pointer none) (.inl rfl)
  have han := fun w' => lkAll_not (w := w') (q := .pointer none) (.inl rfl)
  generalize hb : w.heap.size + 1 = hb1 at *
  have htk := Lib.hid (fun w' (h : NotMade w' (.pointer (some ⟨hb1, 0, none⟩))) => zeroP_val ▸ take_not h n)
  have hpm := Lib.hid (fun w' (h : NotMade w' (.pointer (some ⟨hb1, 0, none⟩))) => put_not h p)
  have hlm := Lib.hid (fun w' (h : NotMade w' (.pointer (some ⟨hb1, 0, none⟩))) => lkLeast_not h)
  have hnm := Lib.hid (fun w' (h : NotMade w' (.pointer (some ⟨hb1, 0, none⟩))) => lkLen_not h)
  have hb' := Lib.hid hb
  clear hb hp
  unfold Pc.val at hpn hpm ⊢
  have hpk2 := hpk
  simp only [zeroP_val] at hpk2
  clear hpk
  go_enter Try.func7, Try.ntmps7
  go_upto_region 3 with (fail)
  rw [hb'.out, hW0'.out]
  generalize (w.alloc (.cells p.cells 37)).alloc (.cells #[.int .i64 0, .int .i64 0, .int .i64 0, .nilFunc, .slice none 0 0] 66) = W0 at *
  go_upto_region 4 with (go_at_call 13; refine (hpk2 _).mono ?_; rintro e w3 ⟨rfl, hb3⟩; have hb3' := Lib.hid hb3; clear hb3)
  have hB3 : Hid (Below W0.heap.size W0 (w3.alloc (.cells #[.int .i64 0, .int .i64 0, .int .i64 0, .int .i64 0, .int .i64 0, .int .i64 0, .bool false, .int .i64 0] 37))) := hb3'.out.alloc hb3'.out.size _
  generalize w3.alloc (.cells #[.int .i64 0, .int .i64 0, .int .i64 0, .int .i64 0, .int .i64 0, .int .i64 0, .bool false, .int .i64 0] 37) = W3 at *
  have htk3 := htk.out W3 (hN1.out.below hB3.out)
  go_upto_region 5 with (go_at_call 15; refine htk3.mono ?_; rintro e w4 ⟨rfl, hb4⟩; have hb4' := Lib.hid hb4; clear hb4)
  have hB4 : Hid (Below W0.heap.size W0 (w4.alloc (.cells #[.int .i64 0, .int .i64 0, .int .i64 0, .int .i64 0, .int .i64 0, .int .i64 0, .bool false, .int .i64 0] 37))) := (hB3.out.trans (hb4'.out.mono hB3.out.size)).alloc (Nat.le_trans hB3.out.size hb4'.out.size) _
  generalize w4.alloc (.cells #[.int .i64 0, .int .i64 0, .int .i64 0, .int .i64 0, .int .i64 0, .int .i64 0, .bool false, .int .i64 0] 37) = W4 at *
  clear htk htk3 hpk2 hb3' hb4' hB3
  have hst : Hid (∀ W, Below W0.heap.size W0 W → PcAt W w.heap.size 0 p ∧ NotMade W (.pointer (some ⟨hb1, 0, none⟩))) := Lib.hid (fun W hW => ⟨(hM1.out.below hW).at, hN1.out.below hW⟩)
  obtain ⟨⟨x0, x1, x2, x3, x4, x5, x6, x7⟩, -⟩ := hst.out W4 hB4.out
  simp only [Nat.zero_add] at x0 x1 x2 x3 x4 x5 x6 x7
  clear hM1 hN1
  go_wp2_with (first
    | (go_at_call 11; (with_reducible refine (hpn _).mono ?_); rintro e w6 ⟨rfl, hb6⟩; have hB6 := hB4.out.trans (hb6.mono hB4.out.size); have hQ6 := hpm.out w6 (hst.out w6 hB6).2; have hB6' := Lib.hid hB6; clear hb6 hB6; obtain ⟨y0, y1, y2, y3, y4, y5, y6, y7⟩ := (hst.out w6 hB6'.out).1; simp only [Nat.zero_add] at y0 y1 y2 y3 y4 y5 y6 y7)
    | (go_at_call 11; (with_reducible refine hQ6.mono ?_); rintro e w7 ⟨rfl, hb7⟩; have hB7 := hB6'.out.trans (hb7.mono hB6'.out.size); have hL7 := hlm.out w7 (hst.out w7 hB7).2; have hn7 := hnm.out w7 (hst.out w7 hB7).2; have hB7' := Lib.hid hB7; clear hb7 hB7)
    | (go_at_call 17; refine (hrn _).mono ?_; rintro e w8 ⟨rfl, rfl⟩)
    | (go_at_call 19; refine hL7.mono ?_; rintro e w8 ⟨rfl, rfl⟩)
    | (go_at_call 23; refine (han _).mono ?_; rintro e w8 ⟨rfl, rfl⟩)
    | (go_at_call 21; refine hn7.mono ?_; rintro e w8 ⟨rfl, rfl⟩))
  go_ret
  exact ⟨rfl, hB1.out.trans (hB7'.out.mono hB1.out.size)⟩
end Go.Proofs.Ytjbammgnkegecaa
