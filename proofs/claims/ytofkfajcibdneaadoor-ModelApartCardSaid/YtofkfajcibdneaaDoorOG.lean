/-
  The program's Check of a model: its parts in their order; what is answered for an error.
-/
import Derived.Test.YtofkfajcibdneaaDoorOF
namespace Go.Proofs.YtofkfajcibdneaaDoor
open Go.ChangeShapes Go.WideShapes Go.ChangeAt Go.Shelf Go.RowKit Go.Lib Go.Sort Go.Deep
set_option linter.unusedVariables false
set_option linter.unusedSimpArgs false
set_option maxRecDepth 4000

theorem says_ok {f : FuncId} {args : Array Value} {w : World} {p : Prop} (h : Calls Tryd.prog f args w fun e w' => ∃ u, e = .returned u ∧ Says p u ∧ Hid (Below w.heap.size w w')) (hp : p) : Calls Tryd.prog f args w fun e w' => e = .returned .nilIface ∧ Hid (Below w.heap.size w w') := by
  refine h.mono ?_
  rintro e w' ⟨u, rfl, hs, hb⟩
  rcases hs with ⟨-, rfl⟩ | ⟨hn, -⟩
  · exact ⟨rfl, hb⟩
  · exact absurd hp hn
theorem says_no {f : FuncId} {args : Array Value} {w : World} {p : Prop} (h : Calls Tryd.prog f args w fun e w' => ∃ u, e = .returned u ∧ Says p u ∧ Hid (Below w.heap.size w w')) (hp : ¬ p) : Calls Tryd.prog f args w fun e w' => ∃ t x, e = .returned (.iface t x) ∧ Hid (Below w.heap.size w w') := by
  refine h.mono ?_
  rintro e w' ⟨u, rfl, hs, hb⟩
  rcases hs with ⟨h, -⟩ | ⟨-, t, x, rfl⟩
  · exact absurd h hp
  · exact ⟨t, x, rfl, hb⟩
/-- The parts of a model, as they lie. -/
def partsC : Array Value := #[.int .i64 1, .func (.func 49) #[] #[], .int .i64 130, .func (.func 50) #[] #[], .int .i64 131, .func (.func 51) #[] #[], .int .i64 132, .func (.func 52) #[] #[]]
theorem mdParts_any (w : World) : Calls Tryd.prog 38 #[] w fun e w' => e = .returned (.slice (some ⟨w.heap.size, 0, none⟩) 4 4) ∧ w' = w.alloc (.cells partsC 80) := by
  go_enter Tryd.func38, Tryd.ntmps38
  go_wp2
  go_ret
  exact ⟨rfl, rfl⟩
/-- What a model's flaw is. -/
def FlawIs (M : Md) (u : Value) : Prop := (checkM M = 0 ∧ u = .nilIface) ∨ (checkM M ≠ 0 ∧ ∃ t x, u = .iface 73 (.agg #[.int .i64 (checkM M), .iface t x]))
set_option maxHeartbeats 8000000 in
set_option maxRecDepth 100000 in
theorem mdFlawOf_any {w : World} {v : Mv} {M : Md} (h : Mds w v M) (hL : Laid13 w) : Calls Tryd.prog 21 #[v.val M] w fun e w' => ∃ u, e = .returned u ∧ FlawIs M u ∧ Hid (Below w.heap.size w w') := by
  have mixed := mixed
  obtain ⟨pa, pl, pc, la, ll, lc, sa, sl, sc⟩ := v
  have hbx := Lib.hid h.box
  have hbW : Hid (Below w.heap.size w (w.alloc (.cells (Mv.cells ⟨pa, pl, pc, la, ll, lc, sa, sl, sc⟩ M) 27))) := (Below.refl _ w).alloc (Nat.le_refl _) _
  have hL1 := Lib.hid (hL.below hbW.out)
  clear h hL
  have hk1 := Lib.hid (@checkM_arg M)
  have hk2 := Lib.hid (@checkM_progs M)
  have hk3 := Lib.hid (@checkM_links M)
  have hk4 := Lib.hid (@checkM_starts M)
  have hk5 := Lib.hid (@checkM_ok M)
  obtain ⟨q, hq⟩ : ∃ q, Hid (q = FlawIs M) := ⟨_, Lib.hid rfl⟩
  rw [← hq.out]
  have hno : Hid (∀ n, checkM M = n → n ≠ 0 → ∀ t x, q (.iface 73 (.agg #[.int .i64 n, .iface t x]))) := Lib.hid (fun n hn h0 t x => by rw [hq.out]; exact .inr ⟨by rw [hn]; exact h0, t, x, by rw [hn]⟩)
  have hyes : Hid (checkM M = 0 → q .nilIface) := Lib.hid (fun hy => by rw [hq.out]; exact .inl ⟨hy, rfl⟩)
  clear hq
  simp only [Mv.val, Mv.cells] at hbx hbW hL1 ⊢
  go_enter Tryd.func21, Tryd.ntmps21
  go_upto_region 1 with fail
  generalize w.heap.size = B at hbx ⊢
  generalize w.alloc _ = W at *
  have hp := Lib.hid (mdParts_any W)
  have hP0 := Lib.hid (heap_alloc_new W (.cells partsC 80))
  have hbP := Lib.hid ((Below.refl _ W).alloc (Nat.le_refl _) (.cells partsC 80))
  go_wp2_with (go_at_call 38; refine hp.out.mono ?_; rintro e w2 ⟨rfl, hw2⟩; subst hw2)
  clear hp
  generalize W.alloc _ = W2 at *
  generalize W.heap.size = P at hP0 ⊢
  go_loopw [8] (fun s8 wr => ∃ z : Int, (z = 0 ∨ z = 1 ∨ z = 2 ∨ z = 3 ∨ z = 4) ∧ s8 = .int .i64 z ∧ Hid (Below W2.heap.size W2 wr) ∧ Hid ((1 ≤ z → okArg M) ∧ (2 ≤ z → okProgs M) ∧ (3 ≤ z → okLinks M) ∧ (4 ≤ z → okStarts M))) (fun s8 _ => (4 - intOf s8).toNat)
  case atStart => exact ⟨0, .inl rfl, rfl, Below.refl _ _, Lib.hid ⟨fun e => by omega, fun e => by omega, fun e => by omega, fun e => by omega⟩⟩
  case round =>
    obtain ⟨z, hz, rfl, hbr, hup⟩ := hrel
    have hPr := Lib.hid ((hbr.out.block P (Array.getElem?_eq_some_iff.1 hP0.out).1).trans hP0.out)
    have hb1 : Hid (Below w.heap.size w wr) := (by have h1 := hbW.out.trans (hbP.out.mono hbW.out.size); exact h1.trans (hbr.out.mono h1.size))
    rcases hz with rfl | rfl | rfl | rfl | rfl
    · have c0 : wr.cell? ⟨P, 0, none⟩ = some (.int .i64 1) := cell_of_block (o := 0) hPr.out rfl
      have c1 : wr.cell? ⟨P, 1, none⟩ = some (.func (.func 49) #[] #[]) := cell_of_block (o := 1) hPr.out rfl
      have hna := Lib.hid (heap_alloc_new wr (.cells #[.int .i64 1, .func (.func 49) #[] #[]] 80))
      have hb2 := Lib.hid (hbr.out.alloc hbr.out.size (.cells #[.int .i64 1, .func (.func 49) #[] #[]] 80))
      go_upto_region 4 with fail
      generalize wr.alloc _ = W3 at *
      generalize wr.heap.size = Bl at *
      clear c0 c1 hPr
      have hbx3 := Lib.hid (hbx.out.below (hbP.out.trans (hb2.out.mono hbP.out.size)))
      have hL3 := Lib.hid (hL1.out.below (hbP.out.trans (hb2.out.mono hbP.out.size)))
      have hcall := Lib.hid (mdBounds_any hbx3.out.2 hL3.out)
      have y0 := cell_of_block (o := 0) hna.out rfl
      have y1 := cell_of_block (o := 1) hna.out rfl
      have d0 := hbx3.out.c0
      have d1 := hbx3.out.c1
      have d2 := hbx3.out.c2
      have d3 := hbx3.out.c3
      have d4 := hbx3.out.c4
      have d5 := hbx3.out.c5
      dsimp only at d0 d1 d2
      simp only [Mv.val, Mv.cells] at hcall
      by_cases hok : okArg M
      · have hcall2 := Lib.hid (says_ok hcall.out hok)
        have hup2 : Hid ((1 ≤ (1 : Int) → okArg M) ∧ (2 ≤ (1 : Int) → okProgs M) ∧ (3 ≤ (1 : Int) → okLinks M) ∧ (4 ≤ (1 : Int) → okStarts M)) := Lib.hid ⟨fun _ => hok, fun e => absurd e (by omega), fun e => absurd e (by omega), fun e => absurd e (by omega)⟩
        clear hok hno hyes hk1 hk2 hk3 hk4 hk5 hcall
        go_wp2_with (go_at_call 49; refine hcall2.out.mono ?_; rintro e w4 ⟨rfl, hr4⟩; have hb4 : Hid (Below W2.heap.size W2 w4) := hb2.out.trans (hr4.out.mono hb2.out.size))
        go_roundw
        case rel => (repeat apply Exists.intro); first | exact ⟨⟨.inr (.inl rfl), rfl, hb4, hup2⟩, rfl⟩ | exact ⟨.inr (.inl rfl), rfl, hb4, hup2⟩ | exact ⟨.inr (.inl rfl), rfl, hb4, hup2, rfl⟩
        case measure => simp [intOf]
      · have hcall2 := Lib.hid (says_no hcall.out hok)
        have hfin := Lib.hid (hno.out 1 (hk1.out hok) (by omega))
        clear hok hno hyes hk1 hk2 hk3 hk4 hk5 hcall
        go_wp2_with (go_at_call 49; refine hcall2.out.mono ?_; rintro e w4 ⟨t, x, rfl, hr4⟩; have y2 := cell_of_block (o := 0) ((hr4.out.block Bl (Array.getElem?_eq_some_iff.1 hna.out).1).trans hna.out) rfl; have hb4 : Hid (Below w.heap.size w w4) := (by have h1 := hbW.out.trans (hbP.out.mono hbW.out.size); have h2 := h1.trans (hb2.out.mono h1.size); exact h2.trans (hr4.out.mono h2.size)))
        go_ret
        exact ⟨_, rfl, hfin.out _ _, hb4⟩
    · have c0 : wr.cell? ⟨P, 2, none⟩ = some (.int .i64 130) := cell_of_block (o := 2) hPr.out rfl
      have c1 : wr.cell? ⟨P, 3, none⟩ = some (.func (.func 50) #[] #[]) := cell_of_block (o := 3) hPr.out rfl
      have hna := Lib.hid (heap_alloc_new wr (.cells #[.int .i64 130, .func (.func 50) #[] #[]] 80))
      have hb2 := Lib.hid (hbr.out.alloc hbr.out.size (.cells #[.int .i64 130, .func (.func 50) #[] #[]] 80))
      go_upto_region 4 with fail
      generalize wr.alloc _ = W3 at *
      generalize wr.heap.size = Bl at *
      clear c0 c1 hPr
      have hbx3 := Lib.hid (hbx.out.below (hbP.out.trans (hb2.out.mono hbP.out.size)))
      have hL3 := Lib.hid (hL1.out.below (hbP.out.trans (hb2.out.mono hbP.out.size)))
      have hcall := Lib.hid (mdProgs_any hbx3.out.2 hL3.out)
      have y0 := cell_of_block (o := 0) hna.out rfl
      have y1 := cell_of_block (o := 1) hna.out rfl
      have d0 := hbx3.out.c0
      have d1 := hbx3.out.c1
      have d2 := hbx3.out.c2
      have d3 := hbx3.out.c3
      have d4 := hbx3.out.c4
      have d5 := hbx3.out.c5
      dsimp only at d0 d1 d2
      simp only [Mv.val, Mv.cells] at hcall
      by_cases hok : okProgs M
      · have hcall2 := Lib.hid (says_ok hcall.out hok)
        have hup2 : Hid ((1 ≤ (2 : Int) → okArg M) ∧ (2 ≤ (2 : Int) → okProgs M) ∧ (3 ≤ (2 : Int) → okLinks M) ∧ (4 ≤ (2 : Int) → okStarts M)) := Lib.hid ⟨fun _ => hup.out.1 (by omega), fun _ => hok, fun e => absurd e (by omega), fun e => absurd e (by omega)⟩
        clear hok hno hyes hk1 hk2 hk3 hk4 hk5 hcall
        go_wp2_with (go_at_call 50; refine hcall2.out.mono ?_; rintro e w4 ⟨rfl, hr4⟩; have hb4 : Hid (Below W2.heap.size W2 w4) := hb2.out.trans (hr4.out.mono hb2.out.size))
        go_roundw
        case rel => (repeat apply Exists.intro); first | exact ⟨⟨.inr (.inr (.inl rfl)), rfl, hb4, hup2⟩, rfl⟩ | exact ⟨.inr (.inr (.inl rfl)), rfl, hb4, hup2⟩ | exact ⟨.inr (.inr (.inl rfl)), rfl, hb4, hup2, rfl⟩
        case measure => simp [intOf]
      · have hcall2 := Lib.hid (says_no hcall.out hok)
        have hfin := Lib.hid (hno.out 130 (hk2.out (hup.out.1 (by omega)) hok) (by omega))
        clear hok hno hyes hk1 hk2 hk3 hk4 hk5 hcall
        go_wp2_with (go_at_call 50; refine hcall2.out.mono ?_; rintro e w4 ⟨t, x, rfl, hr4⟩; have y2 := cell_of_block (o := 0) ((hr4.out.block Bl (Array.getElem?_eq_some_iff.1 hna.out).1).trans hna.out) rfl; have hb4 : Hid (Below w.heap.size w w4) := (by have h1 := hbW.out.trans (hbP.out.mono hbW.out.size); have h2 := h1.trans (hb2.out.mono h1.size); exact h2.trans (hr4.out.mono h2.size)))
        go_ret
        exact ⟨_, rfl, hfin.out _ _, hb4⟩
    · have c0 : wr.cell? ⟨P, 4, none⟩ = some (.int .i64 131) := cell_of_block (o := 4) hPr.out rfl
      have c1 : wr.cell? ⟨P, 5, none⟩ = some (.func (.func 51) #[] #[]) := cell_of_block (o := 5) hPr.out rfl
      have hna := Lib.hid (heap_alloc_new wr (.cells #[.int .i64 131, .func (.func 51) #[] #[]] 80))
      have hb2 := Lib.hid (hbr.out.alloc hbr.out.size (.cells #[.int .i64 131, .func (.func 51) #[] #[]] 80))
      go_upto_region 4 with fail
      generalize wr.alloc _ = W3 at *
      generalize wr.heap.size = Bl at *
      clear c0 c1 hPr
      have hbx3 := Lib.hid (hbx.out.below (hbP.out.trans (hb2.out.mono hbP.out.size)))
      have hL3 := Lib.hid (hL1.out.below (hbP.out.trans (hb2.out.mono hbP.out.size)))
      have hcall := Lib.hid (mdLinks_any hbx3.out.2 hL3.out)
      have y0 := cell_of_block (o := 0) hna.out rfl
      have y1 := cell_of_block (o := 1) hna.out rfl
      have d0 := hbx3.out.c0
      have d1 := hbx3.out.c1
      have d2 := hbx3.out.c2
      have d3 := hbx3.out.c3
      have d4 := hbx3.out.c4
      have d5 := hbx3.out.c5
      dsimp only at d0 d1 d2
      simp only [Mv.val, Mv.cells] at hcall
      by_cases hok : okLinks M
      · have hcall2 := Lib.hid (says_ok hcall.out hok)
        have hup2 : Hid ((1 ≤ (3 : Int) → okArg M) ∧ (2 ≤ (3 : Int) → okProgs M) ∧ (3 ≤ (3 : Int) → okLinks M) ∧ (4 ≤ (3 : Int) → okStarts M)) := Lib.hid ⟨fun _ => hup.out.1 (by omega), fun _ => hup.out.2.1 (by omega), fun _ => hok, fun e => absurd e (by omega)⟩
        clear hok hno hyes hk1 hk2 hk3 hk4 hk5 hcall
        go_wp2_with (go_at_call 51; refine hcall2.out.mono ?_; rintro e w4 ⟨rfl, hr4⟩; have hb4 : Hid (Below W2.heap.size W2 w4) := hb2.out.trans (hr4.out.mono hb2.out.size))
        go_roundw
        case rel => (repeat apply Exists.intro); first | exact ⟨⟨.inr (.inr (.inr (.inl rfl))), rfl, hb4, hup2⟩, rfl⟩ | exact ⟨.inr (.inr (.inr (.inl rfl))), rfl, hb4, hup2⟩ | exact ⟨.inr (.inr (.inr (.inl rfl))), rfl, hb4, hup2, rfl⟩
        case measure => simp [intOf]
      · have hcall2 := Lib.hid (says_no hcall.out hok)
        have hfin := Lib.hid (hno.out 131 (hk3.out (hup.out.1 (by omega)) (hup.out.2.1 (by omega)) hok) (by omega))
        clear hok hno hyes hk1 hk2 hk3 hk4 hk5 hcall
        go_wp2_with (go_at_call 51; refine hcall2.out.mono ?_; rintro e w4 ⟨t, x, rfl, hr4⟩; have y2 := cell_of_block (o := 0) ((hr4.out.block Bl (Array.getElem?_eq_some_iff.1 hna.out).1).trans hna.out) rfl; have hb4 : Hid (Below w.heap.size w w4) := (by have h1 := hbW.out.trans (hbP.out.mono hbW.out.size); have h2 := h1.trans (hb2.out.mono h1.size); exact h2.trans (hr4.out.mono h2.size)))
        go_ret
        exact ⟨_, rfl, hfin.out _ _, hb4⟩
    · have c0 : wr.cell? ⟨P, 6, none⟩ = some (.int .i64 132) := cell_of_block (o := 6) hPr.out rfl
      have c1 : wr.cell? ⟨P, 7, none⟩ = some (.func (.func 52) #[] #[]) := cell_of_block (o := 7) hPr.out rfl
      have hna := Lib.hid (heap_alloc_new wr (.cells #[.int .i64 132, .func (.func 52) #[] #[]] 80))
      have hb2 := Lib.hid (hbr.out.alloc hbr.out.size (.cells #[.int .i64 132, .func (.func 52) #[] #[]] 80))
      go_upto_region 4 with fail
      generalize wr.alloc _ = W3 at *
      generalize wr.heap.size = Bl at *
      clear c0 c1 hPr
      have hbx3 := Lib.hid (hbx.out.below (hbP.out.trans (hb2.out.mono hbP.out.size)))
      have hL3 := Lib.hid (hL1.out.below (hbP.out.trans (hb2.out.mono hbP.out.size)))
      have hcall := Lib.hid (mdStartsC_any hbx3.out.2 hL3.out)
      have y0 := cell_of_block (o := 0) hna.out rfl
      have y1 := cell_of_block (o := 1) hna.out rfl
      have d0 := hbx3.out.c0
      have d1 := hbx3.out.c1
      have d2 := hbx3.out.c2
      have d3 := hbx3.out.c3
      have d4 := hbx3.out.c4
      have d5 := hbx3.out.c5
      dsimp only at d0 d1 d2
      simp only [Mv.val, Mv.cells] at hcall
      by_cases hok : okStarts M
      · have hcall2 := Lib.hid (says_ok hcall.out hok)
        have hup2 : Hid ((1 ≤ (4 : Int) → okArg M) ∧ (2 ≤ (4 : Int) → okProgs M) ∧ (3 ≤ (4 : Int) → okLinks M) ∧ (4 ≤ (4 : Int) → okStarts M)) := Lib.hid ⟨fun _ => hup.out.1 (by omega), fun _ => hup.out.2.1 (by omega), fun _ => hup.out.2.2.1 (by omega), fun _ => hok⟩
        clear hok hno hyes hk1 hk2 hk3 hk4 hk5 hcall
        go_wp2_with (go_at_call 52; refine hcall2.out.mono ?_; rintro e w4 ⟨rfl, hr4⟩; have hb4 : Hid (Below W2.heap.size W2 w4) := hb2.out.trans (hr4.out.mono hb2.out.size))
        go_roundw
        case rel => (repeat apply Exists.intro); first | exact ⟨⟨.inr (.inr (.inr (.inr rfl))), rfl, hb4, hup2⟩, rfl⟩ | exact ⟨.inr (.inr (.inr (.inr rfl))), rfl, hb4, hup2⟩ | exact ⟨.inr (.inr (.inr (.inr rfl))), rfl, hb4, hup2, rfl⟩
        case measure => simp [intOf]
      · have hcall2 := Lib.hid (says_no hcall.out hok)
        have hfin := Lib.hid (hno.out 132 (hk4.out (hup.out.1 (by omega)) (hup.out.2.1 (by omega)) (hup.out.2.2.1 (by omega)) hok) (by omega))
        clear hok hno hyes hk1 hk2 hk3 hk4 hk5 hcall
        go_wp2_with (go_at_call 52; refine hcall2.out.mono ?_; rintro e w4 ⟨t, x, rfl, hr4⟩; have y2 := cell_of_block (o := 0) ((hr4.out.block Bl (Array.getElem?_eq_some_iff.1 hna.out).1).trans hna.out) rfl; have hb4 : Hid (Below w.heap.size w w4) := (by have h1 := hbW.out.trans (hbP.out.mono hbW.out.size); have h2 := h1.trans (hb2.out.mono h1.size); exact h2.trans (hr4.out.mono h2.size)))
        go_ret
        exact ⟨_, rfl, hfin.out _ _, hb4⟩
    · have hfin := Lib.hid (hyes.out (hk5.out (hup.out.1 (by omega)) (hup.out.2.1 (by omega)) (hup.out.2.2.1 (by omega)) (hup.out.2.2.2 (by omega))))
      clear hno hyes hk1 hk2 hk3 hk4 hk5
      go_wp2
      go_ret
      exact ⟨_, rfl, hfin.out, hb1⟩
theorem number_none {w : World} (hL : Laid13 w) : Calls Tryd.prog 20 #[.nilIface] w fun e w' => e = .returned (.int .i64 0) ∧ Hid (Below w.heap.size w w') := by
  have hb := Lib.hid ((Below.refl _ w).alloc (Nat.le_refl _) (.cells #[.int .i64 0, .nilIface] 73))
  obtain ⟨-, -, -, -, ⟨b5, h5⟩, -⟩ := hL.below hb.out
  have e5 := h5.2
  have hA := Lib.hid (as_none (.iface 75 (.pointer (some ⟨w.heap.size, 0, none⟩))) (w.alloc (.cells #[.int .i64 0, .nilIface] 73)))
  have hI := Lib.hid (is_nil b5 (w.alloc (.cells #[.int .i64 0, .nilIface] 73)))
  clear hL h5
  go_enter Tryd.func20, Tryd.ntmps20
  go_upto_region 2 with fail
  generalize w.alloc _ = W at *
  go_wp2_with (first | (go_at_call 36; refine hA.out.mono ?_; rintro e w2 ⟨rfl, hw2⟩; subst hw2) | (go_at_call 37; refine hI.out.mono ?_; rintro e w2 ⟨rfl, hw2⟩; subst hw2))
  go_ret
  exact ⟨rfl, hb⟩
theorem number_flaw {w : World} (hL : Laid13 w) (k : Int) (t : TypeId) (x : Value) : Calls Tryd.prog 20 #[.iface 73 (.agg #[.int .i64 k, .iface t x])] w fun e w' => e = .returned (.int .i64 k) ∧ Hid (Below w.heap.size w w') := by
  have hb := Lib.hid ((Below.refl _ w).alloc (Nat.le_refl _) (.cells #[.int .i64 0, .nilIface] 73))
  have hA := Lib.hid (as_flaw k t x (hL.below hb.out).2.1 (heap_alloc_new w (.cells #[.int .i64 0, .nilIface] 73)))
  clear hL
  go_enter Tryd.func20, Tryd.ntmps20
  go_upto_region 2 with fail
  generalize w.alloc _ = W at *
  go_wp2_with (go_at_call 36; refine hA.out.mono ?_; rintro e w2 ⟨rfl, hw2⟩; have y0 := cell_of_block (o := 0) hw2.out.1 rfl)
  go_ret
  exact ⟨rfl, hb.out.trans hw2.out.2⟩
theorem number_sen {w : World} (hL : Laid13 w) (b : Addr) (hs : Sen w 0 b) : Calls Tryd.prog 20 #[.iface 123 (.pointer (some b))] w fun e w' => e = .returned (.int .i64 1) ∧ Hid (Below w.heap.size w w') := by
  have hb := Lib.hid ((Below.refl _ w).alloc (Nat.le_refl _) (.cells #[.int .i64 0, .nilIface] 73))
  have hs1 := Lib.hid (hs.below hb.out)
  have hA := Lib.hid (as_sen (tb := w.heap.size) b (hL.below hb.out).2.1)
  have hI := Lib.hid (is_same b)
  clear hL hs
  go_enter Tryd.func20, Tryd.ntmps20
  go_upto_region 2 with fail
  generalize w.alloc _ = W at *
  go_wp2_with (first | (go_at_call 36; refine hA.out.mono ?_; rintro e w2 ⟨rfl, hw2⟩; have e5 := (hs1.out.below hw2.out).2) | (go_at_call 37; refine (hI.out _).mono ?_; rintro e w3 ⟨rfl, hw3⟩; subst hw3))
  go_ret
  exact ⟨rfl, hb.out.trans (hw2.out.mono hb.out.size)⟩
theorem number_is {w : World} {M : Md} {u : Value} (hL : Laid13 w) (h : FlawIs M u) : Calls Tryd.prog 20 #[u] w fun e w' => e = .returned (.int .i64 (checkM M)) ∧ Hid (Below w.heap.size w w') := by
  rcases h with ⟨h, rfl⟩ | ⟨-, t, x, rfl⟩
  · rw [h]; exact number_none hL
  · exact number_flaw hL _ t x
theorem mdCheck_any {w : World} {v : Mv} {M : Md} (h : Mds w v M) (hL : Laid13 w) : Calls Tryd.prog 9 #[v.val M] w fun e w' => e = .returned (.int .i64 (checkM M)) ∧ Hid (Below w.heap.size w w') := by
  have hbx := Lib.hid h.box
  have hbW : Hid (Below w.heap.size w (w.alloc (.cells (v.cells M) 27))) := (Below.refl _ w).alloc (Nat.le_refl _) _
  have hL1 := Lib.hid (hL.below hbW.out)
  have hF := Lib.hid (mdFlawOf_any hbx.out.2 hL1.out)
  clear h hL
  simp only [Mv.val, Mv.cells] at hbx hbW hL1 hF ⊢
  go_enter Tryd.func9, Tryd.ntmps9
  go_upto_region 1 with fail
  generalize w.heap.size = B at hbx ⊢
  generalize w.alloc _ = W at *
  have d0 := hbx.out.c0
  have d1 := hbx.out.c1
  have d2 := hbx.out.c2
  have d3 := hbx.out.c3
  have d4 := hbx.out.c4
  have d5 := hbx.out.c5
  go_wp2_with (first | (go_at_call 21; refine hF.out.mono ?_; rintro e w2 ⟨u, rfl, hu, hr2⟩; have hN := Lib.hid (number_is (hL1.out.below hr2.out) hu)) | (go_at_call 20; refine hN.out.mono ?_; rintro e w3 ⟨rfl, hr3⟩))
  go_ret
  have h1 := hbW.out.trans (hr2.out.mono hbW.out.size)
  exact ⟨rfl, h1.trans (hr3.out.mono h1.size)⟩
end Go.Proofs.YtofkfajcibdneaaDoor
