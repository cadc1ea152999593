/-
  Days: the program's cut.
-/
import Derived.Test.YticffeklmhcniaaYN
namespace Go.Proofs.Yticffeklmhcniaa
open Go.ChangeShapes Go.WideShapes Go.ChangeAt Go.Shelf Go.RowKit Go.Lib Go.Sort Go.Deep Go.Maps
set_option linter.unusedVariables false

set_option maxHeartbeats 4000000 in
set_option maxRecDepth 100000 in
theorem dcut_any {w : World} {db lb : Nat} {W : Int} {ov : Value} {ds : List Int} {L : Int → List M} {fv : Int → Value} {x : M} (h : DaysOf w db W lb ov ds L fv) (hx : x ∈ ds.flatMap L) (m : M) (hk : m.k = x.k) (hu : m.u = x.u) :
    Calls Try.prog 46 #[.pointer (some ⟨db, 0, none⟩), m.val] w fun e w' => e = .returned x.val ∧ CutRes w db W lb ov ds L fv x w' := by
  have mixed := mixed
  obtain ⟨d, hdd⟩ : ∃ d, d = dayOf W m.k.t := ⟨_, rfl⟩
  have hdm := day_mem h.days hx
  rw [← hk, ← hdd] at hdm
  obtain ⟨hd, hxL⟩ := hdm
  obtain ⟨p, hp, hpx⟩ := List.getElem_of_mem hxL
  have hwt : (Lit.int .i64 m.k.t).wf = true := by rw [hk]; exact (h.fits x hx).1.1
  obtain ⟨B0, hB0⟩ : ∃ B0, B0 = w.heap.size := ⟨_, rfl⟩
  obtain ⟨B, hB⟩ : ∃ B, B = w.heap.size + 1 := ⟨_, rfl⟩
  obtain ⟨W1, hW1⟩ : ∃ W1, W1 = w.alloc (.cells m.cells 34) := ⟨_, rfl⟩
  have hsz1 : W1.heap.size = w.heap.size + 1 := by rw [hW1]; simp
  obtain ⟨W2, hW2⟩ : ∃ W2, W2 = W1.alloc (.cells zeroM.cells 34) := ⟨_, rfl⟩
  have hsz2 : W2.heap.size = w.heap.size + 2 := by rw [hW2]; simp [hsz1]
  have hb1 : Below w.heap.size w W1 := by rw [hW1]; exact (Below.refl _ w).alloc (Nat.le_refl _) _
  have hb2 : Below w.heap.size w W2 := by rw [hW2]; exact hb1.alloc hb1.size _
  have hbx1 : BoxM W1 B0 m := by rw [hW1, hB0]; exact BoxM.mk w m
  have hbx : BoxM W2 B0 m := by rw [hW2]; exact hbx1.below ((Below.refl _ W1).alloc (Nat.le_refl _) _)
  have hbz : BoxM W2 B zeroM := by rw [hW2, hB, ← hsz1]; exact BoxM.mk W1 zeroM
  have h2 := h.below hb2
  have hlen : (L d).length ≤ 16384 := by have := day_len hd (L := L); have := h.small; omega
  obtain ⟨g, off, cap, hv, hR⟩ := AtM.form (h.each d hd) (by omega)
  have hR2 : RowM W2 g off cap (L d) := RowIn.block hR (hb2.block g (RowIn.lt hR))
  have hday := dayOf_any h2.c0 h2.width h2.wide hwt
  rw [← hdd] at hday
  have hlk := h2.lists.look hd (h.wf hd)
  rw [hv] at hlk
  have hplace : Calls Try.prog 42 #[.slice (some ⟨g, off, none⟩) (L d).length cap, m.val] W2 fun e w3 => e = .returned (.int .i64 p) ∧ Below W2.heap.size W2 w3 := by
    have hat := h2.each d hd
    rw [hv] at hat
    refine (placeIn_any hat (h.days.2 d hd).2.1 m (by omega)).mono ?_
    rintro e w3 ⟨q, he, hb, hq⟩
    obtain rfl := place_at (h.days.2 d hd).2.1 (unlike_day hd h.unlike) hp hpx hk hu hq
    exact ⟨he, hb⟩
  have hrest : Hid (∀ w3, Below W2.heap.size W2 w3 → MsgAt w3 g (off + p * 7) x ∧ w.heap.size + 2 ≤ w3.heap.size ∧ BoxM ((w3.alloc (.cells zeroM.cells 34)).setRow w3.heap.size x.cells) w3.heap.size x ∧
      CutRest w db W lb ov ds L fv x B w3.heap.size d g off cap p ((w3.alloc (.cells zeroM.cells 34)).setRow w3.heap.size x.cells)) := by
    intro w3 hb3
    have hb3' : Below w.heap.size w w3 := hb2.trans (hb3.mono hb2.size)
    have hs3 := hb3.size
    have hR3 : RowM w3 g off cap (L d) := RowIn.block hR (hb3'.block g (RowIn.lt hR))
    have hat := hR3.at p hp
    have ex : (L d).getD p default = x := by simp [List.getD_eq_getElem?_getD, hp, hpx]
    rw [ex] at hat
    have k3 : KeptOff (fun _ => False) w3 (w3.alloc (.cells zeroM.cells 34)) := .of_below ((Below.refl _ w3).alloc (Nat.le_refl _) _)
    have k4 : KeptOff (fun _ => False) w3 ((w3.alloc (.cells zeroM.cells 34)).setRow w3.heap.size x.cells) := k3.then_new (KeptOff.row _ _ _) (fun k hk e => by omega)
    have hb4 : Below w.heap.size w ((w3.alloc (.cells zeroM.cells 34)).setRow w3.heap.size x.cells) := hb3'.trans (k4.below (fun k _ e => e.elim) hb3'.size)
    have hG : BoxM ((w3.alloc (.cells zeroM.cells 34)).setRow w3.heap.size x.cells) w3.heap.size x := (BoxM.mk w3 zeroM).row x
    have hBz : BoxM ((w3.alloc (.cells zeroM.cells 34)).setRow w3.heap.size x.cells) B zeroM := (hbz.below hb3).kept k4 (fun e => e)
    exact ⟨hat, by omega, hG, cut_rest h hd hp hpx hv hR hb4 hBz hG (by omega) (by omega)⟩
  have c1 := h2.c1
  obtain ⟨-, x0, x1, x2, x3, x4, x5, x6⟩ := hbx.at
  simp only [Nat.zero_add] at x0 x1 x2 x3 x4 x5 x6
  have hpI : (p : Int) < ((L d).length : Int) := by omega
  simp only [M.val, M.cells] at hplace hW1 ⊢
  have hcr : Hid (∀ G w', CutFin w db W lb ov ds L fv x B G w' ↔ BoxM w' G x ∧ BoxM w' B zeroM ∧ CutRes w db W lb ov ds L fv x (w'.setRow B x.cells)) := fun _ _ => Iff.rfl
  unfold CutRest at hrest
  generalize CutFin w db W lb ov ds L fv x = F at hrest hcr
  generalize CutRes w db W lb ov ds L fv x = R at hcr ⊢
  clear h2 hbz hbx hbx1 hb2 hb1 hR2 hwt hxL hpx hlen hd h hx hv hR
  have hdd' := Lib.hid hdd
  have hplace' := Lib.hid hplace
  clear hdd hplace hk hu
  generalize L d = l at *
  generalize l.length = n at *
  go_enter Try.func46, Try.ntmps46
  go_upto_region 1 with (fail)
  rw [← hW1, show W1.alloc (.cells #[.int .i64 0, .int .i64 0, .int .i64 0, .int .i64 0, .int .i64 0, .int .i64 0, .bool false] 34) = W2 from hW2.symm, ← hB0]
  rw [← (show B = B0 + 1 by rw [hB, hB0])]
  have hBs := Lib.hid hB
  clear hW1 hW2 hsz1 hsz2 hB hB0
  go_upto_region 5 with (first
    | (go_at_call 38; refine hday.mono ?_; rintro e w1 ⟨rfl, rfl⟩)
    | (go_at_call 42; (with_reducible refine hplace'.out.mono ?_); rintro e w3 ⟨rfl, hb3⟩; obtain ⟨hat, hsz, hG, hr⟩ := hrest.out w3 hb3; have hr' := Lib.hid hr; clear hr hb3; obtain ⟨-, y0, y1, y2, y3, y4, y5, y6⟩ := hat)
    | (refine wpList_store_row rfl 34 (.tmp 8) (.tmp 26) rfl w3.heap.size x.cells rfl rfl 34 zeroM.cells (heap_alloc_new w3 _) infoS rfl (M.cells_one x) ?_))
  simp only [show zeroM.cells = #[.int .i64 0, .int .i64 0, .int .i64 0, .int .i64 0, .int .i64 0, .int .i64 0, .bool false] from rfl] at hG hr'
  generalize w3.heap.size = G at hG hr' hsz ⊢
  generalize (w3.alloc (.cells #[.int .i64 0, .int .i64 0, .int .i64 0, .int .i64 0, .int .i64 0, .int .i64 0, .bool false] 34)).setRow G x.cells = W4 at hG hr' ⊢
  clear hlk hplace' hday c1 x0 x1 x2 x3 x4 x5 x6 y0 y1 y2 y3 y4 y5 y6 hrest hG
  by_cases h1 : n = 1
  · subst h1
    have hend := Lib.hid (hr'.out.1 rfl)
    clear hr' hpI hp
    go_upto_region 8 with (go_at_call 55; (with_reducible refine hend.out.mono ?_); rintro e w5 ⟨rfl, hF⟩)
    obtain ⟨hG5, hB5, hR5⟩ := (hcr.out _ _).1 hF
    obtain ⟨-, z0, z1, z2, z3, z4, z5, z6⟩ := hG5.at
    simp only [Nat.zero_add] at z0 z1 z2 z3 z4 z5 z6
    go_wp2_with (refine wpList_store_row rfl 34 (.tmp 4) (.tmp 41) rfl B x.cells rfl rfl 34 zeroM.cells hB5 infoS rfl (M.cells_one x) ?_)
    obtain ⟨-, s0, s1, s2, s3, s4, s5, s6⟩ := (hB5.row x).at
    simp only [Nat.zero_add] at s0 s1 s2 s3 s4 s5 s6
    exact bodyPost_ret (v := x.val) (by simp [results, Try.results46, go_sem, s0, s1, s2, s3, s4, s5, s6, M.val]) rfl ⟨rfl, hR5⟩
  · have hz : ¬ ((n : Int) = 1) := by omega
    obtain ⟨c4, hw⟩ := hr'.out.2 h1
    have hw' := Lib.hid hw
    have c5 : W4.drew.cell? ⟨db, 1, none⟩ = some (.map (some lb)) := c4
    clear hr' hw hpI hp c4
    go_upto_region 7 with (fail)
    go_region_held3 (fun w' => w'.cell? ⟨db, 1, none⟩ = some (.map (some lb)))
      (first | exact c5 | exact c6 | exact c7)
      (first | (go_at_call 56; (with_reducible refine hw'.out.mono ?_); rintro e w6 ⟨off', cap', rfl, h6⟩; obtain ⟨c6, w7, hrun, c7, hF⟩ := h6.out))
    obtain ⟨hG5, hB5, hR5⟩ := (hcr.out _ _).1 hF
    obtain ⟨-, z0, z1, z2, z3, z4, z5, z6⟩ := hG5.at
    simp only [Nat.zero_add] at z0 z1 z2 z3 z4 z5 z6
    go_wp2_with (refine wpList_store_row rfl 34 (.tmp 4) (.tmp 41) rfl B x.cells rfl rfl 34 zeroM.cells hB5 infoS rfl (M.cells_one x) ?_)
    obtain ⟨-, s0, s1, s2, s3, s4, s5, s6⟩ := (hB5.row x).at
    simp only [Nat.zero_add] at s0 s1 s2 s3 s4 s5 s6
    exact bodyPost_ret (v := x.val) (by simp [results, Try.results46, go_sem, s0, s1, s2, s3, s4, s5, s6, M.val]) rfl ⟨rfl, hR5⟩
end Go.Proofs.Yticffeklmhcniaa
