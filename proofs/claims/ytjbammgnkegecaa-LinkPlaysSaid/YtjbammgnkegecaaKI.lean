
/-
  A way's Take.
-/
import Derived.Test.YtjbammgnkegecaaKH
namespace Go.Proofs.Ytjbammgnkegecaa
open Go.ChangeShapes Go.WideShapes Go.ChangeAt Go.Shelf Go.RowKit Go.Lib Go.Sort Go.Deep
set_option linter.unusedVariables false
set_option maxRecDepth 4000

/-- One taken out: the way behind it. -/
theorem WyOf.less {w4 w5 : World} {hb g k : Nat} {S : Nat → Prop} {y : Wy} {v v' : Value} {L : List Pc} (h : WyOf w4 hb S y v L) (hv : v.ownBlock = some g) (hw : Without w4 g L k v' w5) :
    WyOf (w5.setCell ⟨hb, 4, none⟩ v') hb S y v' (L.eraseIdx k) ∧ KeptOff (fun x => x = g ∨ x = hb) w4 (w5.setCell ⟨hb, 4, none⟩ v') ∧ w5.cell? ⟨hb, 4, none⟩ = some v ∧ w5.frozen? ⟨hb, 4, none⟩ = false := by
  obtain ⟨h1, h2, h3, -⟩ := hw
  have hrow := (h2.block hb (h.lt hb h.own) (fun e => h.ne hv e.symm)).trans h.row
  have hks := KeptOff.set w5 ⟨hb, 4, none⟩ v'
  have hkk : KeptOff (fun x => x = g ∨ x = hb) w4 (w5.setCell ⟨hb, 4, none⟩ v') := (h2.mono (fun x _ e => .inl e)).trans (hks.mono (fun x _ e => .inr e))
  refine ⟨⟨?_, h1.kept hks (fun x e => by rw [h3] at e; cases e; exact h.ne hv), h.ok, h.own, fun x e => by rw [h3] at e; cases e; exact h.owns g hv, fun x e => Nat.lt_of_lt_of_le (h.lt x e) hkk.size⟩, hkk, cell_of_block hrow rfl, frozen_of_cells hrow⟩
  unfold WyRow
  simp [World.setCell, Array.getElem?_modify, hrow]

section
variable {w : World} {hb : Nat} {S : Nat → Prop} {y : Wy} {v : Value} {L : List Pc}
set_option maxHeartbeats 1000000 in
theorem take_none (h : WyOf w hb S y v []) (n : Int) : Calls Try.prog 15 #[.pointer (some ⟨hb, 0, none⟩), .int .i64 n] w fun e w' => e = .returned (.tuple #[zeroP.val, .int .i64 6]) ∧ Below w.heap.size w w' := by
  have hp := fun o => place_none (h.below ((Below.refl _ w).alloc (Nat.le_refl _) o)) n
  clear h
  go_enter Try.func15, Try.ntmps15
  go_wp2_with (go_at_call 30; refine (hp _).mono ?_; rintro e w' ⟨rfl, rfl⟩)
  refine bodyPost_ret (v := .tuple #[.agg #[.int .i64 0, .int .i64 0, .int .i64 0, .int .i64 0, .int .i64 0, .int .i64 0, .bool false, .int .i64 0], .int .i64 6]) (by simp [results, Try.results15, go_sem]) rfl ⟨rfl, ?_⟩
  repeat (refine Below.setCell ?_ (by simp) _)
  exact (Below.refl _ w).alloc (Nat.le_refl _) _
set_option maxHeartbeats 4000000 in
theorem take_some (h : WyOf w hb S y v L) (n : Int) (hl : L.length < 1000000000000000) (h0 : 0 < L.length) : Calls Try.prog 15 #[.pointer (some ⟨hb, 0, none⟩), .int .i64 n] w fun e w' => e = .returned (.tuple #[(L.getD (placeN y.loose n L.length) default).val, .int .i64 0]) ∧ Hid (WyAt w' hb S y (L.eraseIdx (placeN y.loose n L.length)) ∧ KeptOff S w w') := by
  have hk := placeN_lt y.loose n h0
  obtain ⟨g, off, cap, rfl, hc1, hc2, hgl, -⟩ := AtP.get h.list hk
  have hbx : Hid (BoxP (w.alloc (.cells zeroP.cells 37)) w.heap.size zeroP) := BoxP.mk w zeroP
  have hb0 : Hid (Below w.heap.size w (w.alloc (.cells zeroP.cells 37))) := (Below.refl _ w).alloc (Nat.le_refl _) _
  have hp := place_some (h.below hb0.out) n hl h0
  obtain ⟨p, hpp⟩ : ∃ p, p = L.getD (placeN y.loose n L.length) default := ⟨_, rfl⟩
  have hS : Hid (∀ w1, Below (w.alloc (.cells zeroP.cells 37)).heap.size (w.alloc (.cells zeroP.cells 37)) w1 → BoxP w1 w.heap.size zeroP ∧ w1.cell? ⟨hb, 4, none⟩ = some (.slice (some ⟨g, off, none⟩) L.length cap) ∧ PcAt w1 g (off + placeN y.loose n L.length * 8) p ∧ Below w.heap.size w w1) := by
    intro w1 h1
    have hb1 := hb0.out.trans (h1.mono hb0.out.size)
    have h2 := h.below hb1
    obtain ⟨g', off', cap', e, _, _, _, hr⟩ := AtP.get h2.list hk
    cases e
    exact ⟨hbx.out.below h1, h2.c4, by rw [hpp]; exact .of_range hr, hb1⟩
  have h4 : Hid (∀ W4, Below w.heap.size w W4 → BoxP W4 w.heap.size zeroP → ∀ B9, w.heap.size < B9 → BoxP W4 B9 p → W4.cell? ⟨hb, 4, none⟩ = some (.slice (some ⟨g, off, none⟩) L.length cap) ∧ Calls Try.prog 32 #[.slice (some ⟨g, off, none⟩) L.length cap, .int .i64 (placeN y.loose n L.length : Nat)] W4 fun e w5 => ∃ a c, e = .returned (.slice a (L.length - 1) c) ∧
      w5.cell? ⟨hb, 4, none⟩ = some (.slice (some ⟨g, off, none⟩) L.length cap) ∧ w5.frozen? ⟨hb, 4, none⟩ = false ∧ Hid (BoxP (w5.setCell ⟨hb, 4, none⟩ (.slice a (L.length - 1) c)) w.heap.size zeroP ∧ BoxP (w5.setCell ⟨hb, 4, none⟩ (.slice a (L.length - 1) c)) B9 p ∧
        ∀ cs, WyAt ((w5.setCell ⟨hb, 4, none⟩ (.slice a (L.length - 1) c)).setRow w.heap.size cs) hb S y (L.eraseIdx (placeN y.loose n L.length)) ∧ KeptOff S w ((w5.setCell ⟨hb, 4, none⟩ (.slice a (L.length - 1) c)).setRow w.heap.size cs))) := by
    intro W4 hb4 hx4 B9 hB9 hx9
    have hX := h.below hb4
    refine ⟨hX.c4, ?_⟩
    have hR : RowP W4 g off cap L := by
      rcases hX.list with ⟨e, _⟩ | ⟨g', off', cap', e, hr⟩
      · cases e
      · cases e
        exact hr
    refine (without_any hR _ hk hl).mono ?_
    rintro e w5 ⟨v', he, hq⟩
    obtain ⟨a, c, rfl⟩ := hq.out.2.2.2
    obtain ⟨hY, hkk, hc5, hf5⟩ := hX.less rfl hq.out
    have hgS : S g := h.owns g rfl
    have hn : ∀ k, w.heap.size ≤ k → ¬ (k = g ∨ k = hb) := fun k hk e => by
      have e1 := h.lt g hgS
      have e2 := h.lt hb h.own
      omega
    refine ⟨a, c, he, hc5, hf5, hx4.kept hkk (hn _ (Nat.le_refl _)), hx9.kept hkk (hn _ (by omega)), fun cs => ?_⟩
    have hks := KeptOff.setRow (w5.setCell ⟨hb, 4, none⟩ (.slice a (L.length - 1) c)) w.heap.size cs
    refine ⟨⟨_, hY.kept hks (fun k e e2 => by have := h.lt k e; omega)⟩, ?_⟩
    exact ((KeptOff.of_below (S := S) hb4).trans (hkk.mono (fun k _ e => e.elim (fun e => e ▸ hgS) (fun e => e ▸ h.own)))).then_new hks (fun k hk e => by omega)
  rw [← hpp]
  clear hbx h hpp
  generalize hE : L.eraseIdx (placeN y.loose n L.length) = E at *
  clear hE
  generalize L.length = N at *
  generalize placeN y.loose n N = k at *
  have hk1 : (0 : Int) ≤ (k : Int) := by omega
  have hk2 : (k : Int) < (N : Int) := by omega
  have hsz0 : Hid ((w.alloc (.cells zeroP.cells 37)).heap.size = w.heap.size + 1) := by show _ = _; simp
  go_enter Try.func15, Try.ntmps15
  go_upto_region 1 with (fail)
  rw [show w.alloc (.cells #[.int .i64 0, .int .i64 0, .int .i64 0, .int .i64 0, .int .i64 0, .int .i64 0, .bool false, .int .i64 0] 37) = w.alloc (.cells zeroP.cells 37) from rfl]
  generalize w.alloc (.cells zeroP.cells 37) = W0 at *
  go_upto_region 5 with (go_at_call 30; refine hp.mono ?_; rintro e w1 ⟨rfl, hb1⟩; obtain ⟨hbx, c4, hat, hb2⟩ := hS.out w1 hb1; obtain ⟨x0, x1, x2, x3, x4, x5, x6, x7⟩ := hat; have hbx' := Lib.hid hbx; have hb2' := Lib.hid hb2; have hs1 := Lib.hid hb1.size; clear hbx hb2 hb1)
  have hQ := h4.out (w1.alloc (.cells p.cells 37)) (hb2'.out.alloc hb2'.out.size _) (hbx'.out.below ((Below.refl _ w1).alloc (Nat.le_refl _) _)) w1.heap.size (by have := hs1.out; have := hsz0.out; omega) (BoxP.mk w1 p)
  have hQ' := Lib.hid hQ
  clear hQ h4 hS hbx' x0 x1 x2 x3 x4 x5 x6 x7 c4 hs1 hp
  rw [show w1.alloc (.cells #[.int .i64 p.m.k.t, .int .i64 p.m.k.f, .int .i64 p.m.k.s, .int .i64 p.m.to, .int .i64 p.m.v, .int .i64 p.m.u, .bool p.m.anti, .int .i64 p.c] 37) = w1.alloc (.cells p.cells 37) from rfl]
  generalize w1.heap.size = B9 at *
  generalize w1.alloc (.cells p.cells 37) = W4 at *
  have c4 := hQ'.out.1
  have hcl := Lib.hid hQ'.out.2
  clear hQ'
  go_upto_region 6 with (go_at_call 32; refine hcl.out.mono ?_; rintro e w5 ⟨a, c, rfl, c5, f5, h6⟩)
  clear c4 c5 f5 hcl
  generalize w5.setCell ⟨hb, 4, none⟩ (.slice a (N - 1) c) = W6 at *
  obtain ⟨hB0, hB9, hfin⟩ := h6.out
  obtain ⟨y0, y1, y2, y3, y4, y5, y6, y7⟩ := hB9.at
  simp only [Nat.zero_add] at y0 y1 y2 y3 y4 y5 y6 y7
  have hB0' := Lib.hid hB0
  have hfin' := Lib.hid (hfin p.cells)
  clear hB0 hB9 hfin h6
  go_wp2_with (refine wpList_store_row rfl 37 (.tmp 4) (.tmp 35) rfl w.heap.size p.cells rfl rfl 37 zeroP.cells hB0'.out infoPs rfl (Pc.cells_one p) ?_)
  obtain ⟨s0, s1, s2, s3, s4, s5, s6, s7⟩ := (hB0'.out.row p).at
  simp only [Nat.zero_add] at s0 s1 s2 s3 s4 s5 s6 s7
  exact bodyPost_ret (v := .tuple #[p.val, .int .i64 0]) (by simp [results, Try.results15, go_sem, s0, s1, s2, s3, s4, s5, s6, s7, Pc.val]) rfl ⟨rfl, hfin'.out⟩
end
end Go.Proofs.Ytjbammgnkegecaa
