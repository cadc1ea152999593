
/-
  A way's Peek, and why a parcel is refused.
-/
import Derived.Test.YtjbammgnkegecaaKD
namespace Go.Proofs.Ytjbammgnkegecaa
open Go.ChangeShapes Go.WideShapes Go.ChangeAt Go.Shelf Go.RowKit Go.Lib Go.Sort Go.Deep
set_option linter.unusedVariables false
set_option maxRecDepth 4000

section
variable {w : World} {hb : Nat} {S : Nat → Prop} {y : Wy} {v : Value} {L : List Pc}
set_option maxHeartbeats 1000000 in
theorem peek_none (h : WyOf w hb S y v []) (n : Int) : Calls Try.prog 13 #[.pointer (some ⟨hb, 0, none⟩), .int .i64 n] w fun e w' => e = .returned (.tuple #[zeroP.val, .int .i64 6]) ∧ Below w.heap.size w w' := by
  have hp := fun o => place_none (h.below ((Below.refl _ w).alloc (Nat.le_refl _) o)) n
  clear h
  go_enter Try.func13, Try.ntmps13
  go_wp2_with (go_at_call 30; refine (hp _).mono ?_; rintro e w' ⟨rfl, rfl⟩)
  refine bodyPost_ret (v := .tuple #[.agg #[.int .i64 0, .int .i64 0, .int .i64 0, .int .i64 0, .int .i64 0, .int .i64 0, .bool false, .int .i64 0], .int .i64 6]) (by simp [results, Try.results13, go_sem]) rfl ⟨rfl, ?_⟩
  repeat (refine Below.setCell ?_ (by simp) _)
  exact (Below.refl _ w).alloc (Nat.le_refl _) _
theorem AtP.get (h : AtP w v L) {k : Nat} (hk : k < L.length) : ∃ g off cap, v = .slice (some ⟨g, off, none⟩) L.length cap ∧ L.length ≤ cap ∧ cap ≤ 9223372036854775807 ∧ g < w.heap.size ∧ w.rangeAt g (off + k * 8) (encP (L.getD k default)) := by
  obtain ⟨g, off, cap, e, hr⟩ := RowAt.form h (by omega)
  have hb := RowIn.bounds hr
  unfold maxLen at hb
  exact ⟨g, off, cap, e, hb.1, by omega, RowIn.lt hr, RowP.parcel hr (by simp [List.getD_eq_getElem?_getD, hk])⟩
set_option maxHeartbeats 1000000 in
theorem peek_some (h : WyOf w hb S y v L) (n : Int) (hl : L.length < 1000000000000000) (h0 : 0 < L.length) : Calls Try.prog 13 #[.pointer (some ⟨hb, 0, none⟩), .int .i64 n] w fun e w' => e = .returned (.tuple #[(L.getD (placeN y.loose n L.length) default).val, .int .i64 0]) ∧ Below w.heap.size w w' := by
  have hk := placeN_lt y.loose n h0
  have hbg : ∀ w1, Below w.heap.size w w1 → Hid (BoxP w1 w.heap.size zeroP → ∃ g off cap, v = .slice (some ⟨g, off, none⟩) L.length cap) := fun w1 hb1 => Lib.hid (fun _ => by
    obtain ⟨g, off, cap, e, _⟩ := AtP.get h.list hk
    exact ⟨g, off, cap, e⟩)
  clear hbg
  obtain ⟨g, off, cap, rfl, hc1, hc2, hgl, -⟩ := AtP.get h.list hk
  have hbx : Hid (BoxP (w.alloc (.cells zeroP.cells 37)) w.heap.size zeroP) := BoxP.mk w zeroP
  have hb0 : Hid (Below w.heap.size w (w.alloc (.cells zeroP.cells 37))) := (Below.refl _ w).alloc (Nat.le_refl _) _
  have hp := place_some (h.below hb0.out) n hl h0
  obtain ⟨p, hpp⟩ : ∃ p, p = L.getD (placeN y.loose n L.length) default := ⟨_, rfl⟩
  have hS : Hid (∀ w1, Below (w.alloc (.cells zeroP.cells 37)).heap.size (w.alloc (.cells zeroP.cells 37)) w1 → BoxP w1 w.heap.size zeroP ∧ w1.cell? ⟨hb, 4, none⟩ = some (.slice (some ⟨g, off, none⟩) L.length cap) ∧ PcAt w1 g (off + placeN y.loose n L.length * 8) p ∧ Below w.heap.size w w1) := by
    intro w1 h1
    have hb1 := hb0.out.trans (h1.mono hb0.out.size)
    have h2 := h.below hb1
    obtain ⟨g', off', cap', e, _, _, _, hr⟩ := AtP.get h2.list hk
    cases e
    exact ⟨hbx.out.below h1, h2.c4, by rw [hpp]; exact .of_range hr, hb1⟩
  rw [← hpp]
  clear hbx hb0 h hpp
  generalize L.length = N at *
  generalize placeN y.loose n N = k at *
  have hk1 : (0 : Int) ≤ (k : Int) := by omega
  have hk2 : (k : Int) < (N : Int) := by omega
  go_enter Try.func13, Try.ntmps13
  go_upto_region 1 with (fail)
  rw [show w.alloc (.cells #[.int .i64 0, .int .i64 0, .int .i64 0, .int .i64 0, .int .i64 0, .int .i64 0, .bool false, .int .i64 0] 37) = w.alloc (.cells zeroP.cells 37) from rfl]
  generalize w.alloc (.cells zeroP.cells 37) = W0 at *
  go_wp2_with (first
    | (go_at_call 30; refine hp.mono ?_; rintro e w1 ⟨rfl, hb1⟩; obtain ⟨hbx, c4, hat, hb2⟩ := hS.out w1 hb1; obtain ⟨x0, x1, x2, x3, x4, x5, x6, x7⟩ := hat; have hbx' := Lib.hid hbx; have hb2' := Lib.hid hb2; clear hbx hb2 hb1)
    | (refine wpList_store_row rfl 37 (.tmp 4) (.tmp 24) rfl w.heap.size p.cells rfl rfl 37 zeroP.cells hbx'.out infoPs rfl (Pc.cells_one p) ?_))
  obtain ⟨s0, s1, s2, s3, s4, s5, s6, s7⟩ := (hbx'.out.row p).at
  simp only [Nat.zero_add] at s0 s1 s2 s3 s4 s5 s6 s7
  refine bodyPost_ret (v := .tuple #[p.val, .int .i64 0]) (by simp [results, Try.results13, go_sem, s0, s1, s2, s3, s4, s5, s6, s7, Pc.val]) rfl ⟨rfl, ?_⟩
  exact ((KeptOff.of_below (S := fun k => False) hb2'.out).then_new (KeptOff.setRow _ _ _) (fun k hk e => by omega)).below (fun _ _ e => e.elim) (Nat.le_refl _)
end
end Go.Proofs.Ytjbammgnkegecaa
