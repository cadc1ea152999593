/-
  The contract of the document's own step, a theorem for each kind of instruction.
-/
import Derived.Test.YtghbdpjegmdhbaaDoorVmD3
import Derived.StillTailTactics
import Derived.BigRegion
namespace Go.Proofs.YtghbdpjegmdhbaaDoor
open Go.ChangeShapes Go.WideShapes Go.ChangeAt Go.RowKit Go.Sort
set_option linter.unusedVariables false
set_option maxRecDepth 4000

section
variable {b0 b1 : Nat} {w : World} {x rb : Nat} {v : Wv} {W : Wd} {ev : M} {ov : Value} {m : Mc}
set_option maxHeartbeats 2000000 in
theorem step_0 (h : DM b1 w x rb v W ev ov m) (hwa : ∀ w', Below b0 w w' → Wds w' v W) (hb0x : b0 ≤ x) (hb0r : b0 ≤ rb) (hb01 : b0 ≤ b1) (n : Nat) (hpc : m.pc = (n : Int)) (hn : n < v.pl) (a b c : Int) (hi : W.prog.getD n default = ⟨0, a, b, c⟩) :
    Calls Tryd.prog 25 #[.pointer (some ⟨x, 0, none⟩)] w (StepQ b0 b1 w x rb v W ev (.stop { m with pc := (n : Int) + 1 })) := by
  have hw := hwa w (Below.refl _ _)
  have hwa' := Lib.hid hwa
  clear hwa
  have hn2 : n < W.prog.length := by rw [hw.1.1]; exact hn
  obtain ⟨pb, po, hpa, hpm⟩ : ∃ pb po, v.pa = some ⟨pb, po, none⟩ ∧ ∀ j, j < v.pl → InsAt w pb (po + j * 4) (W.prog.getD j default) := by
    rcases hw.1.2.2.2.2 with g | g
    · omega
    · exact g
  have hix : InsAt w pb (po + n * 4) ⟨0, a, b, c⟩ := by have := hpm n hn; rw [hi] at this; exact this
  have hpl : v.pl ≤ 9223372036854775807 := by have := hw.1.2.1; have := hw.1.2.2.1; unfold maxLen at *; omega
  have c0 : w.cell? ⟨x, 0, none⟩ = some (.slice (some ⟨pb, po, none⟩) v.pl v.pc) := hpa ▸ h.cell 0 rfl
  have c14 : w.cell? ⟨x, 14, none⟩ = some (.int .i64 n) := hpc ▸ h.cell 14 rfl
  have f14 : w.frozen? ⟨x, 14, none⟩ = false := h.fx 14
  have hxW := h.xw
  have hbW := h.hb
  have hpb := hix.1
  obtain ⟨-, p0, p1, p2, p3⟩ := hix
  have h' := Lib.hid h
  have hw' := Lib.hid hw
  have hi' := Lib.hid hi
  have hpa' := Lib.hid hpa
  have hpc' := Lib.hid hpc
  have hnI : (n : Int) < (v.pl : Int) := by omega
  clear h hw hi hpa hpm hpc
  go_enter Tryd.func25, Tryd.ntmps25
  go_wp2
  go_region
  have hi1 : InsAt ((w.alloc (.cells #[.int .i64 0, .int .i64 a, .int .i64 b, .int .i64 c] 56)).drew) w.heap.size 0 ⟨0, a, b, c⟩ := (InsAt.mk w 0 a b c).read (Read.drew _ 1)
  have hD1 := (h'.out.alloc (.cells #[.int .i64 0, .int .i64 a, .int .i64 b, .int .i64 c] 56)).drew
  have hB1 := Lib.hid (((Below.refl w.heap.size w).alloc (Nat.le_refl _) (.cells #[.int .i64 0, .int .i64 a, .int .i64 b, .int .i64 c] 56)).drew)
  have hs1 : w.heap.size < ((w.alloc (.cells #[.int .i64 0, .int .i64 a, .int .i64 b, .int .i64 c] 56)).drew).heap.size := hi1.1
  generalize (w.alloc (.cells #[.int .i64 0, .int .i64 a, .int .i64 b, .int .i64 c] 56)).drew = W1 at hi1 hD1 hB1 hs1 ⊢
  clear c0 c14 f14 p0 p1 p2 p3
  have c14 : W1.cell? ⟨x, 14, none⟩ = some (.int .i64 n) := hpc'.out ▸ hD1.cell 14 rfl
  have f14 : W1.frozen? ⟨x, 14, none⟩ = false := hD1.fx 14
  have hD1' := Lib.hid hD1
  have hi1' := Lib.hid hi1
  clear hD1 hi1
  go_upto_region 3 with (fail)
  have hD2 := hD1'.out.setPc ((n : Int) + 1)
  have hb2 : Below w.heap.size W1 (W1.setCell ⟨x, 14, none⟩ (.int .i64 ((n : Int) + 1))) → True := fun _ => trivial
  have hi2 : InsAt (W1.setCell ⟨x, 14, none⟩ (.int .i64 ((n : Int) + 1))) w.heap.size 0 ⟨0, a, b, c⟩ := hi1'.out.setCell_ne (by simpa using (Nat.ne_of_gt hxW))
  have hB2 := Lib.hid ((hB1.out.mono (Nat.le_trans hb01 hbW)).setCell (p := ⟨x, 14, none⟩) hb0x (.int .i64 ((n : Int) + 1)))
  clear c14 f14 hD1' hi1' hB1 hb2
  have hs2 : w.heap.size < (W1.setCell ⟨x, 14, none⟩ (.int .i64 ((n : Int) + 1))).heap.size := hi2.1
  generalize W1.setCell ⟨x, 14, none⟩ (.int .i64 ((n : Int) + 1)) = W2 at hD2 hi2 hB2 hs2 ⊢
  clear hs1 W1
  obtain ⟨-, i0, i1, i2, i3⟩ := hi2
  simp only [Nat.zero_add] at i0 i1 i2 i3
  have hD2' := Lib.hid hD2
  have hQ := Lib.hid (And.intro hD2 hB2.out)
  clear hD2
  go_wp2
  go_ret2
  exact StepQ.stop rfl hQ.out
set_option maxHeartbeats 2000000 in
theorem step_1 (h : DM b1 w x rb v W ev ov m) (hwa : ∀ w', Below b0 w w' → Wds w' v W) (hb0x : b0 ≤ x) (hb0r : b0 ≤ rb) (hb01 : b0 ≤ b1) (n : Nat) (hpc : m.pc = (n : Int)) (hn : n < v.pl) (a : Nat) (b c : Int) (ha : a < 16) (hi : W.prog.getD n default = ⟨1, a, b, c⟩) :
    Calls Tryd.prog 25 #[.pointer (some ⟨x, 0, none⟩)] w (StepQ b0 b1 w x rb v W ev (.on (Mc.put { m with pc := (n : Int) + 1 } a b))) := by
  have hw := hwa w (Below.refl _ _)
  have hwa' := Lib.hid hwa
  clear hwa
  have hn2 : n < W.prog.length := by rw [hw.1.1]; exact hn
  obtain ⟨pb, po, hpa, hpm⟩ : ∃ pb po, v.pa = some ⟨pb, po, none⟩ ∧ ∀ j, j < v.pl → InsAt w pb (po + j * 4) (W.prog.getD j default) := by
    rcases hw.1.2.2.2.2 with g | g
    · omega
    · exact g
  have hix : InsAt w pb (po + n * 4) ⟨1, a, b, c⟩ := by have := hpm n hn; rw [hi] at this; exact this
  have hpl : v.pl ≤ 9223372036854775807 := by have := hw.1.2.1; have := hw.1.2.2.1; unfold maxLen at *; omega
  have c0 : w.cell? ⟨x, 0, none⟩ = some (.slice (some ⟨pb, po, none⟩) v.pl v.pc) := hpa ▸ h.cell 0 rfl
  have c14 : w.cell? ⟨x, 14, none⟩ = some (.int .i64 n) := hpc ▸ h.cell 14 rfl
  have f14 : w.frozen? ⟨x, 14, none⟩ = false := h.fx 14
  have hxW := h.xw
  have hbW := h.hb
  have hpb := hix.1
  obtain ⟨-, p0, p1, p2, p3⟩ := hix
  have h' := Lib.hid h
  have hw' := Lib.hid hw
  have hi' := Lib.hid hi
  have hpa' := Lib.hid hpa
  have hpc' := Lib.hid hpc
  have hnI : (n : Int) < (v.pl : Int) := by omega
  clear h hw hi hpa hpm hpc
  go_enter Tryd.func25, Tryd.ntmps25
  go_wp2
  go_region
  have hi1 : InsAt ((w.alloc (.cells #[.int .i64 1, .int .i64 a, .int .i64 b, .int .i64 c] 56)).drew) w.heap.size 0 ⟨1, a, b, c⟩ := (InsAt.mk w 1 a b c).read (Read.drew _ 1)
  have hD1 := (h'.out.alloc (.cells #[.int .i64 1, .int .i64 a, .int .i64 b, .int .i64 c] 56)).drew
  have hB1 := Lib.hid (((Below.refl w.heap.size w).alloc (Nat.le_refl _) (.cells #[.int .i64 1, .int .i64 a, .int .i64 b, .int .i64 c] 56)).drew)
  have hs1 : w.heap.size < ((w.alloc (.cells #[.int .i64 1, .int .i64 a, .int .i64 b, .int .i64 c] 56)).drew).heap.size := hi1.1
  generalize (w.alloc (.cells #[.int .i64 1, .int .i64 a, .int .i64 b, .int .i64 c] 56)).drew = W1 at hi1 hD1 hB1 hs1 ⊢
  clear c0 c14 f14 p0 p1 p2 p3
  have c14 : W1.cell? ⟨x, 14, none⟩ = some (.int .i64 n) := hpc'.out ▸ hD1.cell 14 rfl
  have f14 : W1.frozen? ⟨x, 14, none⟩ = false := hD1.fx 14
  have hD1' := Lib.hid hD1
  have hi1' := Lib.hid hi1
  clear hD1 hi1
  go_upto_region 3 with (fail)
  have hD2 := hD1'.out.setPc ((n : Int) + 1)
  have hb2 : Below w.heap.size W1 (W1.setCell ⟨x, 14, none⟩ (.int .i64 ((n : Int) + 1))) → True := fun _ => trivial
  have hi2 : InsAt (W1.setCell ⟨x, 14, none⟩ (.int .i64 ((n : Int) + 1))) w.heap.size 0 ⟨1, a, b, c⟩ := hi1'.out.setCell_ne (by simpa using (Nat.ne_of_gt hxW))
  have hB2 := Lib.hid ((hB1.out.mono (Nat.le_trans hb01 hbW)).setCell (p := ⟨x, 14, none⟩) hb0x (.int .i64 ((n : Int) + 1)))
  clear c14 f14 hD1' hi1' hB1 hb2
  have hs2 : w.heap.size < (W1.setCell ⟨x, 14, none⟩ (.int .i64 ((n : Int) + 1))).heap.size := hi2.1
  generalize W1.setCell ⟨x, 14, none⟩ (.int .i64 ((n : Int) + 1)) = W2 at hD2 hi2 hB2 hs2 ⊢
  clear hs1 W1
  obtain ⟨-, i0, i1, i2, i3⟩ := hi2
  simp only [Nat.zero_add] at i0 i1 i2 i3
  have hD2' := Lib.hid hD2
  have e11 : W2.cell? ⟨x, 11, none⟩ = some (.slice (some ⟨rb, 0, none⟩) 16 16) := hD2.cell 11 rfl
  have ea : W2.cell? ⟨rb, a, none⟩ = some (.int .i64 (Mc.reg { m with pc := (n : Int) + 1 } a)) := hD2.reg a ha
  have ha' : (a : Int) < 16 := by omega
  have fa : W2.frozen? ⟨rb, a, none⟩ = false := hD2.fr a
  clear hD2
  go_wp2
  go_region
  all_goals
    have hD3 := (hD2'.out.setR a ha b).drew
    have hB3 := (hB2.out.setCell (p := ⟨rb, a, none⟩) hb0r (.int .i64 (b))).drew
    have hQ := Lib.hid (And.intro hD3 hB3)
    clear hD3 hB3
    generalize (W2.setCell ⟨rb, a, none⟩ (.int .i64 (b))).drew = W3 at hQ ⊢
    go_wp2
    go_ret2
    exact StepQ.on rfl hQ.out
set_option maxHeartbeats 2000000 in
theorem step_2 (h : DM b1 w x rb v W ev ov m) (hwa : ∀ w', Below b0 w w' → Wds w' v W) (hb0x : b0 ≤ x) (hb0r : b0 ≤ rb) (hb01 : b0 ≤ b1) (n : Nat) (hpc : m.pc = (n : Int)) (hn : n < v.pl) (a b : Nat) (c : Int) (ha : a < 16) (hb : b < 16) (hi : W.prog.getD n default = ⟨2, a, b, c⟩) :
    Calls Tryd.prog 25 #[.pointer (some ⟨x, 0, none⟩)] w (StepQ b0 b1 w x rb v W ev (.on (Mc.put { m with pc := (n : Int) + 1 } a (Mc.reg { m with pc := (n : Int) + 1 } b)))) := by
  have hw := hwa w (Below.refl _ _)
  have hwa' := Lib.hid hwa
  clear hwa
  have hn2 : n < W.prog.length := by rw [hw.1.1]; exact hn
  obtain ⟨pb, po, hpa, hpm⟩ : ∃ pb po, v.pa = some ⟨pb, po, none⟩ ∧ ∀ j, j < v.pl → InsAt w pb (po + j * 4) (W.prog.getD j default) := by
    rcases hw.1.2.2.2.2 with g | g
    · omega
    · exact g
  have hix : InsAt w pb (po + n * 4) ⟨2, a, b, c⟩ := by have := hpm n hn; rw [hi] at this; exact this
  have hpl : v.pl ≤ 9223372036854775807 := by have := hw.1.2.1; have := hw.1.2.2.1; unfold maxLen at *; omega
  have c0 : w.cell? ⟨x, 0, none⟩ = some (.slice (some ⟨pb, po, none⟩) v.pl v.pc) := hpa ▸ h.cell 0 rfl
  have c14 : w.cell? ⟨x, 14, none⟩ = some (.int .i64 n) := hpc ▸ h.cell 14 rfl
  have f14 : w.frozen? ⟨x, 14, none⟩ = false := h.fx 14
  have hxW := h.xw
  have hbW := h.hb
  have hpb := hix.1
  obtain ⟨-, p0, p1, p2, p3⟩ := hix
  have h' := Lib.hid h
  have hw' := Lib.hid hw
  have hi' := Lib.hid hi
  have hpa' := Lib.hid hpa
  have hpc' := Lib.hid hpc
  have hnI : (n : Int) < (v.pl : Int) := by omega
  clear h hw hi hpa hpm hpc
  go_enter Tryd.func25, Tryd.ntmps25
  go_wp2
  go_region
  have hi1 : InsAt ((w.alloc (.cells #[.int .i64 2, .int .i64 a, .int .i64 b, .int .i64 c] 56)).drew) w.heap.size 0 ⟨2, a, b, c⟩ := (InsAt.mk w 2 a b c).read (Read.drew _ 1)
  have hD1 := (h'.out.alloc (.cells #[.int .i64 2, .int .i64 a, .int .i64 b, .int .i64 c] 56)).drew
  have hB1 := Lib.hid (((Below.refl w.heap.size w).alloc (Nat.le_refl _) (.cells #[.int .i64 2, .int .i64 a, .int .i64 b, .int .i64 c] 56)).drew)
  have hs1 : w.heap.size < ((w.alloc (.cells #[.int .i64 2, .int .i64 a, .int .i64 b, .int .i64 c] 56)).drew).heap.size := hi1.1
  generalize (w.alloc (.cells #[.int .i64 2, .int .i64 a, .int .i64 b, .int .i64 c] 56)).drew = W1 at hi1 hD1 hB1 hs1 ⊢
  clear c0 c14 f14 p0 p1 p2 p3
  have c14 : W1.cell? ⟨x, 14, none⟩ = some (.int .i64 n) := hpc'.out ▸ hD1.cell 14 rfl
  have f14 : W1.frozen? ⟨x, 14, none⟩ = false := hD1.fx 14
  have hD1' := Lib.hid hD1
  have hi1' := Lib.hid hi1
  clear hD1 hi1
  go_upto_region 3 with (fail)
  have hD2 := hD1'.out.setPc ((n : Int) + 1)
  have hb2 : Below w.heap.size W1 (W1.setCell ⟨x, 14, none⟩ (.int .i64 ((n : Int) + 1))) → True := fun _ => trivial
  have hi2 : InsAt (W1.setCell ⟨x, 14, none⟩ (.int .i64 ((n : Int) + 1))) w.heap.size 0 ⟨2, a, b, c⟩ := hi1'.out.setCell_ne (by simpa using (Nat.ne_of_gt hxW))
  have hB2 := Lib.hid ((hB1.out.mono (Nat.le_trans hb01 hbW)).setCell (p := ⟨x, 14, none⟩) hb0x (.int .i64 ((n : Int) + 1)))
  clear c14 f14 hD1' hi1' hB1 hb2
  have hs2 : w.heap.size < (W1.setCell ⟨x, 14, none⟩ (.int .i64 ((n : Int) + 1))).heap.size := hi2.1
  generalize W1.setCell ⟨x, 14, none⟩ (.int .i64 ((n : Int) + 1)) = W2 at hD2 hi2 hB2 hs2 ⊢
  clear hs1 W1
  obtain ⟨-, i0, i1, i2, i3⟩ := hi2
  simp only [Nat.zero_add] at i0 i1 i2 i3
  have hD2' := Lib.hid hD2
  have e11 : W2.cell? ⟨x, 11, none⟩ = some (.slice (some ⟨rb, 0, none⟩) 16 16) := hD2.cell 11 rfl
  have ea : W2.cell? ⟨rb, a, none⟩ = some (.int .i64 (Mc.reg { m with pc := (n : Int) + 1 } a)) := hD2.reg a ha
  have ha' : (a : Int) < 16 := by omega
  have fa : W2.frozen? ⟨rb, a, none⟩ = false := hD2.fr a
  have eb : W2.cell? ⟨rb, b, none⟩ = some (.int .i64 (Mc.reg { m with pc := (n : Int) + 1 } b)) := hD2.reg b hb
  have hb' : (b : Int) < 16 := by omega
  clear hD2
  generalize Mc.reg { m with pc := (n : Int) + 1 } b = B at *
  go_wp2
  go_region
  all_goals
    have hD3 := (hD2'.out.setR a ha B).drew
    have hB3 := (hB2.out.setCell (p := ⟨rb, a, none⟩) hb0r (.int .i64 (B))).drew
    have hQ := Lib.hid (And.intro hD3 hB3)
    clear hD3 hB3
    generalize (W2.setCell ⟨rb, a, none⟩ (.int .i64 (B))).drew = W3 at hQ ⊢
    go_wp2
    go_ret2
    exact StepQ.on rfl hQ.out
set_option maxHeartbeats 2000000 in
theorem step_10 (h : DM b1 w x rb v W ev ov m) (hwa : ∀ w', Below b0 w w' → Wds w' v W) (hb0x : b0 ≤ x) (hb0r : b0 ≤ rb) (hb01 : b0 ≤ b1) (n : Nat) (hpc : m.pc = (n : Int)) (hn : n < v.pl) (a b c : Int) (hi : W.prog.getD n default = ⟨10, a, b, c⟩) :
    Calls Tryd.prog 25 #[.pointer (some ⟨x, 0, none⟩)] w (StepQ b0 b1 w x rb v W ev (.on { m with pc := a })) := by
  have hw := hwa w (Below.refl _ _)
  have hwa' := Lib.hid hwa
  clear hwa
  have hn2 : n < W.prog.length := by rw [hw.1.1]; exact hn
  obtain ⟨pb, po, hpa, hpm⟩ : ∃ pb po, v.pa = some ⟨pb, po, none⟩ ∧ ∀ j, j < v.pl → InsAt w pb (po + j * 4) (W.prog.getD j default) := by
    rcases hw.1.2.2.2.2 with g | g
    · omega
    · exact g
  have hix : InsAt w pb (po + n * 4) ⟨10, a, b, c⟩ := by have := hpm n hn; rw [hi] at this; exact this
  have hpl : v.pl ≤ 9223372036854775807 := by have := hw.1.2.1; have := hw.1.2.2.1; unfold maxLen at *; omega
  have c0 : w.cell? ⟨x, 0, none⟩ = some (.slice (some ⟨pb, po, none⟩) v.pl v.pc) := hpa ▸ h.cell 0 rfl
  have c14 : w.cell? ⟨x, 14, none⟩ = some (.int .i64 n) := hpc ▸ h.cell 14 rfl
  have f14 : w.frozen? ⟨x, 14, none⟩ = false := h.fx 14
  have hxW := h.xw
  have hbW := h.hb
  have hpb := hix.1
  obtain ⟨-, p0, p1, p2, p3⟩ := hix
  have h' := Lib.hid h
  have hw' := Lib.hid hw
  have hi' := Lib.hid hi
  have hpa' := Lib.hid hpa
  have hpc' := Lib.hid hpc
  have hnI : (n : Int) < (v.pl : Int) := by omega
  clear h hw hi hpa hpm hpc
  go_enter Tryd.func25, Tryd.ntmps25
  go_wp2
  go_region
  have hi1 : InsAt ((w.alloc (.cells #[.int .i64 10, .int .i64 a, .int .i64 b, .int .i64 c] 56)).drew) w.heap.size 0 ⟨10, a, b, c⟩ := (InsAt.mk w 10 a b c).read (Read.drew _ 1)
  have hD1 := (h'.out.alloc (.cells #[.int .i64 10, .int .i64 a, .int .i64 b, .int .i64 c] 56)).drew
  have hB1 := Lib.hid (((Below.refl w.heap.size w).alloc (Nat.le_refl _) (.cells #[.int .i64 10, .int .i64 a, .int .i64 b, .int .i64 c] 56)).drew)
  have hs1 : w.heap.size < ((w.alloc (.cells #[.int .i64 10, .int .i64 a, .int .i64 b, .int .i64 c] 56)).drew).heap.size := hi1.1
  generalize (w.alloc (.cells #[.int .i64 10, .int .i64 a, .int .i64 b, .int .i64 c] 56)).drew = W1 at hi1 hD1 hB1 hs1 ⊢
  clear c0 c14 f14 p0 p1 p2 p3
  have c14 : W1.cell? ⟨x, 14, none⟩ = some (.int .i64 n) := hpc'.out ▸ hD1.cell 14 rfl
  have f14 : W1.frozen? ⟨x, 14, none⟩ = false := hD1.fx 14
  have hD1' := Lib.hid hD1
  have hi1' := Lib.hid hi1
  clear hD1 hi1
  go_upto_region 3 with (fail)
  have hD2 := hD1'.out.setPc ((n : Int) + 1)
  have hb2 : Below w.heap.size W1 (W1.setCell ⟨x, 14, none⟩ (.int .i64 ((n : Int) + 1))) → True := fun _ => trivial
  have hi2 : InsAt (W1.setCell ⟨x, 14, none⟩ (.int .i64 ((n : Int) + 1))) w.heap.size 0 ⟨10, a, b, c⟩ := hi1'.out.setCell_ne (by simpa using (Nat.ne_of_gt hxW))
  have hB2 := Lib.hid ((hB1.out.mono (Nat.le_trans hb01 hbW)).setCell (p := ⟨x, 14, none⟩) hb0x (.int .i64 ((n : Int) + 1)))
  clear c14 f14 hD1' hi1' hB1 hb2
  have hs2 : w.heap.size < (W1.setCell ⟨x, 14, none⟩ (.int .i64 ((n : Int) + 1))).heap.size := hi2.1
  generalize W1.setCell ⟨x, 14, none⟩ (.int .i64 ((n : Int) + 1)) = W2 at hD2 hi2 hB2 hs2 ⊢
  clear hs1 W1
  obtain ⟨-, i0, i1, i2, i3⟩ := hi2
  simp only [Nat.zero_add] at i0 i1 i2 i3
  have hD2' := Lib.hid hD2
  have e14 : W2.cell? ⟨x, 14, none⟩ = some (.int .i64 ((n : Int) + 1)) := hD2.cell 14 rfl
  have f14 : W2.frozen? ⟨x, 14, none⟩ = false := hD2.fx 14
  have hQ := Lib.hid (And.intro (hD2.setPc a) (hB2.out.setCell (p := ⟨x, 14, none⟩) hb0x (.int .i64 a)))
  clear hD2
  go_wp2
  go_ret2
  exact StepQ.on rfl hQ.out
set_option maxHeartbeats 2000000 in
theorem step_11t (h : DM b1 w x rb v W ev ov m) (hwa : ∀ w', Below b0 w w' → Wds w' v W) (hb0x : b0 ≤ x) (hb0r : b0 ≤ rb) (hb01 : b0 ≤ b1) (n : Nat) (hpc : m.pc = (n : Int)) (hn : n < v.pl) (a : Nat) (b c : Int) (ha : a < 16) (hz : Mc.reg { m with pc := (n : Int) + 1 } a = 0) (hi : W.prog.getD n default = ⟨11, a, b, c⟩) :
    Calls Tryd.prog 25 #[.pointer (some ⟨x, 0, none⟩)] w (StepQ b0 b1 w x rb v W ev (.on { m with pc := b })) := by
  have hz' := Lib.hid hz
  clear hz
  have hw := hwa w (Below.refl _ _)
  have hwa' := Lib.hid hwa
  clear hwa
  have hn2 : n < W.prog.length := by rw [hw.1.1]; exact hn
  obtain ⟨pb, po, hpa, hpm⟩ : ∃ pb po, v.pa = some ⟨pb, po, none⟩ ∧ ∀ j, j < v.pl → InsAt w pb (po + j * 4) (W.prog.getD j default) := by
    rcases hw.1.2.2.2.2 with g | g
    · omega
    · exact g
  have hix : InsAt w pb (po + n * 4) ⟨11, a, b, c⟩ := by have := hpm n hn; rw [hi] at this; exact this
  have hpl : v.pl ≤ 9223372036854775807 := by have := hw.1.2.1; have := hw.1.2.2.1; unfold maxLen at *; omega
  have c0 : w.cell? ⟨x, 0, none⟩ = some (.slice (some ⟨pb, po, none⟩) v.pl v.pc) := hpa ▸ h.cell 0 rfl
  have c14 : w.cell? ⟨x, 14, none⟩ = some (.int .i64 n) := hpc ▸ h.cell 14 rfl
  have f14 : w.frozen? ⟨x, 14, none⟩ = false := h.fx 14
  have hxW := h.xw
  have hbW := h.hb
  have hpb := hix.1
  obtain ⟨-, p0, p1, p2, p3⟩ := hix
  have h' := Lib.hid h
  have hw' := Lib.hid hw
  have hi' := Lib.hid hi
  have hpa' := Lib.hid hpa
  have hpc' := Lib.hid hpc
  have hnI : (n : Int) < (v.pl : Int) := by omega
  clear h hw hi hpa hpm hpc
  go_enter Tryd.func25, Tryd.ntmps25
  go_wp2
  go_region
  have hi1 : InsAt ((w.alloc (.cells #[.int .i64 11, .int .i64 a, .int .i64 b, .int .i64 c] 56)).drew) w.heap.size 0 ⟨11, a, b, c⟩ := (InsAt.mk w 11 a b c).read (Read.drew _ 1)
  have hD1 := (h'.out.alloc (.cells #[.int .i64 11, .int .i64 a, .int .i64 b, .int .i64 c] 56)).drew
  have hB1 := Lib.hid (((Below.refl w.heap.size w).alloc (Nat.le_refl _) (.cells #[.int .i64 11, .int .i64 a, .int .i64 b, .int .i64 c] 56)).drew)
  have hs1 : w.heap.size < ((w.alloc (.cells #[.int .i64 11, .int .i64 a, .int .i64 b, .int .i64 c] 56)).drew).heap.size := hi1.1
  generalize (w.alloc (.cells #[.int .i64 11, .int .i64 a, .int .i64 b, .int .i64 c] 56)).drew = W1 at hi1 hD1 hB1 hs1 ⊢
  clear c0 c14 f14 p0 p1 p2 p3
  have c14 : W1.cell? ⟨x, 14, none⟩ = some (.int .i64 n) := hpc'.out ▸ hD1.cell 14 rfl
  have f14 : W1.frozen? ⟨x, 14, none⟩ = false := hD1.fx 14
  have hD1' := Lib.hid hD1
  have hi1' := Lib.hid hi1
  clear hD1 hi1
  go_upto_region 3 with (fail)
  have hD2 := hD1'.out.setPc ((n : Int) + 1)
  have hb2 : Below w.heap.size W1 (W1.setCell ⟨x, 14, none⟩ (.int .i64 ((n : Int) + 1))) → True := fun _ => trivial
  have hi2 : InsAt (W1.setCell ⟨x, 14, none⟩ (.int .i64 ((n : Int) + 1))) w.heap.size 0 ⟨11, a, b, c⟩ := hi1'.out.setCell_ne (by simpa using (Nat.ne_of_gt hxW))
  have hB2 := Lib.hid ((hB1.out.mono (Nat.le_trans hb01 hbW)).setCell (p := ⟨x, 14, none⟩) hb0x (.int .i64 ((n : Int) + 1)))
  clear c14 f14 hD1' hi1' hB1 hb2
  have hs2 : w.heap.size < (W1.setCell ⟨x, 14, none⟩ (.int .i64 ((n : Int) + 1))).heap.size := hi2.1
  generalize W1.setCell ⟨x, 14, none⟩ (.int .i64 ((n : Int) + 1)) = W2 at hD2 hi2 hB2 hs2 ⊢
  clear hs1 W1
  obtain ⟨-, i0, i1, i2, i3⟩ := hi2
  simp only [Nat.zero_add] at i0 i1 i2 i3
  have hD2' := Lib.hid hD2
  have e11 : W2.cell? ⟨x, 11, none⟩ = some (.slice (some ⟨rb, 0, none⟩) 16 16) := hD2.cell 11 rfl
  have ea : W2.cell? ⟨rb, a, none⟩ = some (.int .i64 (Mc.reg { m with pc := (n : Int) + 1 } a)) := hD2.reg a ha
  have ha' : (a : Int) < 16 := by omega
  rw [hz'.out] at ea
  clear hz'
  clear hD2
  go_wp2
  go_quiet (fail)
  have hD3 := hD2'.out.below (Read.drew W2 nq).below
  have hB3 := hB2.out.trans ((Read.drew W2 nq).below.mono (Nat.le_trans hb01 hD2'.out.hb))
  have hi3 := (show InsAt W2 w.heap.size 0 ⟨11, a, b, c⟩ from ⟨hs2, i0, i1, i2, i3⟩).read (Read.drew W2 nq)
  generalize W2.drewN nq = W3 at hD3 hB3 hi3 ⊢
  obtain ⟨-, j0, j1, j2, j3⟩ := hi3
  simp only [Nat.zero_add] at j0 j1 j2 j3
  have e14 : W3.cell? ⟨x, 14, none⟩ = some (.int .i64 ((n : Int) + 1)) := hD3.cell 14 rfl
  have f14 : W3.frozen? ⟨x, 14, none⟩ = false := hD3.fx 14
  have hQ := Lib.hid (And.intro (hD3.setPc b) (hB3.setCell (p := ⟨x, 14, none⟩) hb0x (.int .i64 b)))
  clear hD3 hB3
  go_wp2
  go_ret2
  exact StepQ.on rfl hQ.out
set_option maxHeartbeats 2000000 in
theorem step_11f (h : DM b1 w x rb v W ev ov m) (hwa : ∀ w', Below b0 w w' → Wds w' v W) (hb0x : b0 ≤ x) (hb0r : b0 ≤ rb) (hb01 : b0 ≤ b1) (n : Nat) (hpc : m.pc = (n : Int)) (hn : n < v.pl) (a : Nat) (b c : Int) (ha : a < 16) (hz : ¬ Mc.reg { m with pc := (n : Int) + 1 } a = 0) (hi : W.prog.getD n default = ⟨11, a, b, c⟩) :
    Calls Tryd.prog 25 #[.pointer (some ⟨x, 0, none⟩)] w (StepQ b0 b1 w x rb v W ev (.on { m with pc := (n : Int) + 1 })) := by
  have hz' : (Mc.reg { m with pc := (n : Int) + 1 } a == 0) = false := by simpa using hz
  clear hz
  have hw := hwa w (Below.refl _ _)
  have hwa' := Lib.hid hwa
  clear hwa
  have hn2 : n < W.prog.length := by rw [hw.1.1]; exact hn
  obtain ⟨pb, po, hpa, hpm⟩ : ∃ pb po, v.pa = some ⟨pb, po, none⟩ ∧ ∀ j, j < v.pl → InsAt w pb (po + j * 4) (W.prog.getD j default) := by
    rcases hw.1.2.2.2.2 with g | g
    · omega
    · exact g
  have hix : InsAt w pb (po + n * 4) ⟨11, a, b, c⟩ := by have := hpm n hn; rw [hi] at this; exact this
  have hpl : v.pl ≤ 9223372036854775807 := by have := hw.1.2.1; have := hw.1.2.2.1; unfold maxLen at *; omega
  have c0 : w.cell? ⟨x, 0, none⟩ = some (.slice (some ⟨pb, po, none⟩) v.pl v.pc) := hpa ▸ h.cell 0 rfl
  have c14 : w.cell? ⟨x, 14, none⟩ = some (.int .i64 n) := hpc ▸ h.cell 14 rfl
  have f14 : w.frozen? ⟨x, 14, none⟩ = false := h.fx 14
  have hxW := h.xw
  have hbW := h.hb
  have hpb := hix.1
  obtain ⟨-, p0, p1, p2, p3⟩ := hix
  have h' := Lib.hid h
  have hw' := Lib.hid hw
  have hi' := Lib.hid hi
  have hpa' := Lib.hid hpa
  have hpc' := Lib.hid hpc
  have hnI : (n : Int) < (v.pl : Int) := by omega
  clear h hw hi hpa hpm hpc
  go_enter Tryd.func25, Tryd.ntmps25
  go_wp2
  go_region
  have hi1 : InsAt ((w.alloc (.cells #[.int .i64 11, .int .i64 a, .int .i64 b, .int .i64 c] 56)).drew) w.heap.size 0 ⟨11, a, b, c⟩ := (InsAt.mk w 11 a b c).read (Read.drew _ 1)
  have hD1 := (h'.out.alloc (.cells #[.int .i64 11, .int .i64 a, .int .i64 b, .int .i64 c] 56)).drew
  have hB1 := Lib.hid (((Below.refl w.heap.size w).alloc (Nat.le_refl _) (.cells #[.int .i64 11, .int .i64 a, .int .i64 b, .int .i64 c] 56)).drew)
  have hs1 : w.heap.size < ((w.alloc (.cells #[.int .i64 11, .int .i64 a, .int .i64 b, .int .i64 c] 56)).drew).heap.size := hi1.1
  generalize (w.alloc (.cells #[.int .i64 11, .int .i64 a, .int .i64 b, .int .i64 c] 56)).drew = W1 at hi1 hD1 hB1 hs1 ⊢
  clear c0 c14 f14 p0 p1 p2 p3
  have c14 : W1.cell? ⟨x, 14, none⟩ = some (.int .i64 n) := hpc'.out ▸ hD1.cell 14 rfl
  have f14 : W1.frozen? ⟨x, 14, none⟩ = false := hD1.fx 14
  have hD1' := Lib.hid hD1
  have hi1' := Lib.hid hi1
  clear hD1 hi1
  go_upto_region 3 with (fail)
  have hD2 := hD1'.out.setPc ((n : Int) + 1)
  have hb2 : Below w.heap.size W1 (W1.setCell ⟨x, 14, none⟩ (.int .i64 ((n : Int) + 1))) → True := fun _ => trivial
  have hi2 : InsAt (W1.setCell ⟨x, 14, none⟩ (.int .i64 ((n : Int) + 1))) w.heap.size 0 ⟨11, a, b, c⟩ := hi1'.out.setCell_ne (by simpa using (Nat.ne_of_gt hxW))
  have hB2 := Lib.hid ((hB1.out.mono (Nat.le_trans hb01 hbW)).setCell (p := ⟨x, 14, none⟩) hb0x (.int .i64 ((n : Int) + 1)))
  clear c14 f14 hD1' hi1' hB1 hb2
  have hs2 : w.heap.size < (W1.setCell ⟨x, 14, none⟩ (.int .i64 ((n : Int) + 1))).heap.size := hi2.1
  generalize W1.setCell ⟨x, 14, none⟩ (.int .i64 ((n : Int) + 1)) = W2 at hD2 hi2 hB2 hs2 ⊢
  clear hs1 W1
  obtain ⟨-, i0, i1, i2, i3⟩ := hi2
  simp only [Nat.zero_add] at i0 i1 i2 i3
  have hD2' := Lib.hid hD2
  have e11 : W2.cell? ⟨x, 11, none⟩ = some (.slice (some ⟨rb, 0, none⟩) 16 16) := hD2.cell 11 rfl
  have ea : W2.cell? ⟨rb, a, none⟩ = some (.int .i64 (Mc.reg { m with pc := (n : Int) + 1 } a)) := hD2.reg a ha
  have ha' : (a : Int) < 16 := by omega
  generalize Mc.reg { m with pc := (n : Int) + 1 } a = A at ea hz'
  clear hD2
  go_wp2
  go_quiet (fail)
  have hD3 := hD2'.out.below (Read.drew W2 nq).below
  have hB3 := hB2.out.trans ((Read.drew W2 nq).below.mono (Nat.le_trans hb01 hD2'.out.hb))
  have hi3 := (show InsAt W2 w.heap.size 0 ⟨11, a, b, c⟩ from ⟨hs2, i0, i1, i2, i3⟩).read (Read.drew W2 nq)
  generalize W2.drewN nq = W3 at hD3 hB3 hi3 ⊢
  obtain ⟨-, j0, j1, j2, j3⟩ := hi3
  simp only [Nat.zero_add] at j0 j1 j2 j3
  have hQ := Lib.hid (And.intro hD3 hB3)
  clear hD3 hB3
  go_wp2
  go_ret2
  exact StepQ.on rfl hQ.out
set_option maxHeartbeats 2000000 in
theorem step_13 (h : DM b1 w x rb v W ev ov m) (hwa : ∀ w', Below b0 w w' → Wds w' v W) (hb0x : b0 ≤ x) (hb0r : b0 ≤ rb) (hb01 : b0 ≤ b1) (n : Nat) (hpc : m.pc = (n : Int)) (hn : n < v.pl) (a b : Nat) (c : Int) (ha : a < 16) (hb : b < 16) (hd : 0 ≤ m.d ∧ m.d ≤ 1152921504606846976) (hrb : Mc.reg m b ≤ 9223372036854775807) (hi : W.prog.getD n default = ⟨13, a, b, c⟩) :
    Calls Tryd.prog 25 #[.pointer (some ⟨x, 0, none⟩)] w (StepQ b0 b1 w x rb v W ev (.on { Mc.put { m with pc := (n : Int) + 1 } a (belowP W.seed W.self m.d (Mc.reg { m with pc := (n : Int) + 1 } b)) with d := m.d + 1 })) := by
  have hcall := fun w => below_P W.seed W.self m.d (Mc.reg { m with pc := (n : Int) + 1 } b) hrb w
  have hw := hwa w (Below.refl _ _)
  have hwa' := Lib.hid hwa
  clear hwa
  have hn2 : n < W.prog.length := by rw [hw.1.1]; exact hn
  obtain ⟨pb, po, hpa, hpm⟩ : ∃ pb po, v.pa = some ⟨pb, po, none⟩ ∧ ∀ j, j < v.pl → InsAt w pb (po + j * 4) (W.prog.getD j default) := by
    rcases hw.1.2.2.2.2 with g | g
    · omega
    · exact g
  have hix : InsAt w pb (po + n * 4) ⟨13, a, b, c⟩ := by have := hpm n hn; rw [hi] at this; exact this
  have hpl : v.pl ≤ 9223372036854775807 := by have := hw.1.2.1; have := hw.1.2.2.1; unfold maxLen at *; omega
  have c0 : w.cell? ⟨x, 0, none⟩ = some (.slice (some ⟨pb, po, none⟩) v.pl v.pc) := hpa ▸ h.cell 0 rfl
  have c14 : w.cell? ⟨x, 14, none⟩ = some (.int .i64 n) := hpc ▸ h.cell 14 rfl
  have f14 : w.frozen? ⟨x, 14, none⟩ = false := h.fx 14
  have hxW := h.xw
  have hbW := h.hb
  have hpb := hix.1
  obtain ⟨-, p0, p1, p2, p3⟩ := hix
  have h' := Lib.hid h
  have hw' := Lib.hid hw
  have hi' := Lib.hid hi
  have hpa' := Lib.hid hpa
  have hpc' := Lib.hid hpc
  have hnI : (n : Int) < (v.pl : Int) := by omega
  clear h hw hi hpa hpm hpc
  go_enter Tryd.func25, Tryd.ntmps25
  go_wp2
  go_region
  have hi1 : InsAt ((w.alloc (.cells #[.int .i64 13, .int .i64 a, .int .i64 b, .int .i64 c] 56)).drew) w.heap.size 0 ⟨13, a, b, c⟩ := (InsAt.mk w 13 a b c).read (Read.drew _ 1)
  have hD1 := (h'.out.alloc (.cells #[.int .i64 13, .int .i64 a, .int .i64 b, .int .i64 c] 56)).drew
  have hB1 := Lib.hid (((Below.refl w.heap.size w).alloc (Nat.le_refl _) (.cells #[.int .i64 13, .int .i64 a, .int .i64 b, .int .i64 c] 56)).drew)
  have hs1 : w.heap.size < ((w.alloc (.cells #[.int .i64 13, .int .i64 a, .int .i64 b, .int .i64 c] 56)).drew).heap.size := hi1.1
  generalize (w.alloc (.cells #[.int .i64 13, .int .i64 a, .int .i64 b, .int .i64 c] 56)).drew = W1 at hi1 hD1 hB1 hs1 ⊢
  clear c0 c14 f14 p0 p1 p2 p3
  have c14 : W1.cell? ⟨x, 14, none⟩ = some (.int .i64 n) := hpc'.out ▸ hD1.cell 14 rfl
  have f14 : W1.frozen? ⟨x, 14, none⟩ = false := hD1.fx 14
  have hD1' := Lib.hid hD1
  have hi1' := Lib.hid hi1
  clear hD1 hi1
  go_upto_region 3 with (fail)
  have hD2 := hD1'.out.setPc ((n : Int) + 1)
  have hb2 : Below w.heap.size W1 (W1.setCell ⟨x, 14, none⟩ (.int .i64 ((n : Int) + 1))) → True := fun _ => trivial
  have hi2 : InsAt (W1.setCell ⟨x, 14, none⟩ (.int .i64 ((n : Int) + 1))) w.heap.size 0 ⟨13, a, b, c⟩ := hi1'.out.setCell_ne (by simpa using (Nat.ne_of_gt hxW))
  have hB2 := Lib.hid ((hB1.out.mono (Nat.le_trans hb01 hbW)).setCell (p := ⟨x, 14, none⟩) hb0x (.int .i64 ((n : Int) + 1)))
  clear c14 f14 hD1' hi1' hB1 hb2
  have hs2 : w.heap.size < (W1.setCell ⟨x, 14, none⟩ (.int .i64 ((n : Int) + 1))).heap.size := hi2.1
  generalize W1.setCell ⟨x, 14, none⟩ (.int .i64 ((n : Int) + 1)) = W2 at hD2 hi2 hB2 hs2 ⊢
  clear hs1 W1
  obtain ⟨-, i0, i1, i2, i3⟩ := hi2
  simp only [Nat.zero_add] at i0 i1 i2 i3
  have hD2' := Lib.hid hD2
  have e11 : W2.cell? ⟨x, 11, none⟩ = some (.slice (some ⟨rb, 0, none⟩) 16 16) := hD2.cell 11 rfl
  have ea : W2.cell? ⟨rb, a, none⟩ = some (.int .i64 (Mc.reg { m with pc := (n : Int) + 1 } a)) := hD2.reg a ha
  have ha' : (a : Int) < 16 := by omega
  have fa : W2.frozen? ⟨rb, a, none⟩ = false := hD2.fr a
  have eb : W2.cell? ⟨rb, b, none⟩ = some (.int .i64 (Mc.reg { m with pc := (n : Int) + 1 } b)) := hD2.reg b hb
  have hb' : (b : Int) < 16 := by omega
  have d3 : W2.cell? ⟨x, 3, none⟩ = some (.int .u64 W.seed) := hD2.cell 3 rfl
  have d1 : W2.cell? ⟨x, 1, none⟩ = some (.int .i64 W.self) := hD2.cell 1 rfl
  have d12 : W2.cell? ⟨x, 12, none⟩ = some (.int .i64 m.d) := hD2.cell 12 rfl
  clear hD2
  generalize Mc.reg { m with pc := (n : Int) + 1 } b = B at *
  generalize belowP W.seed W.self m.d B = Z at *
  go_upto_region 20 with (fail)
  have hD3 := hD2'.out.drew
  have hB3 := Lib.hid hB2.out.drew
  have j1 : W2.drew.cell? ⟨w.heap.size, 1, none⟩ = some (.int .i64 a) := i1
  have j2 : W2.drew.cell? ⟨w.heap.size, 2, none⟩ = some (.int .i64 b) := i2
  have g11 : W2.drew.cell? ⟨x, 11, none⟩ = some (.slice (some ⟨rb, 0, none⟩) 16 16) := e11
  have g1 : W2.drew.cell? ⟨x, 1, none⟩ = some (.int .i64 W.self) := d1
  have g3 : W2.drew.cell? ⟨x, 3, none⟩ = some (.int .u64 W.seed) := d3
  have g12 : W2.drew.cell? ⟨x, 12, none⟩ = some (.int .i64 m.d) := d12
  have ga : W2.drew.cell? ⟨rb, a, none⟩ = some _ := ea
  have gb : W2.drew.cell? ⟨rb, b, none⟩ = some (.int .i64 B) := eb
  have gf : W2.drew.frozen? ⟨rb, a, none⟩ = false := fa
  have hD3' := Lib.hid hD3
  refine wp_region_still_tail 30 (by kernel_rfl) (by kernel_rfl) ?_
  change wpStill _ _ W2.drew (fun a' => wpList _ _ _ _ a' W2.drew) _ _
  clear hD3 i0 i1 i2 i3 e11 ea eb fa hD2' hB2 hs2 d3 d1 d12
  generalize W2.drew = W3 at *
  simp only [List.take_succ_cons, List.take_zero, List.drop_succ_cons, List.drop_zero]
  repeat still_step
  still_call ((hcall _).mono fun e w'' h => ⟨h.1, h.2.symm⟩)
  repeat still_step
  refine wpStill_nil ?_
  clear hcall
  go_upto_region 21 with (fail)
  have hD4 := hD3'.out.setR a ha Z
  have hB4 := Lib.hid (hB3.out.setCell (p := ⟨rb, a, none⟩) hb0r (.int .i64 Z))
  clear g11 g1 g3 g12 ga gb gf j1 j2 hD3' hB3
  generalize W3.setCell ⟨rb, a, none⟩ (.int .i64 Z) = W4 at *
  have q12 : W4.cell? ⟨x, 12, none⟩ = some (.int .i64 m.d) := hD4.cell 12 rfl
  have qf : W4.frozen? ⟨x, 12, none⟩ = false := hD4.fx 12
  have hQ := Lib.hid (And.intro (hD4.setD (m.d + 1)) (hB4.out.setCell (p := ⟨x, 12, none⟩) hb0x (.int .i64 (m.d + 1))))
  clear hD4
  obtain ⟨hd1, hd2⟩ := hd
  go_wp2
  go_ret2
  exact StepQ.on rfl hQ.out
set_option maxHeartbeats 2000000 in
theorem step_14 (h : DM b1 w x rb v W ev ov m) (hwa : ∀ w', Below b0 w w' → Wds w' v W) (hb0x : b0 ≤ x) (hb0r : b0 ≤ rb) (hb01 : b0 ≤ b1) (n : Nat) (hpc : m.pc = (n : Int)) (hn : n < v.pl) (a : Nat) (b c : Int) (ha : a < 16) (hi : W.prog.getD n default = ⟨14, a, b, c⟩) :
    Calls Tryd.prog 25 #[.pointer (some ⟨x, 0, none⟩)] w (StepQ b0 b1 w x rb v W ev (.on (Mc.put { m with pc := (n : Int) + 1 } a ev.v))) := by
  have hw := hwa w (Below.refl _ _)
  have hwa' := Lib.hid hwa
  clear hwa
  have hn2 : n < W.prog.length := by rw [hw.1.1]; exact hn
  obtain ⟨pb, po, hpa, hpm⟩ : ∃ pb po, v.pa = some ⟨pb, po, none⟩ ∧ ∀ j, j < v.pl → InsAt w pb (po + j * 4) (W.prog.getD j default) := by
    rcases hw.1.2.2.2.2 with g | g
    · omega
    · exact g
  have hix : InsAt w pb (po + n * 4) ⟨14, a, b, c⟩ := by have := hpm n hn; rw [hi] at this; exact this
  have hpl : v.pl ≤ 9223372036854775807 := by have := hw.1.2.1; have := hw.1.2.2.1; unfold maxLen at *; omega
  have c0 : w.cell? ⟨x, 0, none⟩ = some (.slice (some ⟨pb, po, none⟩) v.pl v.pc) := hpa ▸ h.cell 0 rfl
  have c14 : w.cell? ⟨x, 14, none⟩ = some (.int .i64 n) := hpc ▸ h.cell 14 rfl
  have f14 : w.frozen? ⟨x, 14, none⟩ = false := h.fx 14
  have hxW := h.xw
  have hbW := h.hb
  have hpb := hix.1
  obtain ⟨-, p0, p1, p2, p3⟩ := hix
  have h' := Lib.hid h
  have hw' := Lib.hid hw
  have hi' := Lib.hid hi
  have hpa' := Lib.hid hpa
  have hpc' := Lib.hid hpc
  have hnI : (n : Int) < (v.pl : Int) := by omega
  clear h hw hi hpa hpm hpc
  go_enter Tryd.func25, Tryd.ntmps25
  go_wp2
  go_region
  have hi1 : InsAt ((w.alloc (.cells #[.int .i64 14, .int .i64 a, .int .i64 b, .int .i64 c] 56)).drew) w.heap.size 0 ⟨14, a, b, c⟩ := (InsAt.mk w 14 a b c).read (Read.drew _ 1)
  have hD1 := (h'.out.alloc (.cells #[.int .i64 14, .int .i64 a, .int .i64 b, .int .i64 c] 56)).drew
  have hB1 := Lib.hid (((Below.refl w.heap.size w).alloc (Nat.le_refl _) (.cells #[.int .i64 14, .int .i64 a, .int .i64 b, .int .i64 c] 56)).drew)
  have hs1 : w.heap.size < ((w.alloc (.cells #[.int .i64 14, .int .i64 a, .int .i64 b, .int .i64 c] 56)).drew).heap.size := hi1.1
  generalize (w.alloc (.cells #[.int .i64 14, .int .i64 a, .int .i64 b, .int .i64 c] 56)).drew = W1 at hi1 hD1 hB1 hs1 ⊢
  clear c0 c14 f14 p0 p1 p2 p3
  have c14 : W1.cell? ⟨x, 14, none⟩ = some (.int .i64 n) := hpc'.out ▸ hD1.cell 14 rfl
  have f14 : W1.frozen? ⟨x, 14, none⟩ = false := hD1.fx 14
  have hD1' := Lib.hid hD1
  have hi1' := Lib.hid hi1
  clear hD1 hi1
  go_upto_region 3 with (fail)
  have hD2 := hD1'.out.setPc ((n : Int) + 1)
  have hb2 : Below w.heap.size W1 (W1.setCell ⟨x, 14, none⟩ (.int .i64 ((n : Int) + 1))) → True := fun _ => trivial
  have hi2 : InsAt (W1.setCell ⟨x, 14, none⟩ (.int .i64 ((n : Int) + 1))) w.heap.size 0 ⟨14, a, b, c⟩ := hi1'.out.setCell_ne (by simpa using (Nat.ne_of_gt hxW))
  have hB2 := Lib.hid ((hB1.out.mono (Nat.le_trans hb01 hbW)).setCell (p := ⟨x, 14, none⟩) hb0x (.int .i64 ((n : Int) + 1)))
  clear c14 f14 hD1' hi1' hB1 hb2
  have hs2 : w.heap.size < (W1.setCell ⟨x, 14, none⟩ (.int .i64 ((n : Int) + 1))).heap.size := hi2.1
  generalize W1.setCell ⟨x, 14, none⟩ (.int .i64 ((n : Int) + 1)) = W2 at hD2 hi2 hB2 hs2 ⊢
  clear hs1 W1
  obtain ⟨-, i0, i1, i2, i3⟩ := hi2
  simp only [Nat.zero_add] at i0 i1 i2 i3
  have hD2' := Lib.hid hD2
  have e11 : W2.cell? ⟨x, 11, none⟩ = some (.slice (some ⟨rb, 0, none⟩) 16 16) := hD2.cell 11 rfl
  have ea : W2.cell? ⟨rb, a, none⟩ = some (.int .i64 (Mc.reg { m with pc := (n : Int) + 1 } a)) := hD2.reg a ha
  have ha' : (a : Int) < 16 := by omega
  have fa : W2.frozen? ⟨rb, a, none⟩ = false := hD2.fr a
  have ev0 : W2.cell? ⟨x, 8, none⟩ = some (.int .i64 ev.v) := hD2.cell 8 rfl
  clear hD2
  go_wp2
  go_region
  all_goals
    have hD3 := (hD2'.out.setR a ha ev.v).drew
    have hB3 := (hB2.out.setCell (p := ⟨rb, a, none⟩) hb0r (.int .i64 (ev.v))).drew
    have hQ := Lib.hid (And.intro hD3 hB3)
    clear hD3 hB3
    generalize (W2.setCell ⟨rb, a, none⟩ (.int .i64 (ev.v))).drew = W3 at hQ ⊢
    go_wp2
    go_ret2
    exact StepQ.on rfl hQ.out
set_option maxHeartbeats 2000000 in
theorem step_15 (h : DM b1 w x rb v W ev ov m) (hwa : ∀ w', Below b0 w w' → Wds w' v W) (hb0x : b0 ≤ x) (hb0r : b0 ≤ rb) (hb01 : b0 ≤ b1) (n : Nat) (hpc : m.pc = (n : Int)) (hn : n < v.pl) (a : Nat) (b c : Int) (ha : a < 16) (hi : W.prog.getD n default = ⟨15, a, b, c⟩) :
    Calls Tryd.prog 25 #[.pointer (some ⟨x, 0, none⟩)] w (StepQ b0 b1 w x rb v W ev (.on (Mc.put { m with pc := (n : Int) + 1 } a ev.k.t))) := by
  have hw := hwa w (Below.refl _ _)
  have hwa' := Lib.hid hwa
  clear hwa
  have hn2 : n < W.prog.length := by rw [hw.1.1]; exact hn
  obtain ⟨pb, po, hpa, hpm⟩ : ∃ pb po, v.pa = some ⟨pb, po, none⟩ ∧ ∀ j, j < v.pl → InsAt w pb (po + j * 4) (W.prog.getD j default) := by
    rcases hw.1.2.2.2.2 with g | g
    · omega
    · exact g
  have hix : InsAt w pb (po + n * 4) ⟨15, a, b, c⟩ := by have := hpm n hn; rw [hi] at this; exact this
  have hpl : v.pl ≤ 9223372036854775807 := by have := hw.1.2.1; have := hw.1.2.2.1; unfold maxLen at *; omega
  have c0 : w.cell? ⟨x, 0, none⟩ = some (.slice (some ⟨pb, po, none⟩) v.pl v.pc) := hpa ▸ h.cell 0 rfl
  have c14 : w.cell? ⟨x, 14, none⟩ = some (.int .i64 n) := hpc ▸ h.cell 14 rfl
  have f14 : w.frozen? ⟨x, 14, none⟩ = false := h.fx 14
  have hxW := h.xw
  have hbW := h.hb
  have hpb := hix.1
  obtain ⟨-, p0, p1, p2, p3⟩ := hix
  have h' := Lib.hid h
  have hw' := Lib.hid hw
  have hi' := Lib.hid hi
  have hpa' := Lib.hid hpa
  have hpc' := Lib.hid hpc
  have hnI : (n : Int) < (v.pl : Int) := by omega
  clear h hw hi hpa hpm hpc
  go_enter Tryd.func25, Tryd.ntmps25
  go_wp2
  go_region
  have hi1 : InsAt ((w.alloc (.cells #[.int .i64 15, .int .i64 a, .int .i64 b, .int .i64 c] 56)).drew) w.heap.size 0 ⟨15, a, b, c⟩ := (InsAt.mk w 15 a b c).read (Read.drew _ 1)
  have hD1 := (h'.out.alloc (.cells #[.int .i64 15, .int .i64 a, .int .i64 b, .int .i64 c] 56)).drew
  have hB1 := Lib.hid (((Below.refl w.heap.size w).alloc (Nat.le_refl _) (.cells #[.int .i64 15, .int .i64 a, .int .i64 b, .int .i64 c] 56)).drew)
  have hs1 : w.heap.size < ((w.alloc (.cells #[.int .i64 15, .int .i64 a, .int .i64 b, .int .i64 c] 56)).drew).heap.size := hi1.1
  generalize (w.alloc (.cells #[.int .i64 15, .int .i64 a, .int .i64 b, .int .i64 c] 56)).drew = W1 at hi1 hD1 hB1 hs1 ⊢
  clear c0 c14 f14 p0 p1 p2 p3
  have c14 : W1.cell? ⟨x, 14, none⟩ = some (.int .i64 n) := hpc'.out ▸ hD1.cell 14 rfl
  have f14 : W1.frozen? ⟨x, 14, none⟩ = false := hD1.fx 14
  have hD1' := Lib.hid hD1
  have hi1' := Lib.hid hi1
  clear hD1 hi1
  go_upto_region 3 with (fail)
  have hD2 := hD1'.out.setPc ((n : Int) + 1)
  have hb2 : Below w.heap.size W1 (W1.setCell ⟨x, 14, none⟩ (.int .i64 ((n : Int) + 1))) → True := fun _ => trivial
  have hi2 : InsAt (W1.setCell ⟨x, 14, none⟩ (.int .i64 ((n : Int) + 1))) w.heap.size 0 ⟨15, a, b, c⟩ := hi1'.out.setCell_ne (by simpa using (Nat.ne_of_gt hxW))
  have hB2 := Lib.hid ((hB1.out.mono (Nat.le_trans hb01 hbW)).setCell (p := ⟨x, 14, none⟩) hb0x (.int .i64 ((n : Int) + 1)))
  clear c14 f14 hD1' hi1' hB1 hb2
  have hs2 : w.heap.size < (W1.setCell ⟨x, 14, none⟩ (.int .i64 ((n : Int) + 1))).heap.size := hi2.1
  generalize W1.setCell ⟨x, 14, none⟩ (.int .i64 ((n : Int) + 1)) = W2 at hD2 hi2 hB2 hs2 ⊢
  clear hs1 W1
  obtain ⟨-, i0, i1, i2, i3⟩ := hi2
  simp only [Nat.zero_add] at i0 i1 i2 i3
  have hD2' := Lib.hid hD2
  have e11 : W2.cell? ⟨x, 11, none⟩ = some (.slice (some ⟨rb, 0, none⟩) 16 16) := hD2.cell 11 rfl
  have ea : W2.cell? ⟨rb, a, none⟩ = some (.int .i64 (Mc.reg { m with pc := (n : Int) + 1 } a)) := hD2.reg a ha
  have ha' : (a : Int) < 16 := by omega
  have fa : W2.frozen? ⟨rb, a, none⟩ = false := hD2.fr a
  have ev0 : W2.cell? ⟨x, 4, none⟩ = some (.int .i64 ev.k.t) := hD2.cell 4 rfl
  clear hD2
  go_wp2
  go_region
  all_goals
    have hD3 := (hD2'.out.setR a ha ev.k.t).drew
    have hB3 := (hB2.out.setCell (p := ⟨rb, a, none⟩) hb0r (.int .i64 (ev.k.t))).drew
    have hQ := Lib.hid (And.intro hD3 hB3)
    clear hD3 hB3
    generalize (W2.setCell ⟨rb, a, none⟩ (.int .i64 (ev.k.t))).drew = W3 at hQ ⊢
    go_wp2
    go_ret2
    exact StepQ.on rfl hQ.out
set_option maxHeartbeats 2000000 in
theorem step_16 (h : DM b1 w x rb v W ev ov m) (hwa : ∀ w', Below b0 w w' → Wds w' v W) (hb0x : b0 ≤ x) (hb0r : b0 ≤ rb) (hb01 : b0 ≤ b1) (n : Nat) (hpc : m.pc = (n : Int)) (hn : n < v.pl) (a : Nat) (b c : Int) (ha : a < 16) (hi : W.prog.getD n default = ⟨16, a, b, c⟩) :
    Calls Tryd.prog 25 #[.pointer (some ⟨x, 0, none⟩)] w (StepQ b0 b1 w x rb v W ev (.on (Mc.put { m with pc := (n : Int) + 1 } a W.self))) := by
  have hw := hwa w (Below.refl _ _)
  have hwa' := Lib.hid hwa
  clear hwa
  have hn2 : n < W.prog.length := by rw [hw.1.1]; exact hn
  obtain ⟨pb, po, hpa, hpm⟩ : ∃ pb po, v.pa = some ⟨pb, po, none⟩ ∧ ∀ j, j < v.pl → InsAt w pb (po + j * 4) (W.prog.getD j default) := by
    rcases hw.1.2.2.2.2 with g | g
    · omega
    · exact g
  have hix : InsAt w pb (po + n * 4) ⟨16, a, b, c⟩ := by have := hpm n hn; rw [hi] at this; exact this
  have hpl : v.pl ≤ 9223372036854775807 := by have := hw.1.2.1; have := hw.1.2.2.1; unfold maxLen at *; omega
  have c0 : w.cell? ⟨x, 0, none⟩ = some (.slice (some ⟨pb, po, none⟩) v.pl v.pc) := hpa ▸ h.cell 0 rfl
  have c14 : w.cell? ⟨x, 14, none⟩ = some (.int .i64 n) := hpc ▸ h.cell 14 rfl
  have f14 : w.frozen? ⟨x, 14, none⟩ = false := h.fx 14
  have hxW := h.xw
  have hbW := h.hb
  have hpb := hix.1
  obtain ⟨-, p0, p1, p2, p3⟩ := hix
  have h' := Lib.hid h
  have hw' := Lib.hid hw
  have hi' := Lib.hid hi
  have hpa' := Lib.hid hpa
  have hpc' := Lib.hid hpc
  have hnI : (n : Int) < (v.pl : Int) := by omega
  clear h hw hi hpa hpm hpc
  go_enter Tryd.func25, Tryd.ntmps25
  go_wp2
  go_region
  have hi1 : InsAt ((w.alloc (.cells #[.int .i64 16, .int .i64 a, .int .i64 b, .int .i64 c] 56)).drew) w.heap.size 0 ⟨16, a, b, c⟩ := (InsAt.mk w 16 a b c).read (Read.drew _ 1)
  have hD1 := (h'.out.alloc (.cells #[.int .i64 16, .int .i64 a, .int .i64 b, .int .i64 c] 56)).drew
  have hB1 := Lib.hid (((Below.refl w.heap.size w).alloc (Nat.le_refl _) (.cells #[.int .i64 16, .int .i64 a, .int .i64 b, .int .i64 c] 56)).drew)
  have hs1 : w.heap.size < ((w.alloc (.cells #[.int .i64 16, .int .i64 a, .int .i64 b, .int .i64 c] 56)).drew).heap.size := hi1.1
  generalize (w.alloc (.cells #[.int .i64 16, .int .i64 a, .int .i64 b, .int .i64 c] 56)).drew = W1 at hi1 hD1 hB1 hs1 ⊢
  clear c0 c14 f14 p0 p1 p2 p3
  have c14 : W1.cell? ⟨x, 14, none⟩ = some (.int .i64 n) := hpc'.out ▸ hD1.cell 14 rfl
  have f14 : W1.frozen? ⟨x, 14, none⟩ = false := hD1.fx 14
  have hD1' := Lib.hid hD1
  have hi1' := Lib.hid hi1
  clear hD1 hi1
  go_upto_region 3 with (fail)
  have hD2 := hD1'.out.setPc ((n : Int) + 1)
  have hb2 : Below w.heap.size W1 (W1.setCell ⟨x, 14, none⟩ (.int .i64 ((n : Int) + 1))) → True := fun _ => trivial
  have hi2 : InsAt (W1.setCell ⟨x, 14, none⟩ (.int .i64 ((n : Int) + 1))) w.heap.size 0 ⟨16, a, b, c⟩ := hi1'.out.setCell_ne (by simpa using (Nat.ne_of_gt hxW))
  have hB2 := Lib.hid ((hB1.out.mono (Nat.le_trans hb01 hbW)).setCell (p := ⟨x, 14, none⟩) hb0x (.int .i64 ((n : Int) + 1)))
  clear c14 f14 hD1' hi1' hB1 hb2
  have hs2 : w.heap.size < (W1.setCell ⟨x, 14, none⟩ (.int .i64 ((n : Int) + 1))).heap.size := hi2.1
  generalize W1.setCell ⟨x, 14, none⟩ (.int .i64 ((n : Int) + 1)) = W2 at hD2 hi2 hB2 hs2 ⊢
  clear hs1 W1
  obtain ⟨-, i0, i1, i2, i3⟩ := hi2
  simp only [Nat.zero_add] at i0 i1 i2 i3
  have hD2' := Lib.hid hD2
  have e11 : W2.cell? ⟨x, 11, none⟩ = some (.slice (some ⟨rb, 0, none⟩) 16 16) := hD2.cell 11 rfl
  have ea : W2.cell? ⟨rb, a, none⟩ = some (.int .i64 (Mc.reg { m with pc := (n : Int) + 1 } a)) := hD2.reg a ha
  have ha' : (a : Int) < 16 := by omega
  have fa : W2.frozen? ⟨rb, a, none⟩ = false := hD2.fr a
  have ev0 : W2.cell? ⟨x, 1, none⟩ = some (.int .i64 W.self) := hD2.cell 1 rfl
  clear hD2
  go_wp2
  go_region
  all_goals
    have hD3 := (hD2'.out.setR a ha W.self).drew
    have hB3 := (hB2.out.setCell (p := ⟨rb, a, none⟩) hb0r (.int .i64 (W.self))).drew
    have hQ := Lib.hid (And.intro hD3 hB3)
    clear hD3 hB3
    generalize (W2.setCell ⟨rb, a, none⟩ (.int .i64 (W.self))).drew = W3 at hQ ⊢
    go_wp2
    go_ret2
    exact StepQ.on rfl hQ.out
set_option maxHeartbeats 2000000 in
theorem step_math (h : DM b1 w x rb v W ev ov m) (hwa : ∀ w', Below b0 w w' → Wds w' v W) (hb0x : b0 ≤ x) (hb0r : b0 ≤ rb) (hb01 : b0 ≤ b1) (n : Nat) (hpc : m.pc = (n : Int)) (hn : n < v.pl) (op : Int) (a b c : Nat) (ha : a < 16) (hb : b < 16) (hc : c < 16) (hop : twoB op = true) (hi : W.prog.getD n default = ⟨op, a, b, c⟩) :
    Calls Tryd.prog 25 #[.pointer (some ⟨x, 0, none⟩)] w (StepQ b0 b1 w x rb v W ev (.on (Mc.put { m with pc := (n : Int) + 1 } a (mathP op (Mc.reg { m with pc := (n : Int) + 1 } b) (Mc.reg { m with pc := (n : Int) + 1 } c))))) := by
  have hopn : (op == 0) = false ∧ (op == 1) = false ∧ (op == 2) = false ∧ (op == 10) = false ∧ (op == 11) = false ∧ (op == 12) = false ∧ (op == 13) = false ∧ (op == 14) = false ∧ (op == 15) = false ∧ (op == 16) = false := by
    have h' : op = 3 ∨ op = 4 ∨ op = 5 ∨ op = 6 ∨ op = 7 ∨ op = 8 ∨ op = 9 := by simpa [twoB] using hop
    rcases h' with rfl | rfl | rfl | rfl | rfl | rfl | rfl <;> decide
  obtain ⟨k0, k1, k2, k3, k4, k5, k6, k7, k8, k9⟩ := hopn
  have hw := hwa w (Below.refl _ _)
  have hwa' := Lib.hid hwa
  clear hwa
  have hn2 : n < W.prog.length := by rw [hw.1.1]; exact hn
  obtain ⟨pb, po, hpa, hpm⟩ : ∃ pb po, v.pa = some ⟨pb, po, none⟩ ∧ ∀ j, j < v.pl → InsAt w pb (po + j * 4) (W.prog.getD j default) := by
    rcases hw.1.2.2.2.2 with g | g
    · omega
    · exact g
  have hix : InsAt w pb (po + n * 4) ⟨op, a, b, c⟩ := by have := hpm n hn; rw [hi] at this; exact this
  have hpl : v.pl ≤ 9223372036854775807 := by have := hw.1.2.1; have := hw.1.2.2.1; unfold maxLen at *; omega
  have c0 : w.cell? ⟨x, 0, none⟩ = some (.slice (some ⟨pb, po, none⟩) v.pl v.pc) := hpa ▸ h.cell 0 rfl
  have c14 : w.cell? ⟨x, 14, none⟩ = some (.int .i64 n) := hpc ▸ h.cell 14 rfl
  have f14 : w.frozen? ⟨x, 14, none⟩ = false := h.fx 14
  have hxW := h.xw
  have hbW := h.hb
  have hpb := hix.1
  obtain ⟨-, p0, p1, p2, p3⟩ := hix
  have h' := Lib.hid h
  have hw' := Lib.hid hw
  have hi' := Lib.hid hi
  have hpa' := Lib.hid hpa
  have hpc' := Lib.hid hpc
  have hnI : (n : Int) < (v.pl : Int) := by omega
  clear h hw hi hpa hpm hpc
  go_enter Tryd.func25, Tryd.ntmps25
  go_wp2
  go_region
  have hi1 : InsAt ((w.alloc (.cells #[.int .i64 op, .int .i64 a, .int .i64 b, .int .i64 c] 56)).drew) w.heap.size 0 ⟨op, a, b, c⟩ := (InsAt.mk w op a b c).read (Read.drew _ 1)
  have hD1 := (h'.out.alloc (.cells #[.int .i64 op, .int .i64 a, .int .i64 b, .int .i64 c] 56)).drew
  have hB1 := Lib.hid (((Below.refl w.heap.size w).alloc (Nat.le_refl _) (.cells #[.int .i64 op, .int .i64 a, .int .i64 b, .int .i64 c] 56)).drew)
  have hs1 : w.heap.size < ((w.alloc (.cells #[.int .i64 op, .int .i64 a, .int .i64 b, .int .i64 c] 56)).drew).heap.size := hi1.1
  generalize (w.alloc (.cells #[.int .i64 op, .int .i64 a, .int .i64 b, .int .i64 c] 56)).drew = W1 at hi1 hD1 hB1 hs1 ⊢
  clear c0 c14 f14 p0 p1 p2 p3
  have c14 : W1.cell? ⟨x, 14, none⟩ = some (.int .i64 n) := hpc'.out ▸ hD1.cell 14 rfl
  have f14 : W1.frozen? ⟨x, 14, none⟩ = false := hD1.fx 14
  have hD1' := Lib.hid hD1
  have hi1' := Lib.hid hi1
  clear hD1 hi1
  go_upto_region 3 with (fail)
  have hD2 := hD1'.out.setPc ((n : Int) + 1)
  have hb2 : Below w.heap.size W1 (W1.setCell ⟨x, 14, none⟩ (.int .i64 ((n : Int) + 1))) → True := fun _ => trivial
  have hi2 : InsAt (W1.setCell ⟨x, 14, none⟩ (.int .i64 ((n : Int) + 1))) w.heap.size 0 ⟨op, a, b, c⟩ := hi1'.out.setCell_ne (by simpa using (Nat.ne_of_gt hxW))
  have hB2 := Lib.hid ((hB1.out.mono (Nat.le_trans hb01 hbW)).setCell (p := ⟨x, 14, none⟩) hb0x (.int .i64 ((n : Int) + 1)))
  clear c14 f14 hD1' hi1' hB1 hb2
  have hs2 : w.heap.size < (W1.setCell ⟨x, 14, none⟩ (.int .i64 ((n : Int) + 1))).heap.size := hi2.1
  generalize W1.setCell ⟨x, 14, none⟩ (.int .i64 ((n : Int) + 1)) = W2 at hD2 hi2 hB2 hs2 ⊢
  clear hs1 W1
  obtain ⟨-, i0, i1, i2, i3⟩ := hi2
  simp only [Nat.zero_add] at i0 i1 i2 i3
  have hD2' := Lib.hid hD2
  have e11 : W2.cell? ⟨x, 11, none⟩ = some (.slice (some ⟨rb, 0, none⟩) 16 16) := hD2.cell 11 rfl
  have ea : W2.cell? ⟨rb, a, none⟩ = some (.int .i64 (Mc.reg { m with pc := (n : Int) + 1 } a)) := hD2.reg a ha
  have ha' : (a : Int) < 16 := by omega
  have fa : W2.frozen? ⟨rb, a, none⟩ = false := hD2.fr a
  have eb : W2.cell? ⟨rb, b, none⟩ = some (.int .i64 (Mc.reg { m with pc := (n : Int) + 1 } b)) := hD2.reg b hb
  have hb' : (b : Int) < 16 := by omega
  have ec : W2.cell? ⟨rb, c, none⟩ = some (.int .i64 (Mc.reg { m with pc := (n : Int) + 1 } c)) := hD2.reg c hc
  have hc' : (c : Int) < 16 := by omega
  clear hD2
  generalize Mc.reg { m with pc := (n : Int) + 1 } b = B at *
  generalize Mc.reg { m with pc := (n : Int) + 1 } c = C at *
  have hcall := fun w => math_any op B C hop w
  clear hop
  generalize mathP op B C = Z at *
  go_wp2
  go_upto_region 4 with (fail)
  have hD3 := hD2'.out.drew
  have hB3 := Lib.hid hB2.out.drew
  have j0 : W2.drew.cell? ⟨w.heap.size, 0, none⟩ = some (.int .i64 op) := i0
  have j1 : W2.drew.cell? ⟨w.heap.size, 1, none⟩ = some (.int .i64 a) := i1
  have j2 : W2.drew.cell? ⟨w.heap.size, 2, none⟩ = some (.int .i64 b) := i2
  have j3 : W2.drew.cell? ⟨w.heap.size, 3, none⟩ = some (.int .i64 c) := i3
  have g11 : W2.drew.cell? ⟨x, 11, none⟩ = some (.slice (some ⟨rb, 0, none⟩) 16 16) := e11
  have ga : W2.drew.cell? ⟨rb, a, none⟩ = some _ := ea
  have gb : W2.drew.cell? ⟨rb, b, none⟩ = some (.int .i64 B) := eb
  have gc : W2.drew.cell? ⟨rb, c, none⟩ = some (.int .i64 C) := ec
  have gf : W2.drew.frozen? ⟨rb, a, none⟩ = false := fa
  have hD3' := Lib.hid hD3
  refine wp_region_still_tail 26 (by kernel_rfl) (by kernel_rfl) ?_
  change wpStill _ _ W2.drew (fun a' => wpList _ _ _ _ a' W2.drew) _ _
  clear hD3 i0 i1 i2 i3 e11 ea eb ec fa hD2' hB2 hs2
  generalize W2.drew = W3 at *
  simp only [List.take_succ_cons, List.take_zero, List.drop_succ_cons, List.drop_zero]
  repeat still_step
  still_call ((hcall _).mono fun e w'' h => ⟨h.1, h.2.symm⟩)
  repeat still_step
  refine wpStill_nil ?_
  have hQ := Lib.hid (And.intro (hD3'.out.setR a ha Z) (hB3.out.setCell (p := ⟨rb, a, none⟩) hb0r (.int .i64 Z)))
  go_wp2
  go_ret2
  exact StepQ.on rfl hQ.out
end
end Go.Proofs.YtghbdpjegmdhbaaDoor
