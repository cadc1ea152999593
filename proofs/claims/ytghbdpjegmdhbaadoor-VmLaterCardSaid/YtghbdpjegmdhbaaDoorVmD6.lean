/-
  The contract of the document's own step, a theorem for each kind of instruction.
-/
import Derived.Test.YtghbdpjegmdhbaaDoorVmD4
import Derived.StillTailTactics
import Derived.BigRegion
namespace Go.Proofs.YtghbdpjegmdhbaaDoor
open Go.ChangeShapes Go.WideShapes Go.ChangeAt Go.RowKit Go.Sort
set_option linter.unusedVariables false
set_option maxRecDepth 4000

section
variable {b0 b1 : Nat} {w : World} {x rb : Nat} {v : Wv} {W : Wd} {ev : M} {ov : Value} {m : Mc}
set_option maxHeartbeats 2000000 in
theorem step_12links (h : DM b1 w x rb v W ev ov m) (hwa : ∀ w', Below b0 w w' → Wds w' v W) (hb0x : b0 ≤ x) (hb0r : b0 ≤ rb) (hb01 : b0 ≤ b1) (n : Nat) (hpc : m.pc = (n : Int)) (hn : n < v.pl) (a b c : Int) (hl : v.ll ≤ 1024) (h0 : v.ll = 0) (hi : W.prog.getD n default = ⟨12, a, b, c⟩) :
    Calls Tryd.prog 25 #[.pointer (some ⟨x, 0, none⟩)] w (StepQ b0 b1 w x rb v W ev (.on { m with pc := (n : Int) + 1 })) := by
  have hw := hwa w (Below.refl _ _)
  have hwa' := Lib.hid hwa
  clear hwa
  have hn2 : n < W.prog.length := by rw [hw.1.1]; exact hn
  obtain ⟨pb, po, hpa, hpm⟩ : ∃ pb po, v.pa = some ⟨pb, po, none⟩ ∧ ∀ j, j < v.pl → InsAt w pb (po + j * 4) (W.prog.getD j default) := by
    rcases hw.1.2.2.2.2 with g | g
    · omega
    · exact g
  have hix : InsAt w pb (po + n * 4) ⟨12, a, b, c⟩ := by have := hpm n hn; rw [hi] at this; exact this
  have hpl : v.pl ≤ 9223372036854775807 := by have := hw.1.2.1; have := hw.1.2.2.1; unfold maxLen at *; omega
  have c0 : w.cell? ⟨x, 0, none⟩ = some (.slice (some ⟨pb, po, none⟩) v.pl v.pc) := hpa ▸ h.cell 0 rfl
  have c14 : w.cell? ⟨x, 14, none⟩ = some (.int .i64 n) := hpc ▸ h.cell 14 rfl
  have f14 : w.frozen? ⟨x, 14, none⟩ = false := h.fx 14
  have hxW := h.xw
  have hbW := h.hb
  have hpb := hix.1
  obtain ⟨-, p0, p1, p2, p3⟩ := hix
  have h' := Lib.hid h
  have hw' := Lib.hid hw
  have hi' := Lib.hid hi
  have hpa' := Lib.hid hpa
  have hpc' := Lib.hid hpc
  have hnI : (n : Int) < (v.pl : Int) := by omega
  clear h hw hi hpa hpm hpc
  go_enter Tryd.func25, Tryd.ntmps25
  go_wp2
  go_region
  have hi1 : InsAt ((w.alloc (.cells #[.int .i64 12, .int .i64 a, .int .i64 b, .int .i64 c] 56)).drew) w.heap.size 0 ⟨12, a, b, c⟩ := (InsAt.mk w 12 a b c).read (Read.drew _ 1)
  have hD1 := (h'.out.alloc (.cells #[.int .i64 12, .int .i64 a, .int .i64 b, .int .i64 c] 56)).drew
  have hB1 := Lib.hid (((Below.refl w.heap.size w).alloc (Nat.le_refl _) (.cells #[.int .i64 12, .int .i64 a, .int .i64 b, .int .i64 c] 56)).drew)
  have hs1 : w.heap.size < ((w.alloc (.cells #[.int .i64 12, .int .i64 a, .int .i64 b, .int .i64 c] 56)).drew).heap.size := hi1.1
  generalize (w.alloc (.cells #[.int .i64 12, .int .i64 a, .int .i64 b, .int .i64 c] 56)).drew = W1 at hi1 hD1 hB1 hs1 ⊢
  clear c0 c14 f14 p0 p1 p2 p3
  have c14 : W1.cell? ⟨x, 14, none⟩ = some (.int .i64 n) := hpc'.out ▸ hD1.cell 14 rfl
  have f14 : W1.frozen? ⟨x, 14, none⟩ = false := hD1.fx 14
  have hD1' := Lib.hid hD1
  have hi1' := Lib.hid hi1
  clear hD1 hi1
  go_upto_region 3 with (fail)
  have hD2 := hD1'.out.setPc ((n : Int) + 1)
  have hb2 : Below w.heap.size W1 (W1.setCell ⟨x, 14, none⟩ (.int .i64 ((n : Int) + 1))) → True := fun _ => trivial
  have hi2 : InsAt (W1.setCell ⟨x, 14, none⟩ (.int .i64 ((n : Int) + 1))) w.heap.size 0 ⟨12, a, b, c⟩ := hi1'.out.setCell_ne (by simpa using (Nat.ne_of_gt hxW))
  have hB2 := Lib.hid ((hB1.out.mono (Nat.le_trans hb01 hbW)).setCell (p := ⟨x, 14, none⟩) hb0x (.int .i64 ((n : Int) + 1)))
  clear c14 f14 hD1' hi1' hB1 hb2
  have hs2 : w.heap.size < (W1.setCell ⟨x, 14, none⟩ (.int .i64 ((n : Int) + 1))).heap.size := hi2.1
  generalize W1.setCell ⟨x, 14, none⟩ (.int .i64 ((n : Int) + 1)) = W2 at hD2 hi2 hB2 hs2 ⊢
  clear hs1 W1
  obtain ⟨-, i0, i1, i2, i3⟩ := hi2
  simp only [Nat.zero_add] at i0 i1 i2 i3
  have hD2' := Lib.hid hD2
  have hcall := send_links hD2 h0 12 a b c
  clear hD2
  go_wp2_with fail
  refine hcall.mono ?_
  rintro e W3 ⟨rfl, hr3⟩
  have hQ := Lib.hid (And.intro (hD2'.out.below hr3.below) (hB2.out.trans (hr3.below.mono (Nat.le_trans hb01 hD2'.out.hb))))
  clear hr3 hcall
  go_wp2
  go_ret2
  exact StepQ.on rfl hQ.out
set_option maxHeartbeats 2000000 in
theorem step_12full (h : DM b1 w x rb v W ev ov m) (hwa : ∀ w', Below b0 w w' → Wds w' v W) (hb0x : b0 ≤ x) (hb0r : b0 ≤ rb) (hb01 : b0 ≤ b1) (n : Nat) (hpc : m.pc = (n : Int)) (hn : n < v.pl) (a b c : Int) (hl : v.ll ≤ 1024) (h0 : 0 < v.ll) (h8 : 8 ≤ m.o.length) (hm : m.o.length ≤ 8) (hi : W.prog.getD n default = ⟨12, a, b, c⟩) :
    Calls Tryd.prog 25 #[.pointer (some ⟨x, 0, none⟩)] w (StepQ b0 b1 w x rb v W ev (.on { m with pc := (n : Int) + 1 })) := by
  have hw := hwa w (Below.refl _ _)
  have hwa' := Lib.hid hwa
  clear hwa
  have hn2 : n < W.prog.length := by rw [hw.1.1]; exact hn
  obtain ⟨pb, po, hpa, hpm⟩ : ∃ pb po, v.pa = some ⟨pb, po, none⟩ ∧ ∀ j, j < v.pl → InsAt w pb (po + j * 4) (W.prog.getD j default) := by
    rcases hw.1.2.2.2.2 with g | g
    · omega
    · exact g
  have hix : InsAt w pb (po + n * 4) ⟨12, a, b, c⟩ := by have := hpm n hn; rw [hi] at this; exact this
  have hpl : v.pl ≤ 9223372036854775807 := by have := hw.1.2.1; have := hw.1.2.2.1; unfold maxLen at *; omega
  have c0 : w.cell? ⟨x, 0, none⟩ = some (.slice (some ⟨pb, po, none⟩) v.pl v.pc) := hpa ▸ h.cell 0 rfl
  have c14 : w.cell? ⟨x, 14, none⟩ = some (.int .i64 n) := hpc ▸ h.cell 14 rfl
  have f14 : w.frozen? ⟨x, 14, none⟩ = false := h.fx 14
  have hxW := h.xw
  have hbW := h.hb
  have hpb := hix.1
  obtain ⟨-, p0, p1, p2, p3⟩ := hix
  have h' := Lib.hid h
  have hw' := Lib.hid hw
  have hi' := Lib.hid hi
  have hpa' := Lib.hid hpa
  have hpc' := Lib.hid hpc
  have hnI : (n : Int) < (v.pl : Int) := by omega
  clear h hw hi hpa hpm hpc
  go_enter Tryd.func25, Tryd.ntmps25
  go_wp2
  go_region
  have hi1 : InsAt ((w.alloc (.cells #[.int .i64 12, .int .i64 a, .int .i64 b, .int .i64 c] 56)).drew) w.heap.size 0 ⟨12, a, b, c⟩ := (InsAt.mk w 12 a b c).read (Read.drew _ 1)
  have hD1 := (h'.out.alloc (.cells #[.int .i64 12, .int .i64 a, .int .i64 b, .int .i64 c] 56)).drew
  have hB1 := Lib.hid (((Below.refl w.heap.size w).alloc (Nat.le_refl _) (.cells #[.int .i64 12, .int .i64 a, .int .i64 b, .int .i64 c] 56)).drew)
  have hs1 : w.heap.size < ((w.alloc (.cells #[.int .i64 12, .int .i64 a, .int .i64 b, .int .i64 c] 56)).drew).heap.size := hi1.1
  generalize (w.alloc (.cells #[.int .i64 12, .int .i64 a, .int .i64 b, .int .i64 c] 56)).drew = W1 at hi1 hD1 hB1 hs1 ⊢
  clear c0 c14 f14 p0 p1 p2 p3
  have c14 : W1.cell? ⟨x, 14, none⟩ = some (.int .i64 n) := hpc'.out ▸ hD1.cell 14 rfl
  have f14 : W1.frozen? ⟨x, 14, none⟩ = false := hD1.fx 14
  have hD1' := Lib.hid hD1
  have hi1' := Lib.hid hi1
  clear hD1 hi1
  go_upto_region 3 with (fail)
  have hD2 := hD1'.out.setPc ((n : Int) + 1)
  have hb2 : Below w.heap.size W1 (W1.setCell ⟨x, 14, none⟩ (.int .i64 ((n : Int) + 1))) → True := fun _ => trivial
  have hi2 : InsAt (W1.setCell ⟨x, 14, none⟩ (.int .i64 ((n : Int) + 1))) w.heap.size 0 ⟨12, a, b, c⟩ := hi1'.out.setCell_ne (by simpa using (Nat.ne_of_gt hxW))
  have hB2 := Lib.hid ((hB1.out.mono (Nat.le_trans hb01 hbW)).setCell (p := ⟨x, 14, none⟩) hb0x (.int .i64 ((n : Int) + 1)))
  clear c14 f14 hD1' hi1' hB1 hb2
  have hs2 : w.heap.size < (W1.setCell ⟨x, 14, none⟩ (.int .i64 ((n : Int) + 1))).heap.size := hi2.1
  generalize W1.setCell ⟨x, 14, none⟩ (.int .i64 ((n : Int) + 1)) = W2 at hD2 hi2 hB2 hs2 ⊢
  clear hs1 W1
  obtain ⟨-, i0, i1, i2, i3⟩ := hi2
  simp only [Nat.zero_add] at i0 i1 i2 i3
  have hD2' := Lib.hid hD2
  have hcall := send_full hD2 h0 hl h8 hm 12 a b c
  clear hD2
  go_wp2_with fail
  refine hcall.mono ?_
  rintro e W3 ⟨rfl, hr3⟩
  have hQ := Lib.hid (And.intro (hD2'.out.below hr3.below) (hB2.out.trans (hr3.below.mono (Nat.le_trans hb01 hD2'.out.hb))))
  clear hr3 hcall
  go_wp2
  go_ret2
  exact StepQ.on rfl hQ.out
set_option maxHeartbeats 2000000 in
theorem step_12lookp (h : DM b1 w x rb v W ev ov m) (hwa : ∀ w', Below b0 w w' → Wds w' v W) (hb0x : b0 ≤ x) (hb0r : b0 ≤ rb) (hb01 : b0 ≤ b1) (n : Nat) (hpc : m.pc = (n : Int)) (hn : n < v.pl) (a b c : Nat) (ha : a < 16) (hb : b < 16) (hc : c < 16) (hl : v.ll ≤ 1024) (h0 : 0 < v.ll) (h8 : m.o.length < 8) (ht : 0 ≤ ev.k.t ∧ ev.k.t ≤ 4611686018427387903) (kk : Nat) (hkl : kk < v.ll) (hk : (Mc.reg { m with pc := (n : Int) + 1 } a).tmod (v.ll : Int) = (kk : Int)) (src dst look : Int) (loose : Bool) (hlk : W.links.getD kk default = ⟨src, dst, look, loose⟩) (hB : Mc.reg { m with pc := (n : Int) + 1 } b < look) (hi : W.prog.getD n default = ⟨12, a, b, c⟩) :
    Calls Tryd.prog 25 #[.pointer (some ⟨x, 0, none⟩)] w (StepQ b0 b1 w x rb v W ev (.fault 50)) := by
  have hgo := Lib.hid (fun (W2 : World) (h2 : DM b1 W2 x rb v W ev ov ({ m with pc := (n : Int) + 1 } : Mc)) (w2 : Wds W2 v W) => send_look_p h2 w2 h0 hl h8 ht 12 a b c ha hb hc kk hkl hk src dst look loose hlk hB)
  clear hk hlk hB ht h8
  have hw := hwa w (Below.refl _ _)
  have hwa' := Lib.hid hwa
  clear hwa
  have hn2 : n < W.prog.length := by rw [hw.1.1]; exact hn
  obtain ⟨pb, po, hpa, hpm⟩ : ∃ pb po, v.pa = some ⟨pb, po, none⟩ ∧ ∀ j, j < v.pl → InsAt w pb (po + j * 4) (W.prog.getD j default) := by
    rcases hw.1.2.2.2.2 with g | g
    · omega
    · exact g
  have hix : InsAt w pb (po + n * 4) ⟨12, a, b, c⟩ := by have := hpm n hn; rw [hi] at this; exact this
  have hpl : v.pl ≤ 9223372036854775807 := by have := hw.1.2.1; have := hw.1.2.2.1; unfold maxLen at *; omega
  have c0 : w.cell? ⟨x, 0, none⟩ = some (.slice (some ⟨pb, po, none⟩) v.pl v.pc) := hpa ▸ h.cell 0 rfl
  have c14 : w.cell? ⟨x, 14, none⟩ = some (.int .i64 n) := hpc ▸ h.cell 14 rfl
  have f14 : w.frozen? ⟨x, 14, none⟩ = false := h.fx 14
  have hxW := h.xw
  have hbW := h.hb
  have hpb := hix.1
  obtain ⟨-, p0, p1, p2, p3⟩ := hix
  have h' := Lib.hid h
  have hw' := Lib.hid hw
  have hi' := Lib.hid hi
  have hpa' := Lib.hid hpa
  have hpc' := Lib.hid hpc
  have hnI : (n : Int) < (v.pl : Int) := by omega
  clear h hw hi hpa hpm hpc
  go_enter Tryd.func25, Tryd.ntmps25
  go_wp2
  go_region
  have hi1 : InsAt ((w.alloc (.cells #[.int .i64 12, .int .i64 a, .int .i64 b, .int .i64 c] 56)).drew) w.heap.size 0 ⟨12, a, b, c⟩ := (InsAt.mk w 12 a b c).read (Read.drew _ 1)
  have hD1 := (h'.out.alloc (.cells #[.int .i64 12, .int .i64 a, .int .i64 b, .int .i64 c] 56)).drew
  have hB1 := Lib.hid (((Below.refl w.heap.size w).alloc (Nat.le_refl _) (.cells #[.int .i64 12, .int .i64 a, .int .i64 b, .int .i64 c] 56)).drew)
  have hs1 : w.heap.size < ((w.alloc (.cells #[.int .i64 12, .int .i64 a, .int .i64 b, .int .i64 c] 56)).drew).heap.size := hi1.1
  generalize (w.alloc (.cells #[.int .i64 12, .int .i64 a, .int .i64 b, .int .i64 c] 56)).drew = W1 at hi1 hD1 hB1 hs1 ⊢
  clear c0 c14 f14 p0 p1 p2 p3
  have c14 : W1.cell? ⟨x, 14, none⟩ = some (.int .i64 n) := hpc'.out ▸ hD1.cell 14 rfl
  have f14 : W1.frozen? ⟨x, 14, none⟩ = false := hD1.fx 14
  have hD1' := Lib.hid hD1
  have hi1' := Lib.hid hi1
  clear hD1 hi1
  go_upto_region 3 with (fail)
  have hD2 := hD1'.out.setPc ((n : Int) + 1)
  have hb2 : Below w.heap.size W1 (W1.setCell ⟨x, 14, none⟩ (.int .i64 ((n : Int) + 1))) → True := fun _ => trivial
  have hi2 : InsAt (W1.setCell ⟨x, 14, none⟩ (.int .i64 ((n : Int) + 1))) w.heap.size 0 ⟨12, a, b, c⟩ := hi1'.out.setCell_ne (by simpa using (Nat.ne_of_gt hxW))
  have hB2 := Lib.hid ((hB1.out.mono (Nat.le_trans hb01 hbW)).setCell (p := ⟨x, 14, none⟩) hb0x (.int .i64 ((n : Int) + 1)))
  clear c14 f14 hD1' hi1' hB1 hb2
  have hs2 : w.heap.size < (W1.setCell ⟨x, 14, none⟩ (.int .i64 ((n : Int) + 1))).heap.size := hi2.1
  generalize W1.setCell ⟨x, 14, none⟩ (.int .i64 ((n : Int) + 1)) = W2 at hD2 hi2 hB2 hs2 ⊢
  clear hs1 W1
  obtain ⟨-, i0, i1, i2, i3⟩ := hi2
  simp only [Nat.zero_add] at i0 i1 i2 i3
  have hD2' := Lib.hid hD2
  have hcall := hgo.out W2 hD2 (hwa'.out _ hB2.out)
  clear hD2 hgo
  go_wp2_with fail
  refine hcall.mono ?_
  rintro e W3 ⟨rfl, hr3⟩
  have hQ := Lib.hid (hB2.out.trans (hr3.below.mono (Nat.le_trans hb01 hD2'.out.hb)))
  clear hr3 hcall
  go_wp2
  go_ret2
  exact ⟨rfl, by decide, hQ.out⟩
set_option maxHeartbeats 2000000 in
theorem step_12timep (h : DM b1 w x rb v W ev ov m) (hwa : ∀ w', Below b0 w w' → Wds w' v W) (hb0x : b0 ≤ x) (hb0r : b0 ≤ rb) (hb01 : b0 ≤ b1) (n : Nat) (hpc : m.pc = (n : Int)) (hn : n < v.pl) (a b c : Nat) (ha : a < 16) (hb : b < 16) (hc : c < 16) (hl : v.ll ≤ 1024) (h0 : 0 < v.ll) (h8 : m.o.length < 8) (ht : 0 ≤ ev.k.t ∧ ev.k.t ≤ 4611686018427387903) (kk : Nat) (hkl : kk < v.ll) (hk : (Mc.reg { m with pc := (n : Int) + 1 } a).tmod (v.ll : Int) = (kk : Int)) (src dst look : Int) (loose : Bool) (hlk : W.links.getD kk default = ⟨src, dst, look, loose⟩) (hB : ¬ Mc.reg { m with pc := (n : Int) + 1 } b < look) (hT : 4611686018427387903 - ev.k.t < Mc.reg { m with pc := (n : Int) + 1 } b) (hi : W.prog.getD n default = ⟨12, a, b, c⟩) :
    Calls Tryd.prog 25 #[.pointer (some ⟨x, 0, none⟩)] w (StepQ b0 b1 w x rb v W ev (.fault 10)) := by
  have hgo := Lib.hid (fun (W2 : World) (h2 : DM b1 W2 x rb v W ev ov ({ m with pc := (n : Int) + 1 } : Mc)) (w2 : Wds W2 v W) => send_time_p h2 w2 h0 hl h8 ht 12 a b c ha hb hc kk hkl hk src dst look loose hlk hB hT)
  clear hk hlk hB hT ht h8
  have hw := hwa w (Below.refl _ _)
  have hwa' := Lib.hid hwa
  clear hwa
  have hn2 : n < W.prog.length := by rw [hw.1.1]; exact hn
  obtain ⟨pb, po, hpa, hpm⟩ : ∃ pb po, v.pa = some ⟨pb, po, none⟩ ∧ ∀ j, j < v.pl → InsAt w pb (po + j * 4) (W.prog.getD j default) := by
    rcases hw.1.2.2.2.2 with g | g
    · omega
    · exact g
  have hix : InsAt w pb (po + n * 4) ⟨12, a, b, c⟩ := by have := hpm n hn; rw [hi] at this; exact this
  have hpl : v.pl ≤ 9223372036854775807 := by have := hw.1.2.1; have := hw.1.2.2.1; unfold maxLen at *; omega
  have c0 : w.cell? ⟨x, 0, none⟩ = some (.slice (some ⟨pb, po, none⟩) v.pl v.pc) := hpa ▸ h.cell 0 rfl
  have c14 : w.cell? ⟨x, 14, none⟩ = some (.int .i64 n) := hpc ▸ h.cell 14 rfl
  have f14 : w.frozen? ⟨x, 14, none⟩ = false := h.fx 14
  have hxW := h.xw
  have hbW := h.hb
  have hpb := hix.1
  obtain ⟨-, p0, p1, p2, p3⟩ := hix
  have h' := Lib.hid h
  have hw' := Lib.hid hw
  have hi' := Lib.hid hi
  have hpa' := Lib.hid hpa
  have hpc' := Lib.hid hpc
  have hnI : (n : Int) < (v.pl : Int) := by omega
  clear h hw hi hpa hpm hpc
  go_enter Tryd.func25, Tryd.ntmps25
  go_wp2
  go_region
  have hi1 : InsAt ((w.alloc (.cells #[.int .i64 12, .int .i64 a, .int .i64 b, .int .i64 c] 56)).drew) w.heap.size 0 ⟨12, a, b, c⟩ := (InsAt.mk w 12 a b c).read (Read.drew _ 1)
  have hD1 := (h'.out.alloc (.cells #[.int .i64 12, .int .i64 a, .int .i64 b, .int .i64 c] 56)).drew
  have hB1 := Lib.hid (((Below.refl w.heap.size w).alloc (Nat.le_refl _) (.cells #[.int .i64 12, .int .i64 a, .int .i64 b, .int .i64 c] 56)).drew)
  have hs1 : w.heap.size < ((w.alloc (.cells #[.int .i64 12, .int .i64 a, .int .i64 b, .int .i64 c] 56)).drew).heap.size := hi1.1
  generalize (w.alloc (.cells #[.int .i64 12, .int .i64 a, .int .i64 b, .int .i64 c] 56)).drew = W1 at hi1 hD1 hB1 hs1 ⊢
  clear c0 c14 f14 p0 p1 p2 p3
  have c14 : W1.cell? ⟨x, 14, none⟩ = some (.int .i64 n) := hpc'.out ▸ hD1.cell 14 rfl
  have f14 : W1.frozen? ⟨x, 14, none⟩ = false := hD1.fx 14
  have hD1' := Lib.hid hD1
  have hi1' := Lib.hid hi1
  clear hD1 hi1
  go_upto_region 3 with (fail)
  have hD2 := hD1'.out.setPc ((n : Int) + 1)
  have hb2 : Below w.heap.size W1 (W1.setCell ⟨x, 14, none⟩ (.int .i64 ((n : Int) + 1))) → True := fun _ => trivial
  have hi2 : InsAt (W1.setCell ⟨x, 14, none⟩ (.int .i64 ((n : Int) + 1))) w.heap.size 0 ⟨12, a, b, c⟩ := hi1'.out.setCell_ne (by simpa using (Nat.ne_of_gt hxW))
  have hB2 := Lib.hid ((hB1.out.mono (Nat.le_trans hb01 hbW)).setCell (p := ⟨x, 14, none⟩) hb0x (.int .i64 ((n : Int) + 1)))
  clear c14 f14 hD1' hi1' hB1 hb2
  have hs2 : w.heap.size < (W1.setCell ⟨x, 14, none⟩ (.int .i64 ((n : Int) + 1))).heap.size := hi2.1
  generalize W1.setCell ⟨x, 14, none⟩ (.int .i64 ((n : Int) + 1)) = W2 at hD2 hi2 hB2 hs2 ⊢
  clear hs1 W1
  obtain ⟨-, i0, i1, i2, i3⟩ := hi2
  simp only [Nat.zero_add] at i0 i1 i2 i3
  have hD2' := Lib.hid hD2
  have hcall := hgo.out W2 hD2 (hwa'.out _ hB2.out)
  clear hD2 hgo
  go_wp2_with fail
  refine hcall.mono ?_
  rintro e W3 ⟨rfl, hr3⟩
  have hQ := Lib.hid (hB2.out.trans (hr3.below.mono (Nat.le_trans hb01 hD2'.out.hb)))
  clear hr3 hcall
  go_wp2
  go_ret2
  exact ⟨rfl, by decide, hQ.out⟩
set_option maxHeartbeats 2000000 in
theorem step_12okp (h : DM b1 w x rb v W ev ov m) (hwa : ∀ w', Below b0 w w' → Wds w' v W) (hb0x : b0 ≤ x) (hb0r : b0 ≤ rb) (hb01 : b0 ≤ b1) (n : Nat) (hpc : m.pc = (n : Int)) (hn : n < v.pl) (a b c : Nat) (ha : a < 16) (hb : b < 16) (hc : c < 16) (hl : v.ll ≤ 1024) (h0 : 0 < v.ll) (h8 : m.o.length < 8) (ht : 0 ≤ ev.k.t ∧ ev.k.t ≤ 4611686018427387903) (kk : Nat) (hkl : kk < v.ll) (hk : (Mc.reg { m with pc := (n : Int) + 1 } a).tmod (v.ll : Int) = (kk : Int)) (src dst look : Int) (loose : Bool) (hlk : W.links.getD kk default = ⟨src, dst, look, loose⟩) (hB : ¬ Mc.reg { m with pc := (n : Int) + 1 } b < look) (hT : ¬ 4611686018427387903 - ev.k.t < Mc.reg { m with pc := (n : Int) + 1 } b) (hi : W.prog.getD n default = ⟨12, a, b, c⟩) :
    Calls Tryd.prog 25 #[.pointer (some ⟨x, 0, none⟩)] w (StepQ b0 b1 w x rb v W ev (.on { ({ m with pc := (n : Int) + 1 } : Mc) with o := m.o ++ [⟨kk, Mc.reg { m with pc := (n : Int) + 1 } b, Mc.reg { m with pc := (n : Int) + 1 } c⟩] })) := by
  have hgo := Lib.hid (fun (W2 : World) (h2 : DM b1 W2 x rb v W ev ov ({ m with pc := (n : Int) + 1 } : Mc)) (w2 : Wds W2 v W) => send_ok_p h2 w2 hb0x hb01 h0 hl h8 ht 12 a b c ha hb hc kk hkl hk src dst look loose hlk hB hT)
  clear hk hlk hB hT ht h8
  have hw := hwa w (Below.refl _ _)
  have hwa' := Lib.hid hwa
  clear hwa
  have hn2 : n < W.prog.length := by rw [hw.1.1]; exact hn
  obtain ⟨pb, po, hpa, hpm⟩ : ∃ pb po, v.pa = some ⟨pb, po, none⟩ ∧ ∀ j, j < v.pl → InsAt w pb (po + j * 4) (W.prog.getD j default) := by
    rcases hw.1.2.2.2.2 with g | g
    · omega
    · exact g
  have hix : InsAt w pb (po + n * 4) ⟨12, a, b, c⟩ := by have := hpm n hn; rw [hi] at this; exact this
  have hpl : v.pl ≤ 9223372036854775807 := by have := hw.1.2.1; have := hw.1.2.2.1; unfold maxLen at *; omega
  have c0 : w.cell? ⟨x, 0, none⟩ = some (.slice (some ⟨pb, po, none⟩) v.pl v.pc) := hpa ▸ h.cell 0 rfl
  have c14 : w.cell? ⟨x, 14, none⟩ = some (.int .i64 n) := hpc ▸ h.cell 14 rfl
  have f14 : w.frozen? ⟨x, 14, none⟩ = false := h.fx 14
  have hxW := h.xw
  have hbW := h.hb
  have hpb := hix.1
  obtain ⟨-, p0, p1, p2, p3⟩ := hix
  have h' := Lib.hid h
  have hw' := Lib.hid hw
  have hi' := Lib.hid hi
  have hpa' := Lib.hid hpa
  have hpc' := Lib.hid hpc
  have hnI : (n : Int) < (v.pl : Int) := by omega
  clear h hw hi hpa hpm hpc
  go_enter Tryd.func25, Tryd.ntmps25
  go_wp2
  go_region
  have hi1 : InsAt ((w.alloc (.cells #[.int .i64 12, .int .i64 a, .int .i64 b, .int .i64 c] 56)).drew) w.heap.size 0 ⟨12, a, b, c⟩ := (InsAt.mk w 12 a b c).read (Read.drew _ 1)
  have hD1 := (h'.out.alloc (.cells #[.int .i64 12, .int .i64 a, .int .i64 b, .int .i64 c] 56)).drew
  have hB1 := Lib.hid (((Below.refl w.heap.size w).alloc (Nat.le_refl _) (.cells #[.int .i64 12, .int .i64 a, .int .i64 b, .int .i64 c] 56)).drew)
  have hs1 : w.heap.size < ((w.alloc (.cells #[.int .i64 12, .int .i64 a, .int .i64 b, .int .i64 c] 56)).drew).heap.size := hi1.1
  generalize (w.alloc (.cells #[.int .i64 12, .int .i64 a, .int .i64 b, .int .i64 c] 56)).drew = W1 at hi1 hD1 hB1 hs1 ⊢
  clear c0 c14 f14 p0 p1 p2 p3
  have c14 : W1.cell? ⟨x, 14, none⟩ = some (.int .i64 n) := hpc'.out ▸ hD1.cell 14 rfl
  have f14 : W1.frozen? ⟨x, 14, none⟩ = false := hD1.fx 14
  have hD1' := Lib.hid hD1
  have hi1' := Lib.hid hi1
  clear hD1 hi1
  go_upto_region 3 with (fail)
  have hD2 := hD1'.out.setPc ((n : Int) + 1)
  have hb2 : Below w.heap.size W1 (W1.setCell ⟨x, 14, none⟩ (.int .i64 ((n : Int) + 1))) → True := fun _ => trivial
  have hi2 : InsAt (W1.setCell ⟨x, 14, none⟩ (.int .i64 ((n : Int) + 1))) w.heap.size 0 ⟨12, a, b, c⟩ := hi1'.out.setCell_ne (by simpa using (Nat.ne_of_gt hxW))
  have hB2 := Lib.hid ((hB1.out.mono (Nat.le_trans hb01 hbW)).setCell (p := ⟨x, 14, none⟩) hb0x (.int .i64 ((n : Int) + 1)))
  clear c14 f14 hD1' hi1' hB1 hb2
  have hs2 : w.heap.size < (W1.setCell ⟨x, 14, none⟩ (.int .i64 ((n : Int) + 1))).heap.size := hi2.1
  generalize W1.setCell ⟨x, 14, none⟩ (.int .i64 ((n : Int) + 1)) = W2 at hD2 hi2 hB2 hs2 ⊢
  clear hs1 W1
  obtain ⟨-, i0, i1, i2, i3⟩ := hi2
  simp only [Nat.zero_add] at i0 i1 i2 i3
  have hD2' := Lib.hid hD2
  have hcall := hgo.out W2 hD2 (hwa'.out _ hB2.out)
  clear hD2 hgo
  go_wp2_with fail
  refine hcall.mono ?_
  rintro e W3 ⟨rfl, ov3, hD3, hB3⟩
  have hQ := Lib.hid (And.intro hD3 (hB2.out.trans hB3))
  clear hD3 hB3 hcall
  go_wp2
  go_ret2
  exact StepQ.on rfl hQ.out
set_option maxHeartbeats 2000000 in
theorem step_12lookn (h : DM b1 w x rb v W ev ov m) (hwa : ∀ w', Below b0 w w' → Wds w' v W) (hb0x : b0 ≤ x) (hb0r : b0 ≤ rb) (hb01 : b0 ≤ b1) (n : Nat) (hpc : m.pc = (n : Int)) (hn : n < v.pl) (a b c : Nat) (ha : a < 16) (hb : b < 16) (hc : c < 16) (hl : v.ll ≤ 1024) (h0 : 0 < v.ll) (h8 : m.o.length < 8) (ht : 0 ≤ ev.k.t ∧ ev.k.t ≤ 4611686018427387903) (kk : Nat) (hkl : kk < v.ll) (T : Int) (hT0 : (Mc.reg { m with pc := (n : Int) + 1 } a).tmod (v.ll : Int) = T) (hn0 : T < 0) (hk : T + (v.ll : Int) = (kk : Int)) (src dst look : Int) (loose : Bool) (hlk : W.links.getD kk default = ⟨src, dst, look, loose⟩) (hB : Mc.reg { m with pc := (n : Int) + 1 } b < look) (hi : W.prog.getD n default = ⟨12, a, b, c⟩) :
    Calls Tryd.prog 25 #[.pointer (some ⟨x, 0, none⟩)] w (StepQ b0 b1 w x rb v W ev (.fault 50)) := by
  have hgo := Lib.hid (fun (W2 : World) (h2 : DM b1 W2 x rb v W ev ov ({ m with pc := (n : Int) + 1 } : Mc)) (w2 : Wds W2 v W) => send_look_n h2 w2 h0 hl h8 ht 12 a b c ha hb hc kk hkl T hT0 hn0 hk src dst look loose hlk hB)
  clear hT0 hn0 hk hlk hB ht h8
  have hw := hwa w (Below.refl _ _)
  have hwa' := Lib.hid hwa
  clear hwa
  have hn2 : n < W.prog.length := by rw [hw.1.1]; exact hn
  obtain ⟨pb, po, hpa, hpm⟩ : ∃ pb po, v.pa = some ⟨pb, po, none⟩ ∧ ∀ j, j < v.pl → InsAt w pb (po + j * 4) (W.prog.getD j default) := by
    rcases hw.1.2.2.2.2 with g | g
    · omega
    · exact g
  have hix : InsAt w pb (po + n * 4) ⟨12, a, b, c⟩ := by have := hpm n hn; rw [hi] at this; exact this
  have hpl : v.pl ≤ 9223372036854775807 := by have := hw.1.2.1; have := hw.1.2.2.1; unfold maxLen at *; omega
  have c0 : w.cell? ⟨x, 0, none⟩ = some (.slice (some ⟨pb, po, none⟩) v.pl v.pc) := hpa ▸ h.cell 0 rfl
  have c14 : w.cell? ⟨x, 14, none⟩ = some (.int .i64 n) := hpc ▸ h.cell 14 rfl
  have f14 : w.frozen? ⟨x, 14, none⟩ = false := h.fx 14
  have hxW := h.xw
  have hbW := h.hb
  have hpb := hix.1
  obtain ⟨-, p0, p1, p2, p3⟩ := hix
  have h' := Lib.hid h
  have hw' := Lib.hid hw
  have hi' := Lib.hid hi
  have hpa' := Lib.hid hpa
  have hpc' := Lib.hid hpc
  have hnI : (n : Int) < (v.pl : Int) := by omega
  clear h hw hi hpa hpm hpc
  go_enter Tryd.func25, Tryd.ntmps25
  go_wp2
  go_region
  have hi1 : InsAt ((w.alloc (.cells #[.int .i64 12, .int .i64 a, .int .i64 b, .int .i64 c] 56)).drew) w.heap.size 0 ⟨12, a, b, c⟩ := (InsAt.mk w 12 a b c).read (Read.drew _ 1)
  have hD1 := (h'.out.alloc (.cells #[.int .i64 12, .int .i64 a, .int .i64 b, .int .i64 c] 56)).drew
  have hB1 := Lib.hid (((Below.refl w.heap.size w).alloc (Nat.le_refl _) (.cells #[.int .i64 12, .int .i64 a, .int .i64 b, .int .i64 c] 56)).drew)
  have hs1 : w.heap.size < ((w.alloc (.cells #[.int .i64 12, .int .i64 a, .int .i64 b, .int .i64 c] 56)).drew).heap.size := hi1.1
  generalize (w.alloc (.cells #[.int .i64 12, .int .i64 a, .int .i64 b, .int .i64 c] 56)).drew = W1 at hi1 hD1 hB1 hs1 ⊢
  clear c0 c14 f14 p0 p1 p2 p3
  have c14 : W1.cell? ⟨x, 14, none⟩ = some (.int .i64 n) := hpc'.out ▸ hD1.cell 14 rfl
  have f14 : W1.frozen? ⟨x, 14, none⟩ = false := hD1.fx 14
  have hD1' := Lib.hid hD1
  have hi1' := Lib.hid hi1
  clear hD1 hi1
  go_upto_region 3 with (fail)
  have hD2 := hD1'.out.setPc ((n : Int) + 1)
  have hb2 : Below w.heap.size W1 (W1.setCell ⟨x, 14, none⟩ (.int .i64 ((n : Int) + 1))) → True := fun _ => trivial
  have hi2 : InsAt (W1.setCell ⟨x, 14, none⟩ (.int .i64 ((n : Int) + 1))) w.heap.size 0 ⟨12, a, b, c⟩ := hi1'.out.setCell_ne (by simpa using (Nat.ne_of_gt hxW))
  have hB2 := Lib.hid ((hB1.out.mono (Nat.le_trans hb01 hbW)).setCell (p := ⟨x, 14, none⟩) hb0x (.int .i64 ((n : Int) + 1)))
  clear c14 f14 hD1' hi1' hB1 hb2
  have hs2 : w.heap.size < (W1.setCell ⟨x, 14, none⟩ (.int .i64 ((n : Int) + 1))).heap.size := hi2.1
  generalize W1.setCell ⟨x, 14, none⟩ (.int .i64 ((n : Int) + 1)) = W2 at hD2 hi2 hB2 hs2 ⊢
  clear hs1 W1
  obtain ⟨-, i0, i1, i2, i3⟩ := hi2
  simp only [Nat.zero_add] at i0 i1 i2 i3
  have hD2' := Lib.hid hD2
  have hcall := hgo.out W2 hD2 (hwa'.out _ hB2.out)
  clear hD2 hgo
  go_wp2_with fail
  refine hcall.mono ?_
  rintro e W3 ⟨rfl, hr3⟩
  have hQ := Lib.hid (hB2.out.trans (hr3.below.mono (Nat.le_trans hb01 hD2'.out.hb)))
  clear hr3 hcall
  go_wp2
  go_ret2
  exact ⟨rfl, by decide, hQ.out⟩
set_option maxHeartbeats 2000000 in
theorem step_12timen (h : DM b1 w x rb v W ev ov m) (hwa : ∀ w', Below b0 w w' → Wds w' v W) (hb0x : b0 ≤ x) (hb0r : b0 ≤ rb) (hb01 : b0 ≤ b1) (n : Nat) (hpc : m.pc = (n : Int)) (hn : n < v.pl) (a b c : Nat) (ha : a < 16) (hb : b < 16) (hc : c < 16) (hl : v.ll ≤ 1024) (h0 : 0 < v.ll) (h8 : m.o.length < 8) (ht : 0 ≤ ev.k.t ∧ ev.k.t ≤ 4611686018427387903) (kk : Nat) (hkl : kk < v.ll) (T : Int) (hT0 : (Mc.reg { m with pc := (n : Int) + 1 } a).tmod (v.ll : Int) = T) (hn0 : T < 0) (hk : T + (v.ll : Int) = (kk : Int)) (src dst look : Int) (loose : Bool) (hlk : W.links.getD kk default = ⟨src, dst, look, loose⟩) (hB : ¬ Mc.reg { m with pc := (n : Int) + 1 } b < look) (hT : 4611686018427387903 - ev.k.t < Mc.reg { m with pc := (n : Int) + 1 } b) (hi : W.prog.getD n default = ⟨12, a, b, c⟩) :
    Calls Tryd.prog 25 #[.pointer (some ⟨x, 0, none⟩)] w (StepQ b0 b1 w x rb v W ev (.fault 10)) := by
  have hgo := Lib.hid (fun (W2 : World) (h2 : DM b1 W2 x rb v W ev ov ({ m with pc := (n : Int) + 1 } : Mc)) (w2 : Wds W2 v W) => send_time_n h2 w2 h0 hl h8 ht 12 a b c ha hb hc kk hkl T hT0 hn0 hk src dst look loose hlk hB hT)
  clear hT0 hn0 hk hlk hB hT ht h8
  have hw := hwa w (Below.refl _ _)
  have hwa' := Lib.hid hwa
  clear hwa
  have hn2 : n < W.prog.length := by rw [hw.1.1]; exact hn
  obtain ⟨pb, po, hpa, hpm⟩ : ∃ pb po, v.pa = some ⟨pb, po, none⟩ ∧ ∀ j, j < v.pl → InsAt w pb (po + j * 4) (W.prog.getD j default) := by
    rcases hw.1.2.2.2.2 with g | g
    · omega
    · exact g
  have hix : InsAt w pb (po + n * 4) ⟨12, a, b, c⟩ := by have := hpm n hn; rw [hi] at this; exact this
  have hpl : v.pl ≤ 9223372036854775807 := by have := hw.1.2.1; have := hw.1.2.2.1; unfold maxLen at *; omega
  have c0 : w.cell? ⟨x, 0, none⟩ = some (.slice (some ⟨pb, po, none⟩) v.pl v.pc) := hpa ▸ h.cell 0 rfl
  have c14 : w.cell? ⟨x, 14, none⟩ = some (.int .i64 n) := hpc ▸ h.cell 14 rfl
  have f14 : w.frozen? ⟨x, 14, none⟩ = false := h.fx 14
  have hxW := h.xw
  have hbW := h.hb
  have hpb := hix.1
  obtain ⟨-, p0, p1, p2, p3⟩ := hix
  have h' := Lib.hid h
  have hw' := Lib.hid hw
  have hi' := Lib.hid hi
  have hpa' := Lib.hid hpa
  have hpc' := Lib.hid hpc
  have hnI : (n : Int) < (v.pl : Int) := by omega
  clear h hw hi hpa hpm hpc
  go_enter Tryd.func25, Tryd.ntmps25
  go_wp2
  go_region
  have hi1 : InsAt ((w.alloc (.cells #[.int .i64 12, .int .i64 a, .int .i64 b, .int .i64 c] 56)).drew) w.heap.size 0 ⟨12, a, b, c⟩ := (InsAt.mk w 12 a b c).read (Read.drew _ 1)
  have hD1 := (h'.out.alloc (.cells #[.int .i64 12, .int .i64 a, .int .i64 b, .int .i64 c] 56)).drew
  have hB1 := Lib.hid (((Below.refl w.heap.size w).alloc (Nat.le_refl _) (.cells #[.int .i64 12, .int .i64 a, .int .i64 b, .int .i64 c] 56)).drew)
  have hs1 : w.heap.size < ((w.alloc (.cells #[.int .i64 12, .int .i64 a, .int .i64 b, .int .i64 c] 56)).drew).heap.size := hi1.1
  generalize (w.alloc (.cells #[.int .i64 12, .int .i64 a, .int .i64 b, .int .i64 c] 56)).drew = W1 at hi1 hD1 hB1 hs1 ⊢
  clear c0 c14 f14 p0 p1 p2 p3
  have c14 : W1.cell? ⟨x, 14, none⟩ = some (.int .i64 n) := hpc'.out ▸ hD1.cell 14 rfl
  have f14 : W1.frozen? ⟨x, 14, none⟩ = false := hD1.fx 14
  have hD1' := Lib.hid hD1
  have hi1' := Lib.hid hi1
  clear hD1 hi1
  go_upto_region 3 with (fail)
  have hD2 := hD1'.out.setPc ((n : Int) + 1)
  have hb2 : Below w.heap.size W1 (W1.setCell ⟨x, 14, none⟩ (.int .i64 ((n : Int) + 1))) → True := fun _ => trivial
  have hi2 : InsAt (W1.setCell ⟨x, 14, none⟩ (.int .i64 ((n : Int) + 1))) w.heap.size 0 ⟨12, a, b, c⟩ := hi1'.out.setCell_ne (by simpa using (Nat.ne_of_gt hxW))
  have hB2 := Lib.hid ((hB1.out.mono (Nat.le_trans hb01 hbW)).setCell (p := ⟨x, 14, none⟩) hb0x (.int .i64 ((n : Int) + 1)))
  clear c14 f14 hD1' hi1' hB1 hb2
  have hs2 : w.heap.size < (W1.setCell ⟨x, 14, none⟩ (.int .i64 ((n : Int) + 1))).heap.size := hi2.1
  generalize W1.setCell ⟨x, 14, none⟩ (.int .i64 ((n : Int) + 1)) = W2 at hD2 hi2 hB2 hs2 ⊢
  clear hs1 W1
  obtain ⟨-, i0, i1, i2, i3⟩ := hi2
  simp only [Nat.zero_add] at i0 i1 i2 i3
  have hD2' := Lib.hid hD2
  have hcall := hgo.out W2 hD2 (hwa'.out _ hB2.out)
  clear hD2 hgo
  go_wp2_with fail
  refine hcall.mono ?_
  rintro e W3 ⟨rfl, hr3⟩
  have hQ := Lib.hid (hB2.out.trans (hr3.below.mono (Nat.le_trans hb01 hD2'.out.hb)))
  clear hr3 hcall
  go_wp2
  go_ret2
  exact ⟨rfl, by decide, hQ.out⟩
set_option maxHeartbeats 2000000 in
theorem step_12okn (h : DM b1 w x rb v W ev ov m) (hwa : ∀ w', Below b0 w w' → Wds w' v W) (hb0x : b0 ≤ x) (hb0r : b0 ≤ rb) (hb01 : b0 ≤ b1) (n : Nat) (hpc : m.pc = (n : Int)) (hn : n < v.pl) (a b c : Nat) (ha : a < 16) (hb : b < 16) (hc : c < 16) (hl : v.ll ≤ 1024) (h0 : 0 < v.ll) (h8 : m.o.length < 8) (ht : 0 ≤ ev.k.t ∧ ev.k.t ≤ 4611686018427387903) (kk : Nat) (hkl : kk < v.ll) (T : Int) (hT0 : (Mc.reg { m with pc := (n : Int) + 1 } a).tmod (v.ll : Int) = T) (hn0 : T < 0) (hk : T + (v.ll : Int) = (kk : Int)) (src dst look : Int) (loose : Bool) (hlk : W.links.getD kk default = ⟨src, dst, look, loose⟩) (hB : ¬ Mc.reg { m with pc := (n : Int) + 1 } b < look) (hT : ¬ 4611686018427387903 - ev.k.t < Mc.reg { m with pc := (n : Int) + 1 } b) (hi : W.prog.getD n default = ⟨12, a, b, c⟩) :
    Calls Tryd.prog 25 #[.pointer (some ⟨x, 0, none⟩)] w (StepQ b0 b1 w x rb v W ev (.on { ({ m with pc := (n : Int) + 1 } : Mc) with o := m.o ++ [⟨kk, Mc.reg { m with pc := (n : Int) + 1 } b, Mc.reg { m with pc := (n : Int) + 1 } c⟩] })) := by
  have hgo := Lib.hid (fun (W2 : World) (h2 : DM b1 W2 x rb v W ev ov ({ m with pc := (n : Int) + 1 } : Mc)) (w2 : Wds W2 v W) => send_ok_n h2 w2 hb0x hb01 h0 hl h8 ht 12 a b c ha hb hc kk hkl T hT0 hn0 hk src dst look loose hlk hB hT)
  clear hT0 hn0 hk hlk hB hT ht h8
  have hw := hwa w (Below.refl _ _)
  have hwa' := Lib.hid hwa
  clear hwa
  have hn2 : n < W.prog.length := by rw [hw.1.1]; exact hn
  obtain ⟨pb, po, hpa, hpm⟩ : ∃ pb po, v.pa = some ⟨pb, po, none⟩ ∧ ∀ j, j < v.pl → InsAt w pb (po + j * 4) (W.prog.getD j default) := by
    rcases hw.1.2.2.2.2 with g | g
    · omega
    · exact g
  have hix : InsAt w pb (po + n * 4) ⟨12, a, b, c⟩ := by have := hpm n hn; rw [hi] at this; exact this
  have hpl : v.pl ≤ 9223372036854775807 := by have := hw.1.2.1; have := hw.1.2.2.1; unfold maxLen at *; omega
  have c0 : w.cell? ⟨x, 0, none⟩ = some (.slice (some ⟨pb, po, none⟩) v.pl v.pc) := hpa ▸ h.cell 0 rfl
  have c14 : w.cell? ⟨x, 14, none⟩ = some (.int .i64 n) := hpc ▸ h.cell 14 rfl
  have f14 : w.frozen? ⟨x, 14, none⟩ = false := h.fx 14
  have hxW := h.xw
  have hbW := h.hb
  have hpb := hix.1
  obtain ⟨-, p0, p1, p2, p3⟩ := hix
  have h' := Lib.hid h
  have hw' := Lib.hid hw
  have hi' := Lib.hid hi
  have hpa' := Lib.hid hpa
  have hpc' := Lib.hid hpc
  have hnI : (n : Int) < (v.pl : Int) := by omega
  clear h hw hi hpa hpm hpc
  go_enter Tryd.func25, Tryd.ntmps25
  go_wp2
  go_region
  have hi1 : InsAt ((w.alloc (.cells #[.int .i64 12, .int .i64 a, .int .i64 b, .int .i64 c] 56)).drew) w.heap.size 0 ⟨12, a, b, c⟩ := (InsAt.mk w 12 a b c).read (Read.drew _ 1)
  have hD1 := (h'.out.alloc (.cells #[.int .i64 12, .int .i64 a, .int .i64 b, .int .i64 c] 56)).drew
  have hB1 := Lib.hid (((Below.refl w.heap.size w).alloc (Nat.le_refl _) (.cells #[.int .i64 12, .int .i64 a, .int .i64 b, .int .i64 c] 56)).drew)
  have hs1 : w.heap.size < ((w.alloc (.cells #[.int .i64 12, .int .i64 a, .int .i64 b, .int .i64 c] 56)).drew).heap.size := hi1.1
  generalize (w.alloc (.cells #[.int .i64 12, .int .i64 a, .int .i64 b, .int .i64 c] 56)).drew = W1 at hi1 hD1 hB1 hs1 ⊢
  clear c0 c14 f14 p0 p1 p2 p3
  have c14 : W1.cell? ⟨x, 14, none⟩ = some (.int .i64 n) := hpc'.out ▸ hD1.cell 14 rfl
  have f14 : W1.frozen? ⟨x, 14, none⟩ = false := hD1.fx 14
  have hD1' := Lib.hid hD1
  have hi1' := Lib.hid hi1
  clear hD1 hi1
  go_upto_region 3 with (fail)
  have hD2 := hD1'.out.setPc ((n : Int) + 1)
  have hb2 : Below w.heap.size W1 (W1.setCell ⟨x, 14, none⟩ (.int .i64 ((n : Int) + 1))) → True := fun _ => trivial
  have hi2 : InsAt (W1.setCell ⟨x, 14, none⟩ (.int .i64 ((n : Int) + 1))) w.heap.size 0 ⟨12, a, b, c⟩ := hi1'.out.setCell_ne (by simpa using (Nat.ne_of_gt hxW))
  have hB2 := Lib.hid ((hB1.out.mono (Nat.le_trans hb01 hbW)).setCell (p := ⟨x, 14, none⟩) hb0x (.int .i64 ((n : Int) + 1)))
  clear c14 f14 hD1' hi1' hB1 hb2
  have hs2 : w.heap.size < (W1.setCell ⟨x, 14, none⟩ (.int .i64 ((n : Int) + 1))).heap.size := hi2.1
  generalize W1.setCell ⟨x, 14, none⟩ (.int .i64 ((n : Int) + 1)) = W2 at hD2 hi2 hB2 hs2 ⊢
  clear hs1 W1
  obtain ⟨-, i0, i1, i2, i3⟩ := hi2
  simp only [Nat.zero_add] at i0 i1 i2 i3
  have hD2' := Lib.hid hD2
  have hcall := hgo.out W2 hD2 (hwa'.out _ hB2.out)
  clear hD2 hgo
  go_wp2_with fail
  refine hcall.mono ?_
  rintro e W3 ⟨rfl, ov3, hD3, hB3⟩
  have hQ := Lib.hid (And.intro hD3 (hB2.out.trans hB3))
  clear hD3 hB3 hcall
  go_wp2
  go_ret2
  exact StepQ.on rfl hQ.out
end
end Go.Proofs.YtghbdpjegmdhbaaDoor
