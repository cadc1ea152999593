/-
  Rungs: the first message taken, and looked at.
-/
import Derived.Test.YtcfpfbemmklbaaaLDT
namespace Go.Proofs.Ytcfpfbemmklbaaa
open Go.ChangeShapes Go.WideShapes Go.ChangeAt Go.Shelf Go.RowKit Go.Lib Go.Sort Go.Deep
set_option linter.unusedVariables false

set_option maxHeartbeats 4000000 in
set_option maxRecDepth 100000 in
theorem pop_walk {w W1 : World} {rb n acap : Nat} {a : Option Addr} {m : M} {R : World → Prop} (hW1 : Hid (W1 = w.alloc (.cells zeroM.cells 34))) (c2 : W1.cell? ⟨rb, 2, none⟩ = some (.slice a n acap))
    (htk : Calls Try.prog 50 #[.pointer (some ⟨rb, 0, none⟩), .int .i64 n, .int .i64 0] W1 fun e w2 => e = .returned m.val ∧ Hid (BoxM w2 w.heap.size zeroM ∧ R (w2.setRow w.heap.size m.cells))) :
    Calls Try.prog 35 #[.pointer (some ⟨rb, 0, none⟩)] w fun e w' => e = .returned m.val ∧ R w' := by
  obtain ⟨⟨mt, f, s⟩, tt, vv, u, an⟩ := m
  simp only [M.val, M.cells] at htk ⊢
  have hW1z : Hid (w.alloc (.cells #[.int .i64 0, .int .i64 0, .int .i64 0, .int .i64 0, .int .i64 0, .int .i64 0, .bool false] 34) = W1) := hW1.out.symm
  have htk' := Lib.hid htk
  clear htk
  go_enter Try.func35, Try.ntmps35
  go_upto_region 1 with (fail)
  rw [hW1z.out]
  go_wp2_with (first
    | (go_at_call 50; refine htk'.out.mono ?_; rintro e w2 ⟨rfl, hQ⟩)
    | (refine wpList_store_row rfl 34 (.tmp 2) (.tmp 9) rfl w.heap.size #[.int .i64 mt, .int .i64 f, .int .i64 s, .int .i64 tt, .int .i64 vv, .int .i64 u, .bool an] rfl rfl 34 zeroM.cells hQ.out.1 infoS rfl (M.cells_one ⟨⟨mt, f, s⟩, tt, vv, u, an⟩) ?_))
  obtain ⟨-, s0, s1, s2, s3, s4, s5, s6⟩ := (hQ.out.1.row ⟨⟨mt, f, s⟩, tt, vv, u, an⟩).at
  simp only [Nat.zero_add, M.cells] at s0 s1 s2 s3 s4 s5 s6
  exact bodyPost_ret (v := .agg #[.int .i64 mt, .int .i64 f, .int .i64 s, .int .i64 tt, .int .i64 vv, .int .i64 u, .bool an]) (by simp [results, Try.results35, go_sem, s0, s1, s2, s3, s4, s5, s6]) rfl ⟨rfl, hQ.out.2⟩
theorem pop_any {w : World} {rb : Nat} {most : Int} {bv av : Value} {B : List M} {us : List Up} (h : RungsOf w rb most bv B av us) (hS : Stairs B us) (hU : Unlike (held B us)) (hm1 : 1 ≤ most) (hl : (held B us).length < 200000) (hp : 0 < B.length) :
    Calls Try.prog 35 #[.pointer (some ⟨rb, 0, none⟩)] w fun e w' => e = .returned (B.getD 0 default).val ∧ Taken w rb most bv av us (held B us) (B.getD 0 default) w' := by
  obtain ⟨W1, hW1⟩ : ∃ W1, W1 = w.alloc (.cells zeroM.cells 34) := ⟨_, rfl⟩
  have hb1 : Below w.heap.size w W1 := by rw [hW1]; exact (Below.refl _ w).alloc (Nat.le_refl _) _
  have hs1 : W1.heap.size = w.heap.size + 1 := by rw [hW1]; simp
  have hz1 : BoxM W1 w.heap.size zeroM := by rw [hW1]; exact BoxM.mk w zeroM
  have h1 := h.below hb1
  obtain ⟨aa, acap, hav, -⟩ := RowAt.shape h1.abv
  have hc2 := h1.c2
  rw [hav] at hc2
  refine pop_walk hW1 hc2 ((take_bot h1 hS hU hm1 hl 0 hp).mono ?_)
  rintro e w2 ⟨he, B', us', bv', av', r, s1, s2⟩
  exact ⟨he, r.box hz1 (fun e => by have := h.own_lt e; omega), B', us', bv', av', RungsRes.row hb1 (by omega) h r _, s1, s2⟩

set_option maxHeartbeats 4000000 in
set_option maxRecDepth 100000 in
theorem first_any {w : World} {rb : Nat} {most : Int} {bv av : Value} {B : List M} {us : List Up} (h : RungsOf w rb most bv B av us) (hp : 0 < B.length) :
    Calls Try.prog 37 #[.pointer (some ⟨rb, 0, none⟩)] w fun e w' => e = .returned (B.getD 0 default).val ∧ Below w.heap.size w w' := by
  obtain ⟨g, off, cap, rfl, hR⟩ := AtM.form h.bot hp
  obtain ⟨m, hm⟩ : ∃ m, m = B.getD 0 default := ⟨_, rfl⟩
  obtain ⟨W1, hW1⟩ : ∃ W1, W1 = w.alloc (.cells zeroM.cells 34) := ⟨_, rfl⟩
  have hb1 : Below w.heap.size w W1 := by rw [hW1]; exact (Below.refl _ w).alloc (Nat.le_refl _) _
  have hz1 : BoxM W1 w.heap.size zeroM := by rw [hW1]; exact BoxM.mk w zeroM
  have c0 := (h.below hb1).c0
  obtain ⟨-, x0, x1, x2, x3, x4, x5, x6⟩ := (hR.kept0 hb1).at 0 hp
  rw [← hm] at x0 x1 x2 x3 x4 x5 x6 ⊢
  simp only [Nat.zero_mul, Nat.add_zero] at x0 x1 x2 x3 x4 x5 x6
  have hpI : (0 : Int) < (B.length : Int) := by omega
  have hz1' := Lib.hid hz1
  have hW1z : Hid (w.alloc (.cells #[.int .i64 0, .int .i64 0, .int .i64 0, .int .i64 0, .int .i64 0, .int .i64 0, .bool false] 34) = W1) := hW1.symm
  have hb1' := Lib.hid hb1
  clear h hR hz1 hW1 hb1 hm
  obtain ⟨⟨mt, f, s⟩, tt, vv, u, an⟩ := m
  simp only [M.val] at x0 x1 x2 x3 x4 x5 x6 ⊢
  go_enter Try.func37, Try.ntmps37
  go_upto_region 1 with (fail)
  rw [hW1z.out]
  go_wp2_with (refine wpList_store_row rfl 34 (.tmp 2) (.tmp 9) rfl w.heap.size #[.int .i64 mt, .int .i64 f, .int .i64 s, .int .i64 tt, .int .i64 vv, .int .i64 u, .bool an] rfl rfl 34 zeroM.cells hz1'.out infoS rfl (M.cells_one ⟨⟨mt, f, s⟩, tt, vv, u, an⟩) ?_)
  obtain ⟨-, s0, s1, s2, s3, s4, s5, s6⟩ := (hz1'.out.row ⟨⟨mt, f, s⟩, tt, vv, u, an⟩).at
  simp only [Nat.zero_add, M.cells] at s0 s1 s2 s3 s4 s5 s6
  exact bodyPost_ret (v := .agg #[.int .i64 mt, .int .i64 f, .int .i64 s, .int .i64 tt, .int .i64 vv, .int .i64 u, .bool an]) (by simp [results, Try.results37, go_sem, s0, s1, s2, s3, s4, s5, s6]) rfl ⟨rfl, below_setRow hb1'.out (Nat.le_refl _) _⟩
end Go.Proofs.Ytcfpfbemmklbaaa
