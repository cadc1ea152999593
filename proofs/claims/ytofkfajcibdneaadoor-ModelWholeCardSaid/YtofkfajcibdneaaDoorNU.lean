/-
  The law of the worlds.
-/
import Derived.Test.YtofkfajcibdneaaDoorNS
namespace Go.Proofs.YtofkfajcibdneaaDoor
open Go.ChangeShapes Go.WideShapes Go.ChangeAt Go.Shelf Go.RowKit Go.Lib Go.Sort Go.Deep
set_option linter.unusedVariables false
set_option linter.unusedSimpArgs false
set_option maxRecDepth 4000

theorem r13World_any {w : World} {v : Mv} {M : Md} (h : Mds w v M) (n : Int) : Calls Tryd.prog 13 #[v.val M, .int .i64 n] w fun e w' => ∃ qa ql qc u, e = .returned (.tuple #[.agg (woC (.slice qa ql qc) (woA M n).1.self u (woA M n).1.seed), .int .i64 (woA M n).2]) ∧ Hid (WoAns w w' (woA M n) qa ql qc u) := by
  have hpl := h.1.1
  by_cases hc : checkM M = 0
  · by_cases hn : 0 ≤ n ∧ n < (M.progs.length : Int)
    · obtain ⟨k, rfl⟩ : ∃ k : Nat, n = (k : Int) := ⟨n.toNat, by omega⟩
      have hA : woA M k = (⟨M.progs.getD k [], k, (waysU (·.src) M.links k M.links.length).map fun j => M.links.getD j default, M.seed⟩, 0) := by
        unfold woA; rw [if_pos hc, if_pos hn]; rfl
      rw [hA]
      refine (r13World_ok h hc k (by omega)).mono ?_
      rintro e w' ⟨qa, ql, qc, u, rfl, hb, h1, h2, -⟩
      refine ⟨qa, ql, qc, u, rfl, Lib.hid ⟨hb, h1.below hb, ?_⟩⟩
      rw [← lksC_map, List.length_map]
      exact h2
    · have hA : woA M n = (⟨[], 0, [], 0⟩, 1) := by unfold woA; rw [if_pos hc, if_neg hn]
      rw [hA]
      refine (r13World_none h n hc (by omega)).mono ?_
      rintro e w' ⟨rfl, hb⟩
      exact ⟨none, 0, 0, _, rfl, Lib.hid ⟨hb.out, Inss.none13 _, RowAt.nil _ _ _⟩⟩
  · have hA : woA M n = (⟨[], 0, [], 0⟩, checkM M) := by unfold woA; rw [if_neg hc]
    rw [hA]
    refine (r13World_bad h n hc).mono ?_
    rintro e w' ⟨rfl, hb⟩
    exact ⟨none, 0, 0, _, rfl, Lib.hid ⟨hb.out, Inss.none13 _, RowAt.nil _ _ _⟩⟩
/-- A box with a world. -/
def WoBox (w : World) (X : Nat) (p : Value) (self : Int) (l : Value) (seed : Nat) : Prop := w.heap[X]? = some (.cells (woC p self l seed) 35 (0, 0))
theorem WoBox.below {w w' : World} {X : Nat} {p l : Value} {self : Int} {seed : Nat} (h : WoBox w X p self l seed) (hb : Below w.heap.size w w') : WoBox w' X p self l seed := (hb.block X (Array.getElem?_eq_some_iff.1 h).1).trans h
def LkC4 (w : World) (g o : Nat) (l : Lk) : Prop := (w.cell? ⟨g, o, none⟩ = some (.int .i64 l.src) ∧ w.cell? ⟨g, o + 1, none⟩ = some (.int .i64 l.dst)) ∧ w.cell? ⟨g, o + 2, none⟩ = some (.int .i64 l.look) ∧ w.cell? ⟨g, o + 3, none⟩ = some (.bool l.loose)
theorem lkC4_of {w : World} {ls : List Lk} {g off n cap i : Nat} (h : RowIn w 43 4 g off n cap (flL ls)) (hi : i < ls.length) : LkC4 w g (off + i * 4) (ls.getD i default) := by
  have hc : ∀ j u, j < 4 → (lkC (ls.getD i default))[j]? = some u → w.cell? ⟨g, off + i * 4 + j, none⟩ = some u := fun j u hj hu => by
    rw [Nat.add_assoc]
    exact h.cell (by rw [flL_get hj ls i hi]; exact hu)
  exact ⟨⟨hc 0 _ (by omega) rfl, hc 1 _ (by omega) rfl⟩, hc 2 _ (by omega) rfl, hc 3 _ (by omega) rfl⟩
set_option maxHeartbeats 8000000 in
set_option maxRecDepth 100000 in
theorem lawModelWorlds {w : World} {v : Mv} {M : Md} (h : Mds w v M) (hL : Laid13 w) (n : Int) : Calls Tryd.prog 4 #[v.val M, .int .i64 n] w fun e w' => e = .returned (.bool true) ∧ Below w.heap.size w w' := by
  have mixed := mixed
  have hb1 : Hid (Below w.heap.size w (w.alloc (.cells (v.cells M) 27))) := (Below.refl _ w).alloc (Nat.le_refl _) _
  have hbx := Lib.hid h.box
  have hL1 := Lib.hid (hL.below hb1.out)
  clear h hL
  simp only [Mv.val, Mv.cells] at hb1 hbx hL1 ⊢
  go_enter Tryd.func4, Tryd.ntmps4
  go_upto_region 1 with fail
  generalize w.heap.size = B at hbx ⊢
  generalize w.alloc (.cells #[.slice v.pa v.pl v.pc, .slice v.la v.ll v.lc, .slice v.sa v.sl v.sc, .int .u64 M.seed, .int .i64 M.last, .int .i64 M.bud] 27) = W at *
  have d0 := hbx.out.c0
  have d1 := hbx.out.c1
  have d2 := hbx.out.c2
  have d3 := hbx.out.c3
  have d4 := hbx.out.c4
  have d5 := hbx.out.c5
  have k1 := Lib.hid (mdWorld_any hbx.out.2 hL1.out n)
  simp only [Mv.val, Mv.cells, woC] at k1
  obtain ⟨X, hX⟩ : ∃ X, Hid (woA M n = X) := ⟨_, Lib.hid rfl⟩
  rw [hX.out] at k1
  obtain ⟨⟨is, self, ls, seed⟩, z⟩ := X
  dsimp only at k1
  go_upto_region 2 with (go_at_call 12; refine k1.out.mono ?_; rintro e w2 ⟨qa, ql, qc, u1, rfl, hr1⟩; obtain ⟨la1, lc1, rfl, -⟩ := hr1.out.2.2.shape; dsimp only)
  have hb2 : Hid (Below W.heap.size W w2) := hr1.out.1
  have hi1 : Hid (Inss w2 qa ql qc is) := hr1.out.2.1
  have ht1 : Hid (RowAt w2 43 4 (.slice la1 ls.length lc1) ls.length (flL ls)) := hr1.out.2.2
  have hs2 := (Below.refl _ w2).alloc (Nat.le_refl _) (.cells #[.slice qa ql qc, .int .i64 self, .slice la1 ls.length lc1, .int .u64 seed] 35)
  have hwb1 : Hid (WoBox (w2.alloc (.cells #[.slice qa ql qc, .int .i64 self, .slice la1 ls.length lc1, .int .u64 seed] 35)) w2.heap.size (.slice qa ql qc) self (.slice la1 ls.length lc1) seed) := heap_alloc_new w2 _
  have hb3 : Hid (Below W.heap.size W _) := hb2.out.trans (hs2.mono hb2.out.size)
  have hi1' := Lib.hid (hi1.out.below hs2)
  have ht1' := Lib.hid (ht1.out.kept (S := fun _ => False) (.of_below hs2) (fun _ _ e => e))
  have hbx2 := Lib.hid (hbx.out.below hb3.out)
  have hL2 := Lib.hid (hL1.out.below hb3.out)
  have hb4 : Hid (Below w.heap.size w _) := hb1.out.trans (hb3.out.mono hb1.out.size)
  clear d0 d1 d2 d3 d4 d5 k1 hr1 hb1 hb2 hb3 hi1 ht1 hs2 hbx hL1
  generalize w2.heap.size = X1 at hwb1 ⊢
  generalize w2.alloc (.cells #[.slice qa ql qc, .int .i64 self, .slice la1 ls.length lc1, .int .u64 seed] 35) = W2 at *
  have d0 := hbx2.out.c0
  have d1 := hbx2.out.c1
  have d2 := hbx2.out.c2
  have d3 := hbx2.out.c3
  have d4 := hbx2.out.c4
  have d5 := hbx2.out.c5
  have k2 := Lib.hid (r13World_any hbx2.out.2 n)
  rw [hX.out] at k2
  simp only [Mv.val, Mv.cells, woC] at k2
  go_upto_region 3 with (go_at_call 13; refine k2.out.mono ?_; rintro e w3 ⟨ra, rl, rc, u2, rfl, hr2⟩; obtain ⟨la2, lc2, rfl, -⟩ := hr2.out.2.2.shape; dsimp only)
  have hb5 : Hid (Below W2.heap.size W2 w3) := hr2.out.1
  have hs3 := (Below.refl _ w3).alloc (Nat.le_refl _) (.cells #[.slice ra rl rc, .int .i64 self, .slice la2 ls.length lc2, .int .u64 seed] 35)
  have hb6 := hb5.out.trans (hs3.mono hb5.out.size)
  have hwb2 : Hid (WoBox (w3.alloc (.cells #[.slice ra rl rc, .int .i64 self, .slice la2 ls.length lc2, .int .u64 seed] 35)) w3.heap.size (.slice ra rl rc) self (.slice la2 ls.length lc2) seed) := heap_alloc_new w3 _
  have hi2 : Hid (Inss _ ra rl rc is) := Lib.hid (hr2.out.2.1.below hs3)
  have ht2 : Hid (RowAt _ 43 4 (.slice la2 ls.length lc2) ls.length (flL ls)) := Lib.hid (hr2.out.2.2.kept (S := fun _ => False) (.of_below hs3) (fun _ _ e => e))
  have hi1 := Lib.hid (hi1'.out.below hb6)
  have ht1 := Lib.hid (ht1'.out.kept (S := fun _ => False) (.of_below hb6) (fun _ _ e => e))
  have hwb1' := Lib.hid (hwb1.out.below hb6)
  have hL3 := Lib.hid (hL2.out.below hb6)
  have hb7 : Hid (Below w.heap.size w _) := hb4.out.trans (hb6.mono hb4.out.size)
  clear d0 d1 d2 d3 d4 d5 k2 hr2 hb5 hb6 hs3 hi1' ht1' hwb1 hbx2 hL2 hb4
  generalize w3.heap.size = X2 at hwb2 ⊢
  generalize w3.alloc (.cells #[.slice ra rl rc, .int .i64 self, .slice la2 ls.length lc2, .int .u64 seed] 35) = W3 at *
  obtain ⟨hln, hlm⟩ : is.length = ql ∧ is.length = rl := ⟨hi1.out.1, hi2.out.1⟩
  obtain ⟨iln, hin⟩ : ∃ k, Hid (is.length = k) := ⟨_, Lib.hid rfl⟩
  rw [hin.out] at hln hlm
  subst hln hlm
  obtain ⟨lln, hlnn⟩ : ∃ k, Hid (ls.length = k) := ⟨_, Lib.hid rfl⟩
  rw [hlnn.out] at ht1 ht2 hwb1' hwb2 ⊢
  have hmi : iln ≤ 9223372036854775807 := by have := hi1.out.2.1; have := hi1.out.2.2.1; unfold maxLen at this; omega
  have hml : lln ≤ 9223372036854775807 := by
    rcases Nat.eq_zero_or_pos lln with h0 | h0
    · omega
    · obtain ⟨g, o, cp, -, hR⟩ := ht1.out.form h0
      have := hR.bounds.1; have := hR.bounds.2.1; unfold maxLen at this; omega
  have hmi' := Lib.hid hmi
  have hml' := Lib.hid hml
  have hcs : Hid (∀ w', Below W3.heap.size W3 w' → ((w'.cell? ⟨X1, 0, none⟩ = some (.slice qa iln qc) ∧ w'.cell? ⟨X1, 1, none⟩ = some (.int .i64 self)) ∧ w'.cell? ⟨X1, 2, none⟩ = some (.slice la1 lln lc1) ∧ w'.cell? ⟨X1, 3, none⟩ = some (.int .u64 seed)) ∧ (w'.cell? ⟨X2, 0, none⟩ = some (.slice ra iln rc) ∧ w'.cell? ⟨X2, 1, none⟩ = some (.int .i64 self)) ∧ w'.cell? ⟨X2, 2, none⟩ = some (.slice la2 lln lc2) ∧ w'.cell? ⟨X2, 3, none⟩ = some (.int .u64 seed)) := Lib.hid (fun w' h =>
    ⟨⟨⟨cell_of_block (hwb1'.out.below h) rfl, cell_of_block (hwb1'.out.below h) rfl⟩, cell_of_block (hwb1'.out.below h) rfl, cell_of_block (hwb1'.out.below h) rfl⟩, ⟨cell_of_block (hwb2.out.below h) rfl, cell_of_block (hwb2.out.below h) rfl⟩, cell_of_block (hwb2.out.below h) rfl, cell_of_block (hwb2.out.below h) rfl⟩)
  clear hwb1' hwb2 hX hmi hml
  have hr0 := hcs.out _ (Below.refl _ W3)
  have a0 := hr0.1.1.1
  have a1 := hr0.1.1.2
  have a2 := hr0.1.2.1
  have a3 := hr0.1.2.2
  have b0 := hr0.2.1.1
  have b1 := hr0.2.1.2
  have b2 := hr0.2.2.1
  have b3 := hr0.2.2.2
  clear hr0
  go_upto_region 5 with fail
  clear a0 a1 a2 a3 b0 b1 b2 b3
  have hb8' : Hid (Below W3.heap.size W3 W3) := Below.refl _ W3
  go_wp2
  go_loopw [9] (fun s5 wr => ∃ i : Nat, i ≤ iln ∧ s5 = .int .i64 i ∧ Hid (Below W3.heap.size W3 wr)) (fun s5 _ => iln - (intOf s5).toNat)
  case atStart => exact ⟨0, Nat.zero_le _, rfl, hb8'⟩
  case round =>
    obtain ⟨i, hil, rfl, hbr⟩ := hrel
    have a0 := (hcs.out _ hbr.out).1.1.1
    have b0 := (hcs.out _ hbr.out).2.1.1
    by_cases hi : i < iln
    · have hiz : (i : Int) < (iln : Int) := by omega
      have hi' := Lib.hid hi
      have hmx := hmi'.out
      have hwi : IntKind.i64.wrap ((i : Int) + 1) = (i : Int) + 1 := IntWalk.i64_in _ (by omega)
      obtain ⟨g1, o1, e1, f1⟩ : ∃ g o, qa = some ⟨g, o, none⟩ ∧ InsAt W3 g (o + i * 4) (is.getD i default) := by
        rcases hi1.out.2.2.2.2 with h0 | ⟨b, off, ha, hm⟩
        · omega
        · exact ⟨b, off, ha, hm i hi⟩
      obtain ⟨g2, o2, e2, f2⟩ : ∃ g o, ra = some ⟨g, o, none⟩ ∧ InsAt W3 g (o + i * 4) (is.getD i default) := by
        rcases hi2.out.2.2.2.2 with h0 | ⟨b, off, ha, hm⟩
        · omega
        · exact ⟨b, off, ha, hm i hi⟩
      subst e1 e2
      have m1 : Hid (∀ z, InsAt (wide wr z) g1 (o1 + i * 4) (is.getD i default)) := Lib.hid (fun z => f1.below (hbr.out.trans ((wide_below wr z).mono hbr.out.size)))
      have m2 : Hid (∀ z, InsAt (wide wr z) g2 (o2 + i * 4) (is.getD i default)) := Lib.hid (fun z => f2.below (hbr.out.trans ((wide_below wr z).mono hbr.out.size)))
      clear f1 f2 a0 b0
      have a0 := (hcs.out _ hbr.out).1.1.1
      have b0 := (hcs.out _ hbr.out).2.1.1
      have a0' := fun z => (hcs.out _ (hbr.out.trans ((wide_below wr z).mono hbr.out.size))).1.1.1
      have b0' := fun z => (hcs.out _ (hbr.out.trans ((wide_below wr z).mono hbr.out.size))).2.1.1
      generalize is.getD i default = s at m1 m2
      obtain ⟨so, sa, sb, sc⟩ := s
      unfold InsAt at m1 m2
      dsimp only at m1 m2
      have p0 := fun z => (m1.out z).2.1
      have p1 := fun z => (m1.out z).2.2.1
      have p2 := fun z => (m1.out z).2.2.2.1
      have p3 := fun z => (m1.out z).2.2.2.2
      have q0 := fun z => (m2.out z).2.1
      have q1 := fun z => (m2.out z).2.2.1
      have q2 := fun z => (m2.out z).2.2.2.1
      have q3 := fun z => (m2.out z).2.2.2.2
      clear m1 m2 hi
      go_upto_region 8 with fail
      refine wp_region_wide (by kernel_rfl) (by kernel_rfl) ?_
      repeat (first | go_big_quiet_step (fail) | quiet_step (fail))
      refine wpQuiet_nil ?_
      refine wide_all fun W5 hb9 => ?_
      have hb10 : Hid (Below W3.heap.size W3 W5) := hbr.out.trans (hb9.mono hbr.out.size)
      clear p0 p1 p2 p3 q0 q1 q2 q3 hb9 hbr a0 b0 a0' b0'
      go_wp2
      go_roundw
      case rel => (repeat apply Exists.intro); first | exact ⟨hi'.out, by go_num⟩ | exact ⟨hi'.out, by go_num, hb10⟩ | exact ⟨⟨hi'.out, by go_num, hb10⟩, rfl⟩
      case measure => have := hi'.out; simp [intOf]; omega
    · obtain rfl : i = iln := by omega
      have hiz : ¬ (i : Int) < (i : Int) := by omega
      have hbq := hbr
      clear hi hbr
      go_wp2
      go_loopw [10] (fun s5 wr => ∃ j : Nat, j ≤ lln ∧ s5 = .int .i64 j ∧ Hid (Below W3.heap.size W3 wr)) (fun s5 _ => lln - (intOf s5).toNat)
      case atStart => exact ⟨0, Nat.zero_le _, rfl, hbq⟩
      case round =>
        obtain ⟨j, hjl, rfl, hbr⟩ := hrel
        clear a0 b0
        have a2 := (hcs.out _ hbr.out).1.2.1
        have b2 := (hcs.out _ hbr.out).2.2.1
        by_cases hj : j < lln
        · have hjz : (j : Int) < (lln : Int) := by omega
          have hj' := Lib.hid hj
          have hmx := hml'.out
          have hwj : IntKind.i64.wrap ((j : Int) + 1) = (j : Int) + 1 := IntWalk.i64_in _ (by omega)
          obtain ⟨g1, o1, e1, f1, hR1⟩ := ht1.out.form (by omega)
          obtain ⟨g2, o2, e2, f2, hR2⟩ := ht2.out.form (by omega)
          simp only [Value.slice.injEq, true_and] at f1 f2
          obtain ⟨rfl, rfl⟩ := f1
          obtain ⟨rfl, rfl⟩ := f2
          have m1 : Hid (∀ z, LkC4 (wide wr z) g1 (o1 + j * 4) (ls.getD j default)) := Lib.hid (fun z => lkC4_of (hR1.kept (S := fun _ => False) (.of_below (hbr.out.trans ((wide_below wr z).mono hbr.out.size))) (fun e => e)) (by rw [hlnn.out]; exact hj))
          have m2 : Hid (∀ z, LkC4 (wide wr z) g2 (o2 + j * 4) (ls.getD j default)) := Lib.hid (fun z => lkC4_of (hR2.kept (S := fun _ => False) (.of_below (hbr.out.trans ((wide_below wr z).mono hbr.out.size))) (fun e => e)) (by rw [hlnn.out]; exact hj))
          have a2' := fun z => (hcs.out _ (hbr.out.trans ((wide_below wr z).mono hbr.out.size))).1.2.1
          have b2' := fun z => (hcs.out _ (hbr.out.trans ((wide_below wr z).mono hbr.out.size))).2.2.1
          generalize ls.getD j default = l at m1 m2
          obtain ⟨lsrc, ldst, llook, lloose⟩ := l
          unfold LkC4 at m1 m2
          dsimp only at m1 m2
          have p0 := fun z => (m1.out z).1.1
          have p1 := fun z => (m1.out z).1.2
          have p2 := fun z => (m1.out z).2.1
          have p3 := fun z => (m1.out z).2.2
          have q0 := fun z => (m2.out z).1.1
          have q1 := fun z => (m2.out z).1.2
          have q2 := fun z => (m2.out z).2.1
          have q3 := fun z => (m2.out z).2.2
          clear m1 m2 hR1 hR2 hj
          go_upto_region 13 with fail
          refine wp_region_wide (by kernel_rfl) (by kernel_rfl) ?_
          repeat (first | go_big_quiet_step (fail) | quiet_step (fail))
          refine wpQuiet_nil ?_
          refine wide_all fun W5 hb9 => ?_
          have hb10 : Hid (Below W3.heap.size W3 W5) := hbr.out.trans (hb9.mono hbr.out.size)
          clear p0 p1 p2 p3 q0 q1 q2 q3 hb9 hbr a2 b2 a2' b2'
          go_wp2
          go_roundw
          case rel => (repeat apply Exists.intro); first | exact ⟨hj'.out, by go_num⟩ | exact ⟨hj'.out, by go_num, hb10⟩ | exact ⟨⟨hj'.out, by go_num, hb10⟩, rfl⟩
          case measure => have := hj'.out; simp [intOf]; omega
        · obtain rfl : j = lln := by omega
          have hjz : ¬ (j : Int) < (j : Int) := by omega
          have haw := Lib.hid (awake_any13 (hL3.out.below hbr.out))
          have hb11 := Lib.hid (hb7.out.trans (hbr.out.mono hb7.out.size))
          clear hj
          go_wp2_with (go_at_call 11; refine haw.out.mono ?_; rintro e w6 ⟨rfl, hb12⟩; have hb13 := Lib.hid (hb11.out.trans (hb12.mono hb11.out.size)); clear hb12)
          go_ret
          exact ⟨rfl, hb13.out⟩
end Go.Proofs.YtofkfajcibdneaaDoor
