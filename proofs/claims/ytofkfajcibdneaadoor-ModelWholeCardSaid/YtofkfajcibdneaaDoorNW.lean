/-
  The law of the whole (tools/genmwh.py).
-/
import Derived.Test.YtofkfajcibdneaaDoorNV
namespace Go.Proofs.YtofkfajcibdneaaDoor
open Go.ChangeShapes Go.WideShapes Go.ChangeAt Go.Shelf Go.RowKit Go.Lib Go.Sort Go.Deep
set_option linter.unusedVariables false
set_option linter.unusedSimpArgs false
set_option maxRecDepth 4000

theorem Lks.of_row {w : World} {a : Option Addr} {n c : Nat} {ls : List Lk} (h : RowAt w 43 4 (.slice a n c) n (flL ls)) (hn : ls.length = n) : Lks w a n c ls := by
  rcases Nat.eq_zero_or_pos n with h0 | h0
  · subst h0
    rcases h with ⟨h1, -, -⟩ | ⟨g, off, cap, h1, hR⟩
    · simp at h1
      obtain ⟨rfl, rfl⟩ := h1
      exact ⟨hn, Nat.le_refl _, Nat.zero_le _, .inl rfl⟩
    · simp at h1
      obtain ⟨rfl, rfl⟩ := h1
      exact ⟨hn, hR.bounds.1, hR.bounds.2.1, .inl rfl⟩
  · obtain ⟨g, o, cp, h1, hR⟩ := h.form h0
    simp at h1
    obtain ⟨rfl, rfl⟩ := h1
    refine ⟨hn, hR.bounds.1, hR.bounds.2.1, .inr ⟨g, o, rfl, fun k hk => ?_⟩⟩
    obtain ⟨⟨c0, c1⟩, c2, c3⟩ := lkC4_of hR (i := k) (by omega)
    exact ⟨hR.lt, c0, c1, c2, c3⟩
set_option maxHeartbeats 8000000 in
set_option maxRecDepth 100000 in
theorem lawModelWhole {w : World} {v : Mv} {M : Md} (h : Mds w v M) (hL : Laid13 w) : Calls Tryd.prog 6 #[v.val M] w fun e w' => e = .returned (.bool true) ∧ Below w.heap.size w w' := by
  have mixed := mixed
  have hb1 : Hid (Below w.heap.size w (w.alloc (.cells (v.cells M) 27))) := (Below.refl _ w).alloc (Nat.le_refl _) _
  have hbx := Lib.hid h.box
  have hL1 := Lib.hid (hL.below hb1.out)
  have hll : Hid (M.links.length = v.ll) := h.2.1.1
  have hpl : Hid (M.progs.length = v.pl) := h.1.1
  clear h hL
  generalize hzz : checkM M = zc
  have hzc := Lib.hid hzz
  clear hzz
  simp only [Mv.val, Mv.cells] at hb1 hbx hL1 ⊢
  go_enter Tryd.func6, Tryd.ntmps6
  go_upto_region 1 with fail
  generalize w.heap.size = B at hbx ⊢
  generalize w.alloc (.cells #[.slice v.pa v.pl v.pc, .slice v.la v.ll v.lc, .slice v.sa v.sl v.sc, .int .u64 M.seed, .int .i64 M.last, .int .i64 M.bud] 27) = W at *
  have d0 := hbx.out.c0
  have d1 := hbx.out.c1
  have d2 := hbx.out.c2
  have d3 := hbx.out.c3
  have d4 := hbx.out.c4
  have d5 := hbx.out.c5
  have k1 := Lib.hid (mdCheck_any hbx.out.2 hL1.out)
  rw [hzc.out] at k1
  simp only [Mv.val, Mv.cells] at k1
  by_cases hz : zc = 0
  case neg =>
    have hz1 : (zc == 0) = false := by simp [hz]
    have hz2 : (zc != 0) = true := by simp [hz]
    go_wp2_with (first
      | (go_at_call 11; refine haw.out.mono ?_; rintro e w6 ⟨rfl, hb8⟩; have hb9 := Lib.hid (hb3.out.trans (hb8.mono hb3.out.size)); clear hb8)
      | (go_at_call 9; refine k1.out.mono ?_; rintro e w2 ⟨rfl, hb2⟩; have hb3 := Lib.hid (hb1.out.trans (hb2.out.mono hb1.out.size)); have haw := Lib.hid (awake_any13 (hL1.out.below hb2.out))))
    go_ret
    exact ⟨rfl, hb9.out⟩
  case pos =>
    subst hz
    go_upto_region 3 with (go_at_call 9; refine k1.out.mono ?_; rintro e w2 ⟨rfl, hb2⟩)
    have hbx2 := Lib.hid (hbx.out.below hb2.out)
    have hL2 := Lib.hid (hL1.out.below hb2.out)
    have hb3 : Hid (Below w.heap.size w w2) := hb1.out.trans (hb2.out.mono hb1.out.size)
    have hok : Hid (okLinks M) := (checkM_zero hzc.out).2.2.1
    have hlm : Hid (v.ll ≤ 1024) := by rw [← hll.out]; exact Lib.hid hok.out.1
    have hp16 : Hid (v.pl ≤ 16) := by rw [← hpl.out]; exact Lib.hid (checkM_zero hzc.out).1.1.2
    have hso : Hid (sumW (·.src) M.links M.links.length v.pl = v.ll) := by rw [← hll.out, ← hpl.out]; exact Lib.hid hok.out.outs
    have hsi : Hid (sumW (·.dst) M.links M.links.length v.pl = v.ll) := by rw [← hll.out, ← hpl.out]; exact Lib.hid hok.out.ins
    clear d0 d1 d2 d3 d4 d5 k1 hbx hL1 hb1 hb2
    go_wp2
    go_loopw [3, 4, 5] (fun s3 s4 s5 wr => ∃ k : Nat, k ≤ v.pl ∧ s5 = .int .i64 k ∧ s3 = .int .i64 (sumW (·.src) M.links M.links.length k : Nat) ∧ s4 = .int .i64 (sumW (·.dst) M.links M.links.length k : Nat) ∧ Hid (Below w2.heap.size w2 wr)) (fun _ _ s5 _ => v.pl - (intOf s5).toNat)
    case atStart => exact ⟨0, Nat.zero_le _, rfl, rfl, rfl, Below.refl _ _⟩
    case round =>
      obtain ⟨k, hkl, rfl, rfl, rfl, hbr⟩ := hrel
      have d0 := (hbx2.out.below hbr.out).c0
      have d1 := (hbx2.out.below hbr.out).c1
      by_cases hk : k < v.pl
      · have hkz : (k : Int) < (v.pl : Int) := by omega
        have hk' := Lib.hid hk
        have hp := hp16.out
        have hlm' := hlm.out
        have hwk : IntKind.i64.wrap ((k : Int) + 1) = (k : Int) + 1 := IntWalk.i64_in _ (by omega)
        have hkp : k < M.progs.length := by rw [hpl.out]; exact hk
        have ho1 : Hid (sumW (·.src) M.links M.links.length k + (waysU (·.src) M.links k M.links.length).length = sumW (·.src) M.links M.links.length (k + 1)) := Lib.hid rfl
        have ho2 : Hid (sumW (·.dst) M.links M.links.length k + (waysU (·.dst) M.links k M.links.length).length = sumW (·.dst) M.links M.links.length (k + 1)) := Lib.hid rfl
        have hm1 := sumW_mono (·.src) M.links M.links.length (p := k + 1) (q := v.pl) hk
        have hm2 := sumW_mono (·.dst) M.links M.links.length (p := k + 1) (q := v.pl) hk
        rw [hso.out, ← ho1.out] at hm1
        rw [hsi.out, ← ho2.out] at hm2
        have hbxr := Lib.hid (hbx2.out.below hbr.out)
        have hLr := Lib.hid (hL2.out.below hbr.out)
        have d2 := hbxr.out.c2
        have d3 := hbxr.out.c3
        have d4 := hbxr.out.c4
        have d5 := hbxr.out.c5
        have k1 := Lib.hid (mdWorld_any hbxr.out.2 hLr.out (k : Int))
        rw [woA_ok hzc.out hkp] at k1
        have hmay := Lib.hid (woA_may hzc.out hkp)
        rw [woA_ok hzc.out hkp] at hmay
        have hsd : Hid (M.seed < 18446744073709551616) := hbxr.out.2.2.2.2
        have hwl : Hid ((waysU (·.src) M.links k M.links.length).length ≤ 1024) := by show _ ≤ _; omega
        have hw1 : Hid (∀ j, j < (waysU (·.src) M.links k M.links.length).length → (waysU (·.src) M.links k M.links.length).getD j 0 < v.ll ∧ (M.links.getD ((waysU (·.src) M.links k M.links.length).getD j 0) default).src = k) := Lib.hid (fun j hj => by rw [← hll.out]; exact waysU_mem (f := (·.src)) hj)
        simp only [Mv.val, Mv.cells, woC] at k1
        dsimp only at k1 hmay
        have hnx1 : IntKind.i64.wrap ((sumW (·.src) M.links M.links.length k : Nat) + ((waysU (·.src) M.links k M.links.length).length : Nat)) = ((sumW (·.src) M.links M.links.length (k + 1) : Nat) : Int) := by rw [IntWalk.i64_in _ (by omega), ← ho1.out]; omega
        have hnx2 : IntKind.i64.wrap ((sumW (·.dst) M.links M.links.length k : Nat) + ((waysU (·.dst) M.links k M.links.length).length : Nat)) = ((sumW (·.dst) M.links M.links.length (k + 1) : Nat) : Int) := by rw [IntWalk.i64_in _ (by omega), ← ho2.out]; omega
        generalize (sumW (·.src) M.links M.links.length k) = sa at *
        generalize (sumW (·.dst) M.links M.links.length k) = sb at *
        clear ho1 ho2
        have k3 := fun (W3 : World) (hb : Below w2.heap.size w2 W3) => mdWays_any (hbx2.out.below hb).2 (k : Int) (by have := hlm.out; omega)
        have k4 := fun (W3 : World) (hb : Below w2.heap.size w2 W3) => mdInto_any (hbx2.out.below hb).2 (k : Int) (by have := hlm.out; omega)
        simp only [Mv.val, Mv.cells] at k3 k4
        have k3' := Lib.hid k3
        have k4' := Lib.hid k4
        clear k3 k4
        generalize hl1 : waysU (·.src) M.links k M.links.length = l1 at *
        generalize hl2 : waysU (·.dst) M.links k M.links.length = l2 at *
        clear hl1 hl2
        obtain ⟨L1, hn1⟩ : ∃ L, Hid (l1.length = L) := ⟨_, Lib.hid rfl⟩
        obtain ⟨L2, hn2⟩ : ∃ L, Hid (l2.length = L) := ⟨_, Lib.hid rfl⟩
        rw [hn1.out] at hnx1
        rw [hn2.out] at hnx2
        go_upto_region 9 with (go_at_call 12; refine k1.out.mono ?_; rintro e w3 ⟨qa, ql, qc, u1, rfl, hr1⟩; obtain ⟨la1, lc1, rfl, -⟩ := hr1.out.2.2.shape; dsimp only)
        have hs2 := (Below.refl _ w3).alloc (Nat.le_refl _) (.cells #[.slice qa ql qc, .int .i64 k, .slice la1 (l1.map fun j => M.links.getD j default).length lc1, .int .u64 M.seed] 35)
        have hwb1 : Hid (WoBox (w3.alloc (.cells #[.slice qa ql qc, .int .i64 k, .slice la1 (l1.map fun j => M.links.getD j default).length lc1, .int .u64 M.seed] 35)) w3.heap.size (.slice qa ql qc) k (.slice la1 (l1.map fun j => M.links.getD j default).length lc1) M.seed) := heap_alloc_new w3 _
        have hi1 := Lib.hid (hr1.out.2.1.below hs2)
        have ht1 := Lib.hid (hr1.out.2.2.kept (S := fun _ => False) (.of_below hs2) (fun _ _ e => e))
        dsimp only at hi1 ht1
        have hb4 : Hid (Below w2.heap.size w2 _) := hbr.out.trans ((hr1.out.1.trans (hs2.mono hr1.out.1.size)).mono hbr.out.size)
        clear d0 d1 d2 d3 d4 d5 k1 hr1 hs2 hbxr hLr hbr
        generalize w3.heap.size = X1 at hwb1 ⊢
        rw [List.length_map, hn1.out] at hwb1 ht1 hi1 hb4 ⊢
        generalize w3.alloc (.cells #[.slice qa ql qc, .int .i64 k, .slice la1 L1 lc1, .int .u64 M.seed] 35) = W4 at *
        obtain ⟨⟨eb, hE⟩, -⟩ := hL2.out.below hb4.out
        have hlk4 := Lks.of_row ht1.out (by rw [List.length_map]; exact hn1.out)
        have k2 := Lib.hid (vmCheck_any (v := ⟨qa, ql, qc, la1, L1, lc1⟩) (W := ⟨M.progs.getD k [], k, l1.map fun j => M.links.getD j default, M.seed⟩) ⟨hi1.out, hlk4, hsd.out, by simp [Lit.wf, IntKind.min, IntKind.max, IntKind.signed, IntKind.bits]; omega⟩ hE)
        rw [hmay.out] at k2
        simp only [Wv.val] at k2
        clear hlk4
        have a0 : W4.cell? ⟨X1, 0, none⟩ = some (.slice qa ql qc) := cell_of_block hwb1.out rfl
        have a1 : W4.cell? ⟨X1, 1, none⟩ = some (.int .i64 k) := cell_of_block hwb1.out rfl
        have a2 : W4.cell? ⟨X1, 2, none⟩ = some (.slice la1 L1 lc1) := cell_of_block hwb1.out rfl
        have a3 : W4.cell? ⟨X1, 3, none⟩ = some (.int .u64 M.seed) := cell_of_block hwb1.out rfl
        go_upto_region 11 with (go_at_call 16; refine k2.out.mono ?_; rintro e w5 ⟨rfl, hr5⟩; have a1' : w5.cell? ⟨X1, 1, none⟩ = some (.int .i64 k) := cell_of_block (hwb1.out.below (hr5.below)) rfl)
        have hb5 : Hid (Below w2.heap.size w2 w5) := hb4.out.trans (hr5.below.mono hb4.out.size)
        have hwb5 := Lib.hid (hwb1.out.below hr5.below)
        have ht5 := Lib.hid (ht1.out.kept (S := fun _ => False) (.of_below hr5.below) (fun _ _ e => e))
        clear a0 a1 a2 a3 a1' k2 hE hr5 hi1 ht1 hwb1 hb4
        have hbx5 := Lib.hid (hbx2.out.below hb5.out)
        have d0 := hbx5.out.c0
        have d1 := hbx5.out.c1
        have d2 := hbx5.out.c2
        have d3 := hbx5.out.c3
        have d4 := hbx5.out.c4
        have d5 := hbx5.out.c5
        have k3 := Lib.hid (k3'.out w5 hb5.out)
        go_upto_region 13 with (go_at_call 17; refine k3.out.mono ?_; rintro e w6 ⟨u3, rfl, hr6⟩; obtain ⟨a3, c3, rfl, -⟩ := hr6.out.2.1.shape; rw [hn1.out])
        have hb6 : Hid (Below w2.heap.size w2 w6) := hb5.out.trans (hr6.out.1.mono hb5.out.size)
        have hwb6 := Lib.hid (hwb5.out.below hr6.out.1)
        have ht6 := Lib.hid (ht5.out.kept (S := fun _ => False) (.of_below hr6.out.1) (fun _ _ e => e))
        have hq6 := Lib.hid hr6.out.2.1
        have hbx6 := Lib.hid (hbx2.out.below hb6.out)
        clear d0 d1 d2 d3 d4 d5 k3 hr6 hb5 hwb5 ht5 hbx5
        have d0 := hbx6.out.c0
        have d1 := hbx6.out.c1
        have d2 := hbx6.out.c2
        have d3 := hbx6.out.c3
        have d4 := hbx6.out.c4
        have d5 := hbx6.out.c5
        have k4 := Lib.hid (k4'.out w6 hb6.out)
        go_upto_region 14 with (go_at_call 18; refine k4.out.mono ?_; rintro e w7 ⟨u4, rfl, hr7⟩; obtain ⟨a4, c4, rfl, -⟩ := hr7.out.2.1.shape; rw [hn2.out])
        have hb7 : Hid (Below w2.heap.size w2 w7) := hb6.out.trans (hr7.out.1.mono hb6.out.size)
        have hwb7 := Lib.hid (hwb6.out.below hr7.out.1)
        have ht7 := Lib.hid (ht6.out.kept (S := fun _ => False) (.of_below hr7.out.1) (fun _ _ e => e))
        have hq7 := Lib.hid (hq6.out.kept (S := fun _ => False) (.of_below hr7.out.1) (fun _ _ e => e))
        clear d0 d1 d2 d3 d4 d5 k4 hr7 hb6 hwb6 ht6 hbx6 hq6 k3' k4'
        rw [hn1.out] at hq7 hw1 hwl
        have ht7' : Hid (RowAt w7 43 4 (.slice la1 L1 lc1) L1 (flL (l1.map fun j => M.links.getD j default))) := ht7
        have hq7' : Hid (RowAt w7 3 1 (.slice a3 L1 c3) L1 (nats l1)) := hq7
        clear ht7 hq7
        have hbx7 := Lib.hid (hbx2.out.below hb7.out)
        go_wp2
        go_loopw [9] (fun s9 wr => ∃ i : Nat, i ≤ L1 ∧ s9 = .int .i64 i ∧ Hid (Below w7.heap.size w7 wr)) (fun s9 _ => L1 - (intOf s9).toNat)
        case atStart => exact ⟨0, Nat.zero_le _, rfl, Below.refl _ _⟩
        case round =>
          obtain ⟨i, hil, rfl, hbr⟩ := hrel
          by_cases hi : i < L1
          · have hiz : (i : Int) < (L1 : Int) := by omega
            have hi' := Lib.hid hi
            have hmx := hwl.out
            have hwi : IntKind.i64.wrap ((i : Int) + 1) = (i : Int) + 1 := IntWalk.i64_in _ (by omega)
            obtain ⟨g, o, cp, hu, hR⟩ := hq7'.out.form (by omega)
            simp only [Value.slice.injEq, true_and] at hu
            obtain ⟨rfl, rfl⟩ := hu
            obtain ⟨g2, o2, cp2, hu2, hR2⟩ := ht7'.out.form (by omega)
            simp only [Value.slice.injEq, true_and] at hu2
            obtain ⟨rfl, rfl⟩ := hu2
            have hbxr := Lib.hid (hbx7.out.below hbr.out)
            have hLr := Lib.hid (hL2.out.below (hb7.out.trans (hbr.out.mono hb7.out.size)))
            have hm := (hw1.out i hi).1
            have hsr := (hw1.out i hi).2
            have hjl : l1.getD i 0 < M.links.length := by rw [hll.out]; exact hm
            have hone := hok.out.way hjl
            rw [hsr] at hone
            obtain ⟨b, off, hla, hlk1⟩ := hbxr.out.2.2.1.get hm
            have hge : (l1.map fun j => M.links.getD j default).getD i default = M.links.getD (l1.getD i 0) default := by
              have : i < l1.length := by rw [hn1.out]; exact hi
              simp [List.getD_eq_getElem?_getD, this]
            have hway : Hid (∀ w', Below wr.heap.size wr w' → Calls Tryd.prog 19 #[v.val M, .int .i64 k, .int .i64 (M.links.getD (l1.getD i 0) default).dst] w' fun e w'' => e = .returned (.int .i64 (l1.getD i 0 : Nat)) ∧ Hid (Below w'.heap.size w' w'')) := Lib.hid (fun w' h => by
              have := mdWay_any (hbxr.out.below h).2 (k : Int) (M.links.getD (l1.getD i 0) default).dst
              rw [hone] at this
              exact this)
            have hlk : Hid (∀ w', Below wr.heap.size wr w' → (w'.cell? ⟨B, 1, none⟩ = some (.slice (some ⟨b, off, none⟩) v.ll v.lc) ∧ w'.cell? ⟨g, o + i, none⟩ = some (.int .i64 (l1.getD i 0 : Nat)) ∧ w'.cell? ⟨X1, 2, none⟩ = some (.slice (some ⟨g2, o2, none⟩) L1 lc1)) ∧ LkC4 w' b (off + (l1.getD i 0) * 4) (M.links.getD (l1.getD i 0) default) ∧ LkC4 w' g2 (o2 + i * 4) (M.links.getD (l1.getD i 0) default) ∧ (w'.cell? ⟨B, 0, none⟩ = some (.slice v.pa v.pl v.pc) ∧ w'.cell? ⟨B, 1, none⟩ = some (.slice v.la v.ll v.lc) ∧ w'.cell? ⟨B, 2, none⟩ = some (.slice v.sa v.sl v.sc) ∧ w'.cell? ⟨B, 3, none⟩ = some (.int .u64 M.seed) ∧ w'.cell? ⟨B, 4, none⟩ = some (.int .i64 M.last) ∧ w'.cell? ⟨B, 5, none⟩ = some (.int .i64 M.bud)) ∧ True) := Lib.hid (fun w' h => by
              have hB := hbxr.out.below h
              have hl4 := hlk1.below h
              have hb9 := hbr.out.trans (h.mono hbr.out.size)
              refine ⟨⟨by rw [← hla]; exact hB.c1, ?_, cell_of_block ((hwb7.out.below hbr.out).below h) rfl⟩, ⟨⟨hl4.2.1, hl4.2.2.1⟩, hl4.2.2.2.1, hl4.2.2.2.2⟩, ?_, ⟨hB.c0, hB.c1, hB.c2, hB.c3, hB.c4, hB.c5⟩, trivial⟩
              · exact (hR.kept (S := fun _ => False) (.of_below hb9) (fun e => e)).cell (nats_get (by rw [hn1.out]; exact hi'.out))
              · rw [← hge]
                exact lkC4_of (hR2.kept (S := fun _ => False) (.of_below hb9) (fun e => e)) (by rw [List.length_map, hn1.out]; exact hi'.out))
            simp only [Mv.val, Mv.cells] at hway
            rw [hla] at hlk hway
            have hbd : Hid (Below w7.heap.size w7 wr.drew) := hbr.out.drew
            have hbe : Hid (∀ w1, Below wr.drew.heap.size wr.drew w1 → Below w7.heap.size w7 w1) := Lib.hid (fun w1 h => hbd.out.trans (h.mono hbd.out.size))
            generalize l1.getD i 0 = y at *
            generalize M.links.getD y default = l at *
            obtain ⟨lsrc, ldst, llook, lloose⟩ := l
            unfold LkC4 at hlk
            dsimp only at hlk hway hsr
            subst hsr
            have hyz : (y : Int) < (v.ll : Int) := by omega
            clear hR hR2 hlk1 hge hone hla hi hbxr hLr hjl
            go_upto_region 17 with fail
            refine wp_region_held_drew (S := fun w' => Below wr.heap.size wr w') (by kernel_rfl) ((Below.refl _ wr).drew) (fun hHeld => ?_)
            clear hHeld
            have hHd : Below wr.heap.size wr wr.drew := (Below.refl _ wr).drew
            refine wpAnyH_take (i := 0) (oi := { dst := some 59, op := Op.fieldAddr 27 (Operand.tmp 1) 1, type := 0, pos := "law.go:88", after := #[], guard := none }) (v := ?vv0_1) rfl (by kernel_rfl) (by kernel_rfl) (by kernel_rfl) (fun _ _ _ h => h) (Or.inl ⟨by rfl, ?hy0_1⟩) hHd ?rest0_1
            case hy0_1 =>
              intro w hSw
              go_simp
              try with_reducible rfl
            try simp only [Act.put, List.setIfInBounds_toArray, List.set_cons_zero, List.set_cons_succ]
            refine wpAnyH_take (i := 1) (oi := { dst := some 60, op := Op.load 23 (Operand.tmp 59), type := 23, pos := "law.go:88", after := #[{ on := 0, ground := Ground.data }], guard := none }) (v := ?vv1_2) rfl (by kernel_rfl) (by kernel_rfl) (by kernel_rfl) (fun _ _ _ h => h) (Or.inl ⟨by rfl, ?hy1_2⟩) hHd ?rest1_2
            case hy1_2 =>
              intro w hSw
              have hQ := hlk.out w hSw
              have hQ0 := hQ.1.1
              have hQ1 := hQ.1.2.1
              have hQ2 := hQ.1.2.2
              go_simp
              try with_reducible rfl
            try simp only [Act.put, List.setIfInBounds_toArray, List.set_cons_zero, List.set_cons_succ]
            refine wpAnyH_take (i := 2) (oi := { dst := some 61, op := Op.move (Operand.tmp 8), type := 52, pos := "law.go:88", after := #[], guard := none }) (v := ?vv2_3) rfl (by kernel_rfl) (by kernel_rfl) (by kernel_rfl) (fun _ _ _ h => h) (Or.inl ⟨by rfl, ?hy2_3⟩) hHd ?rest2_3
            case hy2_3 =>
              intro w hSw
              go_simp
              try with_reducible rfl
            try simp only [Act.put, List.setIfInBounds_toArray, List.set_cons_zero, List.set_cons_succ]
            refine wpAnyH_take (i := 3) (oi := { dst := some 62, op := Op.move (Operand.tmp 9), type := 3, pos := "law.go:88", after := #[], guard := none }) (v := ?vv3_4) rfl (by kernel_rfl) (by kernel_rfl) (by kernel_rfl) (fun _ _ _ h => h) (Or.inl ⟨by rfl, ?hy3_4⟩) hHd ?rest3_4
            case hy3_4 =>
              intro w hSw
              go_simp
              try with_reducible rfl
            try simp only [Act.put, List.setIfInBounds_toArray, List.set_cons_zero, List.set_cons_succ]
            refine wpAnyH_take (i := 4) (oi := { dst := some 63, op := Op.indexAddr 52 (Operand.tmp 61) (Operand.tmp 62), type := 0, pos := "law.go:88", after := #[{ on := 2, ground := Ground.data }, { on := 3, ground := Ground.data }], guard := none }) (v := ?vv4_5) rfl (by kernel_rfl) (by kernel_rfl) (by kernel_rfl) (fun _ _ _ h => h) (Or.inl ⟨by rfl, ?hy4_5⟩) hHd ?rest4_5
            case hy4_5 =>
              intro w hSw
              go_simp
              try with_reducible rfl
            try simp only [Act.put, List.setIfInBounds_toArray, List.set_cons_zero, List.set_cons_succ]
            refine wpAnyH_take (i := 5) (oi := { dst := some 64, op := Op.load 3 (Operand.tmp 63), type := 3, pos := "law.go:88", after := #[{ on := 4, ground := Ground.data }], guard := none }) (v := ?vv5_6) rfl (by kernel_rfl) (by kernel_rfl) (by kernel_rfl) (fun _ _ _ h => h) (Or.inl ⟨by rfl, ?hy5_6⟩) hHd ?rest5_6
            case hy5_6 =>
              intro w hSw
              have hQ := hlk.out w hSw
              have hQ0 := hQ.1.1
              have hQ1 := hQ.1.2.1
              have hQ2 := hQ.1.2.2
              go_simp
              try with_reducible rfl
            try simp only [Act.put, List.setIfInBounds_toArray, List.set_cons_zero, List.set_cons_succ]
            refine wpAnyH_take (i := 6) (oi := { dst := some 65, op := Op.indexAddr 23 (Operand.tmp 60) (Operand.tmp 64), type := 0, pos := "law.go:88", after := #[{ on := 1, ground := Ground.data }, { on := 5, ground := Ground.data }], guard := none }) (v := ?vv6_7) rfl (by kernel_rfl) (by kernel_rfl) (by kernel_rfl) (fun _ _ _ h => h) (Or.inl ⟨by rfl, ?hy6_7⟩) hHd ?rest6_7
            case hy6_7 =>
              intro w hSw
              go_simp
              try with_reducible rfl
            try simp only [Act.put, List.setIfInBounds_toArray, List.set_cons_zero, List.set_cons_succ]
            refine wpAnyH_take (i := 7) (oi := { dst := some 66, op := Op.fieldAddr 43 (Operand.tmp 65) 0, type := 0, pos := "law.go:88", after := #[{ on := 6, ground := Ground.data }], guard := none }) (v := ?vv7_8) rfl (by kernel_rfl) (by kernel_rfl) (by kernel_rfl) (fun _ _ _ h => h) (Or.inl ⟨by rfl, ?hy7_8⟩) hHd ?rest7_8
            case hy7_8 =>
              intro w hSw
              go_simp
              try with_reducible rfl
            try simp only [Act.put, List.setIfInBounds_toArray, List.set_cons_zero, List.set_cons_succ]
            refine wpAnyH_take (i := 8) (oi := { dst := some 67, op := Op.load 3 (Operand.tmp 66), type := 3, pos := "law.go:88", after := #[{ on := 7, ground := Ground.data }], guard := none }) (v := ?vv8_9) rfl (by kernel_rfl) (by kernel_rfl) (by kernel_rfl) (fun _ _ _ h => h) (Or.inl ⟨by rfl, ?hy8_9⟩) hHd ?rest8_9
            case hy8_9 =>
              intro w hSw
              have hQ := hlk.out w hSw
              have hQ0 := hQ.1.1
              have hQ1 := hQ.1.2.1
              have hQ2 := hQ.1.2.2
              have hA := hQ.2.1
              have a0 := hA.1.1
              have a1 := hA.1.2
              have a2 := hA.2.1
              have a3 := hA.2.2
              go_simp
              try with_reducible rfl
            try simp only [Act.put, List.setIfInBounds_toArray, List.set_cons_zero, List.set_cons_succ]
            refine wpAnyH_take (i := 9) (oi := { dst := some 68, op := Op.move (Operand.tmp 5), type := 3, pos := "law.go:88", after := #[], guard := none }) (v := ?vv9_10) rfl (by kernel_rfl) (by kernel_rfl) (by kernel_rfl) (fun _ _ _ h => h) (Or.inl ⟨by rfl, ?hy9_10⟩) hHd ?rest9_10
            case hy9_10 =>
              intro w hSw
              go_simp
              try with_reducible rfl
            try simp only [Act.put, List.setIfInBounds_toArray, List.set_cons_zero, List.set_cons_succ]
            refine wpAnyH_take (i := 10) (oi := { dst := some 69, op := Op.binOp BinOp.neq 3 (Operand.tmp 67) (Operand.tmp 68) 3, type := 4, pos := "law.go:88", after := #[{ on := 8, ground := Ground.data }, { on := 9, ground := Ground.data }], guard := none }) (v := .bool false) rfl (by kernel_rfl) (by kernel_rfl) (by kernel_rfl) (fun _ _ _ h => h) (Or.inl ⟨by rfl, fun w hSw => by first | (go_simp; done) | (go_simp; simp [*]; done) | (go_simp; omega)⟩) hHd ?_
            try simp only [Act.put, List.setIfInBounds_toArray, List.set_cons_zero, List.set_cons_succ]
            refine wpAnyH_take (i := 11) (oi := { dst := some 70, op := Op.move (Operand.tmp 69), type := 4, pos := "law.go:88", after := #[{ on := 10, ground := Ground.data }], guard := none }) (v := ?vv11_11) rfl (by kernel_rfl) (by kernel_rfl) (by kernel_rfl) (fun _ _ _ h => h) (Or.inl ⟨by rfl, ?hy11_11⟩) hHd ?rest11_11
            case hy11_11 =>
              intro w hSw
              go_simp
              try with_reducible rfl
            try simp only [Act.put, List.setIfInBounds_toArray, List.set_cons_zero, List.set_cons_succ]
            refine wpAnyH_take (i := 12) (oi := { dst := some 71, op := Op.load 27 (Operand.tmp 1), type := 27, pos := "law.go:88", after := #[{ on := 11, ground := Ground.guard }], guard := some (11, false) }) (v := ?vv12_12) rfl (by kernel_rfl) (by kernel_rfl) (by kernel_rfl) (fun _ _ _ h => h) (Or.inl ⟨by rfl, ?hy12_12⟩) hHd ?rest12_12
            case hy12_12 =>
              intro w hSw
              have hQ := hlk.out w hSw
              have hQ0 := hQ.1.1
              have hM := hQ.2.2.2.1
              have m0 := hM.1
              have m1 := hM.2.1
              have m2 := hM.2.2.1
              have m3 := hM.2.2.2.1
              have m4 := hM.2.2.2.2.1
              have m5 := hM.2.2.2.2.2
              go_simp
              try with_reducible rfl
            try simp only [Act.put, List.setIfInBounds_toArray, List.set_cons_zero, List.set_cons_succ]
            refine wpAnyH_take (i := 13) (oi := { dst := some 72, op := Op.move (Operand.tmp 5), type := 3, pos := "law.go:88", after := #[{ on := 11, ground := Ground.guard }], guard := some (11, false) }) (v := ?vv13_13) rfl (by kernel_rfl) (by kernel_rfl) (by kernel_rfl) (fun _ _ _ h => h) (Or.inl ⟨by rfl, ?hy13_13⟩) hHd ?rest13_13
            case hy13_13 =>
              intro w hSw
              go_simp
              try with_reducible rfl
            try simp only [Act.put, List.setIfInBounds_toArray, List.set_cons_zero, List.set_cons_succ]
            refine wpAnyH_take (i := 14) (oi := { dst := some 73, op := Op.fieldAddr 27 (Operand.tmp 1) 1, type := 0, pos := "law.go:88", after := #[{ on := 11, ground := Ground.guard }], guard := some (11, false) }) (v := ?vv14_14) rfl (by kernel_rfl) (by kernel_rfl) (by kernel_rfl) (fun _ _ _ h => h) (Or.inl ⟨by rfl, ?hy14_14⟩) hHd ?rest14_14
            case hy14_14 =>
              intro w hSw
              go_simp
              try with_reducible rfl
            try simp only [Act.put, List.setIfInBounds_toArray, List.set_cons_zero, List.set_cons_succ]
            refine wpAnyH_take (i := 15) (oi := { dst := some 74, op := Op.load 23 (Operand.tmp 73), type := 23, pos := "law.go:88", after := #[{ on := 14, ground := Ground.data }, { on := 11, ground := Ground.guard }], guard := some (11, false) }) (v := ?vv15_15) rfl (by kernel_rfl) (by kernel_rfl) (by kernel_rfl) (fun _ _ _ h => h) (Or.inl ⟨by rfl, ?hy15_15⟩) hHd ?rest15_15
            case hy15_15 =>
              intro w hSw
              have hQ := hlk.out w hSw
              have hQ0 := hQ.1.1
              have hQ1 := hQ.1.2.1
              have hQ2 := hQ.1.2.2
              go_simp
              try with_reducible rfl
            try simp only [Act.put, List.setIfInBounds_toArray, List.set_cons_zero, List.set_cons_succ]
            refine wpAnyH_take (i := 16) (oi := { dst := some 75, op := Op.move (Operand.tmp 8), type := 52, pos := "law.go:88", after := #[{ on := 11, ground := Ground.guard }], guard := some (11, false) }) (v := ?vv16_16) rfl (by kernel_rfl) (by kernel_rfl) (by kernel_rfl) (fun _ _ _ h => h) (Or.inl ⟨by rfl, ?hy16_16⟩) hHd ?rest16_16
            case hy16_16 =>
              intro w hSw
              go_simp
              try with_reducible rfl
            try simp only [Act.put, List.setIfInBounds_toArray, List.set_cons_zero, List.set_cons_succ]
            refine wpAnyH_take (i := 17) (oi := { dst := some 76, op := Op.move (Operand.tmp 9), type := 3, pos := "law.go:88", after := #[{ on := 11, ground := Ground.guard }], guard := some (11, false) }) (v := ?vv17_17) rfl (by kernel_rfl) (by kernel_rfl) (by kernel_rfl) (fun _ _ _ h => h) (Or.inl ⟨by rfl, ?hy17_17⟩) hHd ?rest17_17
            case hy17_17 =>
              intro w hSw
              go_simp
              try with_reducible rfl
            try simp only [Act.put, List.setIfInBounds_toArray, List.set_cons_zero, List.set_cons_succ]
            refine wpAnyH_take (i := 18) (oi := { dst := some 77, op := Op.indexAddr 52 (Operand.tmp 75) (Operand.tmp 76), type := 0, pos := "law.go:88", after := #[{ on := 16, ground := Ground.data }, { on := 17, ground := Ground.data }, { on := 11, ground := Ground.guard }], guard := some (11, false) }) (v := ?vv18_18) rfl (by kernel_rfl) (by kernel_rfl) (by kernel_rfl) (fun _ _ _ h => h) (Or.inl ⟨by rfl, ?hy18_18⟩) hHd ?rest18_18
            case hy18_18 =>
              intro w hSw
              go_simp
              try with_reducible rfl
            try simp only [Act.put, List.setIfInBounds_toArray, List.set_cons_zero, List.set_cons_succ]
            refine wpAnyH_take (i := 19) (oi := { dst := some 78, op := Op.load 3 (Operand.tmp 77), type := 3, pos := "law.go:88", after := #[{ on := 18, ground := Ground.data }, { on := 11, ground := Ground.guard }], guard := some (11, false) }) (v := ?vv19_19) rfl (by kernel_rfl) (by kernel_rfl) (by kernel_rfl) (fun _ _ _ h => h) (Or.inl ⟨by rfl, ?hy19_19⟩) hHd ?rest19_19
            case hy19_19 =>
              intro w hSw
              have hQ := hlk.out w hSw
              have hQ0 := hQ.1.1
              have hQ1 := hQ.1.2.1
              have hQ2 := hQ.1.2.2
              go_simp
              try with_reducible rfl
            try simp only [Act.put, List.setIfInBounds_toArray, List.set_cons_zero, List.set_cons_succ]
            refine wpAnyH_take (i := 20) (oi := { dst := some 79, op := Op.indexAddr 23 (Operand.tmp 74) (Operand.tmp 78), type := 0, pos := "law.go:88", after := #[{ on := 15, ground := Ground.data }, { on := 19, ground := Ground.data }, { on := 11, ground := Ground.guard }], guard := some (11, false) }) (v := ?vv20_20) rfl (by kernel_rfl) (by kernel_rfl) (by kernel_rfl) (fun _ _ _ h => h) (Or.inl ⟨by rfl, ?hy20_20⟩) hHd ?rest20_20
            case hy20_20 =>
              intro w hSw
              go_simp
              try with_reducible rfl
            try simp only [Act.put, List.setIfInBounds_toArray, List.set_cons_zero, List.set_cons_succ]
            refine wpAnyH_take (i := 21) (oi := { dst := some 80, op := Op.fieldAddr 43 (Operand.tmp 79) 1, type := 0, pos := "law.go:88", after := #[{ on := 20, ground := Ground.data }, { on := 11, ground := Ground.guard }], guard := some (11, false) }) (v := ?vv21_21) rfl (by kernel_rfl) (by kernel_rfl) (by kernel_rfl) (fun _ _ _ h => h) (Or.inl ⟨by rfl, ?hy21_21⟩) hHd ?rest21_21
            case hy21_21 =>
              intro w hSw
              go_simp
              try with_reducible rfl
            try simp only [Act.put, List.setIfInBounds_toArray, List.set_cons_zero, List.set_cons_succ]
            refine wpAnyH_take (i := 22) (oi := { dst := some 81, op := Op.load 3 (Operand.tmp 80), type := 3, pos := "law.go:88", after := #[{ on := 21, ground := Ground.data }, { on := 11, ground := Ground.guard }], guard := some (11, false) }) (v := ?vv22_22) rfl (by kernel_rfl) (by kernel_rfl) (by kernel_rfl) (fun _ _ _ h => h) (Or.inl ⟨by rfl, ?hy22_22⟩) hHd ?rest22_22
            case hy22_22 =>
              intro w hSw
              have hQ := hlk.out w hSw
              have hQ0 := hQ.1.1
              have hQ1 := hQ.1.2.1
              have hQ2 := hQ.1.2.2
              have hA := hQ.2.1
              have a0 := hA.1.1
              have a1 := hA.1.2
              have a2 := hA.2.1
              have a3 := hA.2.2
              go_simp
              try with_reducible rfl
            try simp only [Act.put, List.setIfInBounds_toArray, List.set_cons_zero, List.set_cons_succ]
            refine wpAnyH_take (i := 24) (oi := { dst := some 83, op := Op.move (Operand.tmp 8), type := 52, pos := "law.go:88", after := #[{ on := 11, ground := Ground.guard }], guard := some (11, false) }) (v := ?vv24_23) rfl (by kernel_rfl) (by kernel_rfl) (by kernel_rfl) (fun _ _ _ h => h) (Or.inl ⟨by rfl, ?hy24_23⟩) hHd ?rest24_23
            case hy24_23 =>
              intro w hSw
              go_simp
              try with_reducible rfl
            try simp only [Act.put, List.setIfInBounds_toArray, List.set_cons_zero, List.set_cons_succ]
            refine wpAnyH_take (i := 25) (oi := { dst := some 84, op := Op.move (Operand.tmp 9), type := 3, pos := "law.go:88", after := #[{ on := 11, ground := Ground.guard }], guard := some (11, false) }) (v := ?vv25_24) rfl (by kernel_rfl) (by kernel_rfl) (by kernel_rfl) (fun _ _ _ h => h) (Or.inl ⟨by rfl, ?hy25_24⟩) hHd ?rest25_24
            case hy25_24 =>
              intro w hSw
              go_simp
              try with_reducible rfl
            try simp only [Act.put, List.setIfInBounds_toArray, List.set_cons_zero, List.set_cons_succ]
            refine wpAnyH_take (i := 26) (oi := { dst := some 85, op := Op.indexAddr 52 (Operand.tmp 83) (Operand.tmp 84), type := 0, pos := "law.go:88", after := #[{ on := 24, ground := Ground.data }, { on := 25, ground := Ground.data }, { on := 11, ground := Ground.guard }], guard := some (11, false) }) (v := ?vv26_25) rfl (by kernel_rfl) (by kernel_rfl) (by kernel_rfl) (fun _ _ _ h => h) (Or.inl ⟨by rfl, ?hy26_25⟩) hHd ?rest26_25
            case hy26_25 =>
              intro w hSw
              go_simp
              try with_reducible rfl
            try simp only [Act.put, List.setIfInBounds_toArray, List.set_cons_zero, List.set_cons_succ]
            refine wpAnyH_take (i := 27) (oi := { dst := some 86, op := Op.load 3 (Operand.tmp 85), type := 3, pos := "law.go:88", after := #[{ on := 26, ground := Ground.data }, { on := 11, ground := Ground.guard }], guard := some (11, false) }) (v := ?vv27_26) rfl (by kernel_rfl) (by kernel_rfl) (by kernel_rfl) (fun _ _ _ h => h) (Or.inl ⟨by rfl, ?hy27_26⟩) hHd ?rest27_26
            case hy27_26 =>
              intro w hSw
              have hQ := hlk.out w hSw
              have hQ0 := hQ.1.1
              have hQ1 := hQ.1.2.1
              have hQ2 := hQ.1.2.2
              go_simp
              try with_reducible rfl
            try simp only [Act.put, List.setIfInBounds_toArray, List.set_cons_zero, List.set_cons_succ]
            refine wpAnyH_ready (rs := [23]) (by kernel_rfl) (by simp) ?_
            refine AllReadyH.cons (o := { dst := some 82, op := Op.call { callee := Callee.value (Operand.func 19), args := #[Operand.tmp 71, Operand.tmp 72, Operand.tmp 81], argTypes := #[27, 3, 3] }, type := 3, pos := "law.go:88", after := #[{ on := 12, ground := Ground.data }, { on := 13, ground := Ground.data }, { on := 22, ground := Ground.data }, { on := 11, ground := Ground.chain }, { on := 11, ground := Ground.guard }], guard := some (11, false) }) rfl (fun K hK => ?_) AllReadyH.nil
            go_simp
            refine (hway.out _ hHd).mono ?_
            rintro x w1 ⟨rfl, hb1⟩
            have hH1 := hHd.trans (hb1.out.mono hHd.size)
            refine hK.out _ _ hH1 (fun hHeld => ?_)
            clear hHeld hK K
            try simp only [Act.put, List.setIfInBounds_toArray, List.set_cons_zero, List.set_cons_succ]
            refine wpAnyH_take (i := 28) (oi := { dst := some 87, op := Op.binOp BinOp.neq 3 (Operand.tmp 82) (Operand.tmp 86) 3, type := 4, pos := "law.go:88", after := #[{ on := 23, ground := Ground.data }, { on := 27, ground := Ground.data }, { on := 11, ground := Ground.guard }], guard := some (11, false) }) (v := .bool false) rfl (by kernel_rfl) (by kernel_rfl) (by kernel_rfl) (fun _ _ _ h => h) (Or.inl ⟨by rfl, fun w hSw => by first | (go_simp; done) | (go_simp; simp [*]; done) | (go_simp; omega)⟩) hH1 ?_
            try simp only [Act.put, List.setIfInBounds_toArray, List.set_cons_zero, List.set_cons_succ]
            refine wpAnyH_take (i := 29) (oi := { dst := some 88, op := Op.pick (Operand.tmp 70) (Operand.const (Value.bool true)) (Operand.tmp 87), type := 4, pos := "law.go:88", after := #[{ on := 11, ground := Ground.data }, { on := 28, ground := Ground.data }], guard := none }) (v := ?vv29_27) rfl (by kernel_rfl) (by kernel_rfl) (by kernel_rfl) (fun _ _ _ h => h) (Or.inl ⟨by rfl, ?hy29_27⟩) hH1 ?rest29_27
            case hy29_27 =>
              intro w hSw
              go_simp
              try with_reducible rfl
            try simp only [Act.put, List.setIfInBounds_toArray, List.set_cons_zero, List.set_cons_succ]
            refine wpAnyH_take (i := 30) (oi := { dst := some 89, op := Op.move (Operand.tmp 88), type := 4, pos := "law.go:88", after := #[{ on := 29, ground := Ground.data }, { on := 23, ground := Ground.chain }], guard := none }) (v := ?vv30_28) rfl (by kernel_rfl) (by kernel_rfl) (by kernel_rfl) (fun _ _ _ h => h) (Or.inl ⟨by rfl, ?hy30_28⟩) hH1 ?rest30_28
            case hy30_28 =>
              intro w hSw
              go_simp
              try with_reducible rfl
            try simp only [Act.put, List.setIfInBounds_toArray, List.set_cons_zero, List.set_cons_succ]
            refine wpAnyH_take (i := 31) (oi := { dst := some 90, op := Op.fieldAddr 35 (Operand.tmp 6) 2, type := 0, pos := "law.go:88", after := #[{ on := 30, ground := Ground.guard }], guard := some (30, false) }) (v := ?vv31_29) rfl (by kernel_rfl) (by kernel_rfl) (by kernel_rfl) (fun _ _ _ h => h) (Or.inl ⟨by rfl, ?hy31_29⟩) hH1 ?rest31_29
            case hy31_29 =>
              intro w hSw
              go_simp
              try with_reducible rfl
            try simp only [Act.put, List.setIfInBounds_toArray, List.set_cons_zero, List.set_cons_succ]
            refine wpAnyH_take (i := 32) (oi := { dst := some 91, op := Op.load 23 (Operand.tmp 90), type := 23, pos := "law.go:88", after := #[{ on := 31, ground := Ground.data }, { on := 30, ground := Ground.guard }], guard := some (30, false) }) (v := ?vv32_30) rfl (by kernel_rfl) (by kernel_rfl) (by kernel_rfl) (fun _ _ _ h => h) (Or.inl ⟨by rfl, ?hy32_30⟩) hH1 ?rest32_30
            case hy32_30 =>
              intro w hSw
              have hQ := hlk.out w hSw
              have hQ0 := hQ.1.1
              have hQ1 := hQ.1.2.1
              have hQ2 := hQ.1.2.2
              go_simp
              try with_reducible rfl
            try simp only [Act.put, List.setIfInBounds_toArray, List.set_cons_zero, List.set_cons_succ]
            refine wpAnyH_take (i := 33) (oi := { dst := some 92, op := Op.move (Operand.tmp 9), type := 3, pos := "law.go:88", after := #[{ on := 30, ground := Ground.guard }], guard := some (30, false) }) (v := ?vv33_31) rfl (by kernel_rfl) (by kernel_rfl) (by kernel_rfl) (fun _ _ _ h => h) (Or.inl ⟨by rfl, ?hy33_31⟩) hH1 ?rest33_31
            case hy33_31 =>
              intro w hSw
              go_simp
              try with_reducible rfl
            try simp only [Act.put, List.setIfInBounds_toArray, List.set_cons_zero, List.set_cons_succ]
            refine wpAnyH_take (i := 34) (oi := { dst := some 93, op := Op.indexAddr 23 (Operand.tmp 91) (Operand.tmp 92), type := 0, pos := "law.go:88", after := #[{ on := 32, ground := Ground.data }, { on := 33, ground := Ground.data }, { on := 30, ground := Ground.guard }], guard := some (30, false) }) (v := ?vv34_32) rfl (by kernel_rfl) (by kernel_rfl) (by kernel_rfl) (fun _ _ _ h => h) (Or.inl ⟨by rfl, ?hy34_32⟩) hH1 ?rest34_32
            case hy34_32 =>
              intro w hSw
              go_simp
              try with_reducible rfl
            try simp only [Act.put, List.setIfInBounds_toArray, List.set_cons_zero, List.set_cons_succ]
            refine wpAnyH_take (i := 35) (oi := { dst := some 94, op := Op.load 43 (Operand.tmp 93), type := 43, pos := "law.go:88", after := #[{ on := 34, ground := Ground.data }, { on := 30, ground := Ground.guard }], guard := some (30, false) }) (v := ?vv35_33) rfl (by kernel_rfl) (by kernel_rfl) (by kernel_rfl) (fun _ _ _ h => h) (Or.inl ⟨by rfl, ?hy35_33⟩) hH1 ?rest35_33
            case hy35_33 =>
              intro w hSw
              have hQ := hlk.out w hSw
              have hQ0 := hQ.1.1
              have hQ1 := hQ.1.2.1
              have hQ2 := hQ.1.2.2
              have hB := hQ.2.2.1
              have b0 := hB.1.1
              have b1 := hB.1.2
              have b2 := hB.2.1
              have b3 := hB.2.2
              go_simp
              try with_reducible rfl
            try simp only [Act.put, List.setIfInBounds_toArray, List.set_cons_zero, List.set_cons_succ]
            refine wpAnyH_take (i := 36) (oi := { dst := some 95, op := Op.fieldAddr 27 (Operand.tmp 1) 1, type := 0, pos := "law.go:88", after := #[{ on := 30, ground := Ground.guard }], guard := some (30, false) }) (v := ?vv36_34) rfl (by kernel_rfl) (by kernel_rfl) (by kernel_rfl) (fun _ _ _ h => h) (Or.inl ⟨by rfl, ?hy36_34⟩) hH1 ?rest36_34
            case hy36_34 =>
              intro w hSw
              go_simp
              try with_reducible rfl
            try simp only [Act.put, List.setIfInBounds_toArray, List.set_cons_zero, List.set_cons_succ]
            refine wpAnyH_take (i := 37) (oi := { dst := some 96, op := Op.load 23 (Operand.tmp 95), type := 23, pos := "law.go:88", after := #[{ on := 36, ground := Ground.data }, { on := 30, ground := Ground.guard }], guard := some (30, false) }) (v := ?vv37_35) rfl (by kernel_rfl) (by kernel_rfl) (by kernel_rfl) (fun _ _ _ h => h) (Or.inl ⟨by rfl, ?hy37_35⟩) hH1 ?rest37_35
            case hy37_35 =>
              intro w hSw
              have hQ := hlk.out w hSw
              have hQ0 := hQ.1.1
              have hQ1 := hQ.1.2.1
              have hQ2 := hQ.1.2.2
              go_simp
              try with_reducible rfl
            try simp only [Act.put, List.setIfInBounds_toArray, List.set_cons_zero, List.set_cons_succ]
            refine wpAnyH_take (i := 38) (oi := { dst := some 97, op := Op.move (Operand.tmp 8), type := 52, pos := "law.go:88", after := #[{ on := 30, ground := Ground.guard }], guard := some (30, false) }) (v := ?vv38_36) rfl (by kernel_rfl) (by kernel_rfl) (by kernel_rfl) (fun _ _ _ h => h) (Or.inl ⟨by rfl, ?hy38_36⟩) hH1 ?rest38_36
            case hy38_36 =>
              intro w hSw
              go_simp
              try with_reducible rfl
            try simp only [Act.put, List.setIfInBounds_toArray, List.set_cons_zero, List.set_cons_succ]
            refine wpAnyH_take (i := 39) (oi := { dst := some 98, op := Op.move (Operand.tmp 9), type := 3, pos := "law.go:88", after := #[{ on := 30, ground := Ground.guard }], guard := some (30, false) }) (v := ?vv39_37) rfl (by kernel_rfl) (by kernel_rfl) (by kernel_rfl) (fun _ _ _ h => h) (Or.inl ⟨by rfl, ?hy39_37⟩) hH1 ?rest39_37
            case hy39_37 =>
              intro w hSw
              go_simp
              try with_reducible rfl
            try simp only [Act.put, List.setIfInBounds_toArray, List.set_cons_zero, List.set_cons_succ]
            refine wpAnyH_take (i := 40) (oi := { dst := some 99, op := Op.indexAddr 52 (Operand.tmp 97) (Operand.tmp 98), type := 0, pos := "law.go:88", after := #[{ on := 38, ground := Ground.data }, { on := 39, ground := Ground.data }, { on := 30, ground := Ground.guard }], guard := some (30, false) }) (v := ?vv40_38) rfl (by kernel_rfl) (by kernel_rfl) (by kernel_rfl) (fun _ _ _ h => h) (Or.inl ⟨by rfl, ?hy40_38⟩) hH1 ?rest40_38
            case hy40_38 =>
              intro w hSw
              go_simp
              try with_reducible rfl
            try simp only [Act.put, List.setIfInBounds_toArray, List.set_cons_zero, List.set_cons_succ]
            refine wpAnyH_take (i := 41) (oi := { dst := some 100, op := Op.load 3 (Operand.tmp 99), type := 3, pos := "law.go:88", after := #[{ on := 40, ground := Ground.data }, { on := 30, ground := Ground.guard }], guard := some (30, false) }) (v := ?vv41_39) rfl (by kernel_rfl) (by kernel_rfl) (by kernel_rfl) (fun _ _ _ h => h) (Or.inl ⟨by rfl, ?hy41_39⟩) hH1 ?rest41_39
            case hy41_39 =>
              intro w hSw
              have hQ := hlk.out w hSw
              have hQ0 := hQ.1.1
              have hQ1 := hQ.1.2.1
              have hQ2 := hQ.1.2.2
              go_simp
              try with_reducible rfl
            try simp only [Act.put, List.setIfInBounds_toArray, List.set_cons_zero, List.set_cons_succ]
            refine wpAnyH_take (i := 42) (oi := { dst := some 101, op := Op.indexAddr 23 (Operand.tmp 96) (Operand.tmp 100), type := 0, pos := "law.go:88", after := #[{ on := 37, ground := Ground.data }, { on := 41, ground := Ground.data }, { on := 30, ground := Ground.guard }], guard := some (30, false) }) (v := ?vv42_40) rfl (by kernel_rfl) (by kernel_rfl) (by kernel_rfl) (fun _ _ _ h => h) (Or.inl ⟨by rfl, ?hy42_40⟩) hH1 ?rest42_40
            case hy42_40 =>
              intro w hSw
              go_simp
              try with_reducible rfl
            try simp only [Act.put, List.setIfInBounds_toArray, List.set_cons_zero, List.set_cons_succ]
            refine wpAnyH_take (i := 43) (oi := { dst := some 102, op := Op.load 43 (Operand.tmp 101), type := 43, pos := "law.go:88", after := #[{ on := 42, ground := Ground.data }, { on := 30, ground := Ground.guard }], guard := some (30, false) }) (v := ?vv43_41) rfl (by kernel_rfl) (by kernel_rfl) (by kernel_rfl) (fun _ _ _ h => h) (Or.inl ⟨by rfl, ?hy43_41⟩) hH1 ?rest43_41
            case hy43_41 =>
              intro w hSw
              have hQ := hlk.out w hSw
              have hQ0 := hQ.1.1
              have hQ1 := hQ.1.2.1
              have hQ2 := hQ.1.2.2
              have hA := hQ.2.1
              have a0 := hA.1.1
              have a1 := hA.1.2
              have a2 := hA.2.1
              have a3 := hA.2.2
              go_simp
              try with_reducible rfl
            try simp only [Act.put, List.setIfInBounds_toArray, List.set_cons_zero, List.set_cons_succ]
            refine wpAnyH_take (i := 44) (oi := { dst := some 103, op := Op.binOp BinOp.neq 43 (Operand.tmp 94) (Operand.tmp 102) 43, type := 4, pos := "law.go:88", after := #[{ on := 35, ground := Ground.data }, { on := 43, ground := Ground.data }, { on := 30, ground := Ground.guard }], guard := some (30, false) }) (v := .bool false) rfl (by kernel_rfl) (by kernel_rfl) (by kernel_rfl) (fun _ _ _ h => h) (Or.inl ⟨by rfl, fun w hSw => by first | (go_simp; done) | (go_simp; simp [*]; done) | (go_simp; omega)⟩) hH1 ?_
            try simp only [Act.put, List.setIfInBounds_toArray, List.set_cons_zero, List.set_cons_succ]
            refine wpAnyH_take (i := 45) (oi := { dst := some 104, op := Op.pick (Operand.tmp 89) (Operand.const (Value.bool true)) (Operand.tmp 103), type := 4, pos := "law.go:88", after := #[{ on := 30, ground := Ground.data }, { on := 44, ground := Ground.data }], guard := none }) (v := ?vv45_42) rfl (by kernel_rfl) (by kernel_rfl) (by kernel_rfl) (fun _ _ _ h => h) (Or.inl ⟨by rfl, ?hy45_42⟩) hH1 ?rest45_42
            case hy45_42 =>
              intro w hSw
              go_simp
              try with_reducible rfl
            try simp only [Act.put, List.setIfInBounds_toArray, List.set_cons_zero, List.set_cons_succ]
            refine wpAnyH_done (by kernel_rfl) ?_ _
            go_wp2_with fail
            have hbz : Hid (Below w7.heap.size w7 w1) := hbe.out _ hb1.out
            go_roundw
            case rel => (repeat apply Exists.intro); first | exact ⟨hi'.out, by go_num⟩ | exact ⟨hi'.out, by go_num, hbz⟩ | exact ⟨⟨hi'.out, by go_num, hbz⟩, rfl⟩
            case measure => have := hi'.out; simp [intOf]; omega
          · obtain rfl : i = L1 := by omega
            have hiz : ¬ (i : Int) < (i : Int) := by omega
            have hbz : Hid (Below w2.heap.size w2 wr) := hb7.out.trans (hbr.out.mono hb7.out.size)
            clear hi
            go_wp2
            go_roundw
            case rel => (repeat apply Exists.intro); first | exact ⟨hk'.out, by go_num, rfl, rfl, hbz⟩ | exact ⟨⟨hk'.out, by go_num, rfl, rfl, hbz⟩, rfl⟩ | exact ⟨hk'.out, by go_num, rfl, rfl⟩ | exact ⟨hk'.out, by go_num⟩
            case measure => have := hk'.out; simp [intOf]; omega
      · obtain rfl : k = v.pl := by omega
        have hkz : ¬ (v.pl : Int) < (v.pl : Int) := by omega
        have hbz : Hid (Below w.heap.size w wr) := hb3.out.trans (hbr.out.mono hb3.out.size)
        rw [hso.out, hsi.out]
        clear hk
        go_wp2
        go_ret
        exact ⟨rfl, hbz.out⟩
end Go.Proofs.YtofkfajcibdneaaDoor
