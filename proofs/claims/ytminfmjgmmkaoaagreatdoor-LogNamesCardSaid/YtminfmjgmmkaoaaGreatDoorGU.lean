/-
  The law of names where the message is done.
-/
import Derived.Test.YtminfmjgmmkaoaaGreatDoorGT
namespace Go.Proofs.YtminfmjgmmkaoaaGreatDoor
open Go.ChangeShapes Go.WideShapes Go.ChangeAt Go.Shelf Go.RowKit Go.Lib Go.Sort Go.Deep
set_option linter.unusedVariables false
set_option maxRecDepth 4000
set_option linter.unusedSimpArgs false

set_option maxHeartbeats 16000000 in
theorem names_go {w : World} {v : Wv} {W : Wd} {m : M} {eb : Addr} {ka : Option Addr} {kl kc : Nat} {bs : List Int} (hW : Wds w v W) (hE : ErrIs w eb) (hT : ErrT w) (hev : In64 m.v) (hc : checkW W = 0) (hr : refP m false = 0) (hK : Byts w ka kl kc bs) :
    Calls Tryz.prog 5 #[v.val W, m.val, .slice ka kl kc] w fun e w' => e = .returned (.bool true) ∧ Below w.heap.size w w' := by
  have hb0 := fun (o1 o2 : Obj) => Lib.hid (((Below.refl _ w).alloc (Nat.le_refl _) o1).alloc (by simp) o2)
  have hnew := fun (o1 o2 : Obj) => lgNew_ok (every := 4) (hW.below (hb0 o1 o2).out) (hE.below (hb0 o1 o2).out) hc (by omega)
  have hS0 := fun (o1 o2 : Obj) => Lib.hid (show ((w.alloc o1).alloc o2).heap[w.heap.size + 1]? = some o2 from by have := heap_alloc_new (w.alloc o1) o2; rwa [World.size_alloc] at this)
  obtain ⟨⟨st2, os, fl⟩, hrun⟩ : ∃ r, runW W Sta.zero m = r := ⟨_, rfl⟩
  have hlate := run_lateA (st := Sta.zero) rfl hrun
  have hos : os.length ≤ 8 := hlate.2
  have htry := Lib.hid (fun (w1 : World) (lb g : Nat) (v' : Wv) (h : Fresh w1 lb v' W 4 g) (hb : Below w.heap.size w w1) => try_ok h (hE.below hb) (hT.below hb) hev hc hr hrun)
  have hdo := Lib.hid (fun (w1 : World) (lb g : Nat) (v' : Wv) (h : Fresh w1 lb v' W 4 g) (hb : Below w.heap.size w w1) (ka : Option Addr) (kn kc : Nat) (kept : List M) (hK : Mgs w1 ka kn kc kept) (hKl : ∀ k, (Value.slice ka kn kc).ownBlock = some k → k < w1.heap.size) => do_ok h (hE.below hb) (hT.below hb) hev hc hr hrun (by omega) hK hKl)
  have hap := Lib.hid (mgs_apart W 0 m.k.t 100 os)
  have hSl := Lib.hid (mgs_length W 0 m.k.t 100 os os.length)
  have hK' := Lib.hid hK
  have hkl : kl ≤ 9223372036854775807 := by have := hK.2.1; have := hK.2.2.1; unfold maxLen at *; omega
  unfold TryA DoA at *
  have hent : Hid (∀ (a : Option Addr) (c : Nat), (entC m Sta.zero fl (.slice a os.length c)).toArray.size = 19 ∧ (entC m Sta.zero fl (.slice a os.length c)).toArray.all (·.oneCell') = true ∧ (entC m Sta.zero fl (.slice a os.length c)).toArray[18]? = some (.slice a os.length c)) := Lib.hid (fun a c => ⟨rfl, entC_one _ _ _ _ _ _, rfl⟩)
  obtain ⟨ENT, hENT⟩ : ∃ F : Option Addr → Nat → Array Value, F = fun a c => (entC m Sta.zero fl (.slice a os.length c)).toArray := ⟨_, rfl⟩
  have hENT' : ∀ a c, (entC m Sta.zero fl (.slice a os.length c)).toArray = ENT a c := fun a c => by rw [hENT]
  simp only [hENT'] at htry hdo hent
  generalize mgs W 0 m.k.t 100 os os.length = SS at *
  generalize os.length = n at *
  obtain ⟨⟨t, f, q⟩, to', vv, u, an⟩ := m
  clear hW hE hT hc hr hev hrun hlate hENT hENT' hK
  simp only [Wv.val, M.val, Sta.val, Sta.cells, Sta.zero, List.map_cons, List.map_nil, List.cons_append, List.nil_append] at *
  go_enter Tryz.func5, Tryz.ntmps5
  go_wp2_with fail
  refine (hnew _ _).mono ?_
  rintro e w1 ⟨lb, rfl, hq1⟩
  obtain ⟨hlb, hb1, v', g, hg, hF1⟩ := hq1.out
  have hB1 := Lib.hid ((hb0 (.cells #[.slice v.pa v.pl v.pc, .int .i64 W.self, .slice v.la v.ll v.lc, .int .u64 W.seed] 26) (.cells #[.int .i64 t, .int .i64 f, .int .i64 q, .int .i64 to', .int .i64 vv, .int .i64 u, .bool an] 42)).out.trans (hb1.mono (by simp; omega)))
  have hM1 := Lib.hid ((hb1.block (w.heap.size + 1) (by simp)).trans (hS0 (.cells #[.slice v.pa v.pl v.pc, .int .i64 W.self, .slice v.la v.ll v.lc, .int .u64 W.seed] 26) (.cells #[.int .i64 t, .int .i64 f, .int .i64 q, .int .i64 to', .int .i64 vv, .int .i64 u, .bool an] 42)).out)
  have hF1' := Lib.hid hF1
  have hlbg : w.heap.size + 2 ≤ lb ∧ w.heap.size + 2 ≤ g := by simp at hlb hg; omega
  obtain ⟨m0, m1, m2, m3, m4, m5, m6⟩ := row7 hM1.out
  have hk1 := htry.out w1 lb g v' hF1 hB1.out
  clear hnew hb0 hS0 hq1 hb1 hF1 htry hlb hg
  go_wp2_with fail
  refine hk1.mono ?_
  rintro e w2 ⟨sa, sc, rfl, hq2⟩
  have hB2 := Lib.hid (hB1.out.trans (hq2.out.2.1.mono hB1.out.size))
  have hM2 := Lib.hid ((hq2.out.2.1.block _ (Array.getElem?_eq_some_iff.1 hM1.out).1).trans hM1.out)
  have hF2 := Lib.hid (Fresh.below hF1'.out hq2.out.2.1)
  have hS2 := Lib.hid hq2.out.1
  have hA := heap_alloc_new w2 (.cells z19 44)
  have hC := Lib.hid ((Below.refl _ w2).alloc (Nat.le_refl _) (.cells z19 44))
  obtain ⟨hes, heo, he18⟩ := hent.out sa sc
  have heo' := Lib.hid heo
  have hEi : Hid ((Tryz.prog.info? 44).map (·.size) = some (ENT sa sc).size) := Lib.hid (by rw [hes]; exact infoEn)
  have hz19 : z19.size = (ENT sa sc).size := hes.symm
  clear hk1 hq2 m0 m1 m2 m3 m4 m5 m6 hM1 hB1 hF1' heo
  go_upto_region 5 with (refine wpList_store_row rfl 44 (.tmp 9) (.tmp 36) rfl w2.heap.size (ENT sa sc) rfl rfl 44 z19 hA hEi.out hz19 heo'.out ?_)
  have hC2 := Lib.hid (below_row hC.out (g := w2.heap.size) (Nat.le_refl _) (ENT sa sc))
  have hX3 := Lib.hid (setRow_heap (new := ENT sa sc) hA)
  simp only [z19] at hC2 hX3
  clear hA hC
  generalize (w2.alloc (Obj.cells _ 44)).setRow w2.heap.size (ENT sa sc) = w3 at *
  have hM3 := Lib.hid ((hC2.out.block _ (Array.getElem?_eq_some_iff.1 hM2.out).1).trans hM2.out)
  have hB3 := Lib.hid (hB2.out.trans (hC2.out.mono hB2.out.size))
  have hF3 := Lib.hid (Fresh.below hF2.out hC2.out)
  have hS3 := Lib.hid (hS2.out.below hC2.out)
  have hlbx : lb < w2.heap.size ∧ g < w2.heap.size := ⟨hF2.out.x.lt, hF2.out.rd.svt.lt g rfl⟩
  generalize hxb : w2.heap.size = xb at *
  have hx18 : Hid (∀ w', Below w3.heap.size w3 w' → w'.cell? ⟨xb, 18, none⟩ = some (.slice sa n sc)) := Lib.hid (fun w' hb => row_cell ((hb.block _ (Array.getElem?_eq_some_iff.1 hX3.out).1).trans hX3.out) 18 he18)
  have hcb : Hid (∀ j, chosenB bs j = (decide (j < bs.length) && (bs.getD j 0 % 2 == 1))) := Lib.hid (fun j => rfl)
  obtain ⟨i0, hi, hz0, hz1, hz2⟩ := info_parts infoMsg
  clear hC2 hF2 hS2 hB2 hM2 hes he18 hEi hz19 heo'
  go_upto_region 10 with fail
  go_loopw [11, 12, 13] (fun s o i wr => ∃ k : Nat, k ≤ n ∧ i = .int .i64 k ∧ o = .int .i64 (keptL SS bs k).length ∧ Below w3.heap.size w3 wr ∧ Aside (wr.ownsRow w3.heap.size 42 7 s (keptL SS bs k).length (flatM (keptL SS bs k)))) (fun _ _ i _ => n - (intOf i).toNat)
  case atStart => exact ⟨0, Nat.zero_le _, rfl, rfl, Below.refl _ _, World.ownsRow_nil _ _ _ _⟩
  case round =>
    obtain ⟨k, hk, rfl, rfl, hbk, hown⟩ := hrel
    have c18 := hx18.out wr hbk
    by_cases hlt : k < n
    · have hsu := keptL_succ SS bs k
      have hMk := hS3.out
      obtain ⟨sb, so, rfl, hms⟩ : ∃ sb so, sa = some ⟨sb, so, none⟩ ∧ ∀ j, j < n → MsgAt w3 sb (so + j * 7) (SS.getD j default) := by
        rcases hMk.2.2.2 with h0 | h1
        · omega
        · exact h1
      have hmk := (hms k hlt).below hbk
      have hcc := hcb.out k
      have hkk0 : (0 : Int) ≤ (k : Int) := by omega
      have hkk1 : (k : Int) < (n : Int) := by omega
      by_cases hkb : k < bs.length
      · have hkl2 : k < kl := by have := hK'.out.1; omega
        obtain ⟨bb, bo, rfl, hbl, hbx⟩ : ∃ bb bo, ka = some ⟨bb, bo, none⟩ ∧ bb < w.heap.size ∧ ∀ j, j < kl → w.cell? ⟨bb, bo + j, none⟩ = some (.int .u8 (bs.getD j 0)) := by
          rcases hK'.out.2.2.2.2 with h0 | ⟨bb, bo, h1, h2, h3⟩
          · omega
          · exact ⟨bb, bo, h1, h2, h3⟩
        have hbr := hK'.out.2.2.2.1 (bs.getD k 0) (by
          simp only [List.getD_eq_getElem?_getD, List.getElem?_eq_getElem hkb, Option.getD_some]
          exact List.getElem_mem hkb)
        have hbw : Below w.heap.size w wr := hB3.out.trans (hbk.mono hB3.out.size)
        have cbk := (hbw.cell (p := ⟨bb, bo + k, none⟩) hbl).trans (hbx k hkl2)
        have hkl3 : (k : Int) < (kl : Int) := by omega
        generalize bs.getD k 0 = x at *
        by_cases hodd : x % 2 = 1
        · have hch : chosenB bs k = true := by rw [hcc]; simp [hkb, hodd]
          rw [if_pos hch] at hsu
          have hm2 : x.tmod 2 = 1 := by rw [Int.tmod_eq_emod_of_nonneg hbr.1]; exact hodd
          obtain ⟨qa, qc, rfl⟩ := own_slice hown.out
          generalize SS.getD k default = y at *
          obtain ⟨⟨yt, yf, yq⟩, yto, yv, yu, yan⟩ := y
          obtain ⟨-, y0, y1, y2, y3, y4, y5, y6⟩ := hmk
          simp only at y0 y1 y2 y3 y4 y5 y6
          have hsu' := Lib.hid hsu
          have hown' := Lib.hid hown.out
          have hbk' := Lib.hid hbk
          clear hsu hown hch hcc hms hMk hbx hbw hbk
          have hlk := keptL_length_le SS bs k
          have hrow := hown'.out.lt
          have hB4 := Lib.hid ((hbk'.out.alloc hbk'.out.size (.cells (M.cells ⟨⟨yt, yf, yq⟩, yto, yv, (k : Int), yan⟩) 42)).alloc (by have := hbk'.out.size; simp; omega) (.cells (M.cells ⟨⟨yt, yf, yq⟩, yto, yv, (k : Int), yan⟩) 42))
          have hnw : Hid (∀ j u, (flatM [(⟨⟨yt, yf, yq⟩, yto, yv, (k : Int), yan⟩ : M)])[j]? = some u → ((wr.alloc (.cells (M.cells ⟨⟨yt, yf, yq⟩, yto, yv, (k : Int), yan⟩) 42)).alloc (.cells (M.cells ⟨⟨yt, yf, yq⟩, yto, yv, (k : Int), yan⟩) 42)).cell? ((⟨wr.heap.size + 1, 0, none⟩ : Addr).add j) = some u) := Lib.hid (World.news_of_block (cs := (M.cells ⟨⟨yt, yf, yq⟩, yto, yv, (k : Int), yan⟩)) (t := 42) (fr := (0, 0)) (by have := heap_alloc_new (wr.alloc (.cells (M.cells ⟨⟨yt, yf, yq⟩, yto, yv, (k : Int), yan⟩) 42)) (.cells (M.cells ⟨⟨yt, yf, yq⟩, yto, yv, (k : Int), yan⟩) 42); rwa [World.size_alloc] at this))
          have hszw := hbk'.out.size
          have a9 : IntKind.i64.wrap ((((keptL SS bs k).length : Nat) : Int) + 1) = (((keptL SS bs k).length : Nat) : Int) + 1 := IntWalk.i64_in _ (by omega)
          go_wp2_with (at_builtin; refine wpList_append_own _ rfl _ _ 37 rfl w3.heap.size 42 i0 _ 7 56 Tryz.underlying37 hi hz0 hz1 hz2 rfl (by omega) (.slice qa (keptL SS bs k).length qc) (keptL SS bs k).length (flatM (keptL SS bs k)) rfl ((hown'.out.alloc _).alloc _) ⟨wr.heap.size + 1, 0, none⟩ 1 1 (flatM [⟨⟨yt, yf, yq⟩, yto, yv, (k : Int), yan⟩]) rfl rfl hnw.out (flatM_ones _) (by unfold maxLen; omega) (by omega) (by simp; omega) ?_; intro v2 w4 hown4 hgrow hnil)
          have hown5 : Hid (w4.ownsRow w3.heap.size 42 7 v2 (keptL SS bs (k + 1)).length (flatM (keptL SS bs (k + 1)))) := Lib.hid (by rw [hsu'.out, flatM_append, List.length_append]; exact hown4)
          have hB5 := Lib.hid (hB4.out.grown hgrow (by simp; omega) (fun j hj => (hrow j hj).1))
          have hlen5 : Hid (((keptL SS bs (k + 1)).length : Int) = ((keptL SS bs k).length : Int) + 1) := Lib.hid (by rw [hsu'.out]; simp)
          clear hown4 hgrow hnil hrow hnw hB4
          go_wp2
          go_roundw
          case rel => exact ⟨k + 1, by omega, by go_num, by rw [hlen5.out], hB5.out, hown5.out⟩
          case measure => simp [intOf]; omega
        · have hch : chosenB bs k = false := by rw [hcc]; simp [hkb, hodd]
          rw [if_neg (by simp [hch])] at hsu
          have hm2 : x.tmod 2 = 0 := by rw [Int.tmod_eq_emod_of_nonneg hbr.1]; omega
          have hsu' := Lib.hid hsu
          have hown' := Lib.hid hown.out
          have hbk' := Lib.hid hbk
          clear hsu hown hch hcc hms hMk hbx hbw hbk hmk
          go_wp2
          go_roundw
          case rel => exact ⟨k + 1, by omega, by go_num, by rw [hsu'.out], hbk'.out, by rw [hsu'.out]; exact hown'.out⟩
          case measure => simp [intOf]; omega
      · have hch : chosenB bs k = false := by rw [hcc]; simp [hkb]
        rw [if_neg (by simp [hch])] at hsu
        have hkl2 : ¬ (k : Int) < (kl : Int) := by have := hK'.out.1; omega
        have hsu' := Lib.hid hsu
        have hown' := Lib.hid hown.out
        have hbk' := Lib.hid hbk
        clear hsu hown hch hcc hms hMk hbk hmk
        go_wp2
        go_roundw
        case rel => exact ⟨k + 1, by omega, by go_num, by rw [hsu'.out], hbk'.out, by rw [hsu'.out]; exact hown'.out⟩
        case measure => simp [intOf]; omega
    · obtain rfl : k = n := by omega
      obtain ⟨qa, qc, rfl⟩ := own_slice hown.out
      have hown' := Lib.hid hown.out
      have hbk' := Lib.hid hbk
      clear hown hbk
      go_upto_region 17 with fail
      have hbw : Hid (Below w.heap.size w wr) := Lib.hid (hB3.out.trans (hbk'.out.mono hB3.out.size))
      have hMr := Lib.hid ((hbk'.out.block _ (Array.getElem?_eq_some_iff.1 hM3.out).1).trans hM3.out)
      have hXr := Lib.hid ((hbk'.out.block _ (Array.getElem?_eq_some_iff.1 hX3.out).1).trans hX3.out)
      obtain ⟨m0, m1, m2, m3, m4, m5, m6⟩ := row7 hMr.out
      have hk5 := hdo.out wr lb g v' (Fresh.below hF3.out hbk'.out) hbw.out qa (keptL SS bs k).length qc (keptL SS bs k) (mgs_of_own hown'.out) (fun j e => (hown'.out.lt j e).2)
      obtain ⟨-, -, he18⟩ := hent.out sa sc
      have hx18r : Hid (∀ w', KeptOff (fun j => j = lb ∨ j = g) wr w' → w'.cell? ⟨xb, 18, none⟩ = some (.slice sa k sc)) := Lib.hid (fun w' h => row_cell ((h.block _ (Array.getElem?_eq_some_iff.1 hXr.out).1 (by omega)).trans hXr.out) 18 he18)
      have hxl : xb < wr.heap.size := (Array.getElem?_eq_some_iff.1 hXr.out).1
      clear hdo hF3 hMr c18 he18
      go_wp2_with fail
      refine hk5.mono ?_
      rintro e w5 ⟨ya, yc, rfl, hq5⟩
      obtain ⟨hes, heo, he18⟩ := hent.out ya yc
      have heo' := Lib.hid heo
      have hEi : Hid ((Tryz.prog.info? 44).map (·.size) = some (ENT ya yc).size) := Lib.hid (by rw [hes]; exact infoEn)
      have hz19 : z19.size = (ENT ya yc).size := hes.symm
      have hA := heap_alloc_new w5 (.cells z19 44)
      have hC := Lib.hid ((Below.refl _ w5).alloc (Nat.le_refl _) (.cells z19 44))
      have hN5 := Lib.hid hq5.out.1
      have hx5 := Lib.hid (hx18r.out w5 hq5.out.2.1)
      have hx5l : xb < w5.heap.size := Nat.lt_of_lt_of_le hxl hq5.out.2.1.size
      have hB5 := Lib.hid (hbw.out.trans (hq5.out.2.1.below (fun j _ e => by have := hbw.out.size; omega) hbw.out.size))
      clear hk5 hq5 m0 m1 m2 m3 m4 m5 m6 heo hx18r
      go_upto_region 18 with (refine wpList_store_row rfl 44 (.tmp 15) (.tmp 88) rfl w5.heap.size (ENT ya yc) rfl rfl 44 z19 hA hEi.out hz19 heo'.out ?_)
      have hC2 := Lib.hid (below_row hC.out (g := w5.heap.size) (Nat.le_refl _) (ENT ya yc))
      have hY6 := Lib.hid (setRow_heap (new := ENT ya yc) hA)
      simp only [z19] at hC2 hY6
      clear hA hC
      generalize (w5.alloc (Obj.cells _ 44)).setRow w5.heap.size (ENT ya yc) = w6 at *
      have cy : w6.cell? ⟨w5.heap.size, 18, none⟩ = some (.slice ya k yc) := row_cell hY6.out 18 he18
      have cx : w6.cell? ⟨xb, 18, none⟩ = some (.slice sa k sc) := (hC2.out.cell (p := ⟨xb, 18, none⟩) hx5l).trans hx5.out
      have hN6 := Lib.hid (hN5.out.below hC2.out)
      have hB6 := Lib.hid (hB5.out.trans (hC2.out.mono hB5.out.size))
      have hSk : SS.length = k := hSl.out
      have hcnt := nameU_count (bs := bs) hap.out 100 k (by rw [hSk]; exact Nat.le_refl _)
      rw [hSk] at hcnt
      have hcnt' := Lib.hid hcnt
      have hlk := keptL_length_le SS bs k
      have b1 : IntKind.i64.wrap (100 + (k : Int)) = 100 + (k : Int) := IntWalk.i64_in _ (by omega)
      have b2 : IntKind.i64.wrap (100 + (k : Int) - ((keptL SS bs k).length : Int)) = 100 + (k : Int) - ((keptL SS bs k).length : Int) := IntWalk.i64_in _ (by omega)
      have hSk' := Lib.hid hSk
      clear hN5 hx5 hB5 hC2 hY6 hEi hz19 heo' he18 hes hXr hown' hcnt hSk
      go_upto_region 22 with fail
      go_loopw [16, 17] (fun nx i w7 => ∃ j : Nat, j ≤ k ∧ i = .int .i64 j ∧ nx = .int .i64 (nameU (keptL SS bs k) (SS.take j) 100) ∧ w7 = w6) (fun _ i _ => k - (intOf i).toNat)
      case atStart => exact ⟨0, Nat.zero_le _, rfl, rfl, rfl⟩
      case round =>
        obtain ⟨j, hj, rfl, rfl, rfl⟩ := hrel
        by_cases hlt : j < k
        · have hst := nameU_step (bs := bs) hap.out 100 (k := j) (by rw [hSk'.out]; exact hlt)
          have hnu := named_u (bs := bs) hap.out 100 (k := j) (by rw [hSk'.out]; exact hlt)
          have hrg := nameU_rng (keptL SS bs k) (SS.take j) 100
          have htl : (SS.take j).length ≤ k := by simp; omega
          rw [hSk'.out] at hst hnu
          obtain ⟨sb, so, rfl, hms⟩ : ∃ sb so, ya = some ⟨sb, so, none⟩ ∧ ∀ i, i < k → MsgAt wr sb (so + i * 7) ((nameL (keptL SS bs k) SS 100).getD i default) := by
            rcases hN6.out.2.2.2 with h0 | h1
            · omega
            · exact h1
          have hmk := (hms j hlt).2.2.2.2.2.2.1
          rw [hnu] at hmk
          have hcc := hcb.out j
          have hkk0 : (0 : Int) ≤ (j : Int) := by omega
          have hkk1 : (j : Int) < (k : Int) := by omega
          by_cases hkb : j < bs.length
          · have hkl2 : j < kl := by have := hK'.out.1; omega
            obtain ⟨bb, bo, rfl, hbl, hbx⟩ : ∃ bb bo, ka = some ⟨bb, bo, none⟩ ∧ bb < w.heap.size ∧ ∀ i, i < kl → w.cell? ⟨bb, bo + i, none⟩ = some (.int .u8 (bs.getD i 0)) := by
              rcases hK'.out.2.2.2.2 with h0 | ⟨bb, bo, h1, h2, h3⟩
              · omega
              · exact ⟨bb, bo, h1, h2, h3⟩
            have hbr := hK'.out.2.2.2.1 (bs.getD j 0) (by
              simp only [List.getD_eq_getElem?_getD, List.getElem?_eq_getElem hkb, Option.getD_some]
              exact List.getElem_mem hkb)
            have cbk := (hB6.out.cell (p := ⟨bb, bo + j, none⟩) hbl).trans (hbx j hkl2)
            have hkl3 : (j : Int) < (kl : Int) := by omega
            generalize bs.getD j 0 = x at *
            by_cases hodd : x % 2 = 1
            · have hch : chosenB bs j = true := by rw [hcc]; simp [hkb, hodd]
              rw [if_pos hch] at hst hmk
              have hm2 : x.tmod 2 = 1 := by rw [Int.tmod_eq_emod_of_nonneg hbr.1]; exact hodd
              have hst' := Lib.hid hst
              clear hst hch hcc hms hbx hnu
              go_wp2
              go_roundw
              case rel => exact ⟨j + 1, by omega, by go_num, by rw [hst'.out], by trivial⟩
              case measure => simp [intOf]; omega
            · have hch : chosenB bs j = false := by rw [hcc]; simp [hkb, hodd]
              rw [if_neg (by simp [hch])] at hst hmk
              have hm2 : x.tmod 2 = 0 := by rw [Int.tmod_eq_emod_of_nonneg hbr.1]; omega
              have hst' := Lib.hid hst
              generalize nameU (keptL SS bs k) (SS.take j) 100 = U at *
              have hU : IntKind.i64.wrap (U + 1) = U + 1 := IntWalk.i64_in _ (by omega)
              clear hst hch hcc hms hbx hnu
              go_wp2
              go_roundw
              case rel => exact ⟨j + 1, by omega, by go_num, by rw [hst'.out], by trivial⟩
              case measure => simp [intOf]; omega
          · have hch : chosenB bs j = false := by rw [hcc]; simp [hkb]
            rw [if_neg (by simp [hch])] at hst hmk
            have hkl2 : ¬ (j : Int) < (kl : Int) := by have := hK'.out.1; omega
            have hst' := Lib.hid hst
            generalize nameU (keptL SS bs k) (SS.take j) 100 = U at *
            have hU : IntKind.i64.wrap (U + 1) = U + 1 := IntWalk.i64_in _ (by omega)
            clear hst hch hcc hms hnu
            go_wp2
            go_roundw
            case rel => exact ⟨j + 1, by omega, by go_num, by rw [hst'.out], by trivial⟩
            case measure => simp [intOf]; omega
        · obtain rfl : j = k := by omega
          rw [hcnt'.out]
          go_wp2
          go_ret
          exact ⟨ret_bool (by simp), hB6.out⟩
theorem lawLogNames {w : World} {v : Wv} {W : Wd} {m : M} {eb : Addr} {ka : Option Addr} {kl kc : Nat} {bs : List Int} (hE : ErrIs w eb) (hT : ErrT w) (hW : Wds w v W) (hev : In64 m.v) (hK : Byts w ka kl kc bs) (hr : kl ≤ 140737488351232) (hn : NilP ka kl kc) :
    Calls Tryz.prog 5 #[v.val W, m.val, .slice ka kl kc] w fun e w' => e = .returned (.bool true) ∧ Below w.heap.size w w' := by
  by_cases hc : checkW W = 0
  · by_cases hf : refP m false = 0
    · exact names_go hW hE hT hev hc hf hK
    · exact names_no hW hE hT hc hf
  · exact names_bad hW hE hT hc
end Go.Proofs.YtminfmjgmmkaoaaGreatDoor
