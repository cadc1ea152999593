/-
  The law that parcels come out as they went in.
-/
import Derived.Test.YtjbammgnkegecaaKQ
namespace Go.Proofs.Ytjbammgnkegecaa
open Go.ChangeShapes Go.WideShapes Go.ChangeAt Go.Shelf Go.RowKit Go.Lib Go.Sort Go.Deep
set_option linter.unusedVariables false
set_option maxRecDepth 4000

theorem infoBo : (Try.prog.info? 4).map (fun i => (i.zero, i.size, i.bytes)) = some (some (.bool false), 1, 1) := by kernel_rfl
theorem seen_made {w' : World} {base sb N : Nat} (h : w'.ownsRow base 4 1 (.slice (some ⟨sb, 0, none⟩) N N) N (madeCells (Value.bool false).cells (N * 1)).toList) : Seen w' sb N (fun _ => false) := by
  obtain ⟨cur, h1, h2, h3, h4, h5, h6⟩ := RowIn.of_own h
  refine ⟨cur, h1, fun u hu => ?_⟩
  have := h6 u (.bool false) (by
    rw [Array.getElem?_toList]
    simp [madeCells, Value.cells, hu, Nat.mod_one])
  rwa [Nat.zero_add] at this
/-- All have been put; the words stand at no. -/
theorem OrdI.start {w wr w' : World} {hb N : Nat} {lo : Bool} (h : BackI w hb 1024 lo c2 N wr) (hg : wr.grownBy w' none) (ho : w'.ownsRow wr.heap.size 4 1 (.slice (some ⟨wr.heap.size, 0, none⟩) N N) N (madeCells (Value.bool false).cells (N * 1)).toList) : ∃ S U, OrdI w hb lo N 0 wr.heap.size S U w' := by
  obtain ⟨S, hF⟩ := h
  have hk := KeptOff.of_grown hg
  refine ⟨S, List.range N, ⟨hF.kept hk (fun k _ e => by cases e) (fun k e => by cases e), by simp, List.nodup_range, fun u hu => List.mem_range.1 hu, fun _ => by simp, ?_, fun e => by have := hF.at'.lt e; omega, hF.b.size⟩⟩
  obtain ⟨cs, h1, h2⟩ := seen_made ho
  refine ⟨cs, h1, fun u hu => ?_⟩
  rw [h2 u hu]
  simp [hu]
theorem c2_bd (u : Nat) : 0 ≤ c2 u ∧ c2 u < 2 := by unfold c2; omega
theorem c2_tmod (u : Nat) : Int.tmod (u : Int) 2 = c2 u := by rw [Int.tmod_eq_emod_of_nonneg (by omega)]; unfold c2; omega

set_option maxHeartbeats 16000000 in
set_option maxRecDepth 100000 in
theorem lawLinkOrder {w : World} (lo : Bool) (N : Nat) (hN : N < 256) {a : Option Addr} {len cap : Nat} (h : Nums w a len cap) : Calls Try.prog 4 #[.bool lo, .int .u8 N, .slice a len cap] w fun e w' => e = .returned (.bool true) ∧ Below w.heap.size w w' := by
  have hq3 : IntKind.i64.wrap (N : Int) = (N : Int) := IntWalk.i64_in _ (by omega)
  have hn := fun w => lkNew_yes (f := 0) (t := 1) (k := 1) (b := lo) (most := 1024) ⟨by omega, by omega, by omega⟩ w
  unfold lkV at hn
  obtain ⟨h1, h2, h3⟩ := h
  have h3' := Lib.hid h3
  have hcm : len ≤ 9223372036854775807 ∧ cap ≤ 9223372036854775807 := by unfold maxLen at h2; omega
  obtain ⟨hlm, hcm⟩ := hcm
  clear h3 h2
  obtain ⟨i0, hi, hz0, hz1, hz2⟩ := info_parts infoBo
  have hst : Hid (∀ hb w1, Hid (Made w ⟨0, 1, 1024, lo⟩ hb w1) → BackI w hb 1024 lo c2 0 w1) := Lib.hid (fun hb w1 h => ⟨_, Fresh.mk' h.out⟩)
  go_enter Try.func4, Try.ntmps4
  go_wp2_with (first
    | (go_at_call 9; refine (hn w).mono ?_; rintro e w1 ⟨hb, rfl, hM⟩; have hI0 := Lib.hid (hst.out hb w1 hM)))
  clear hM hst hn
  go_loopw [10] (fun s10 wr => ∃ i : Nat, i ≤ N ∧ s10 = .int .i64 i ∧ Hid (BackI w hb 1024 lo c2 i wr)) (fun s10 _ => N - (intOf s10).toNat)
  case atStart => exact ⟨0, Nat.zero_le _, rfl, hI0⟩
  case round =>
    obtain ⟨i, hi1, rfl, hI⟩ := hrel
    clear hI0
    by_cases hil : i < N
    · have hzz : (i : Int) < (N : Int) := by omega
      have hput := Lib.hid (hI.out.put (by omega) (by omega))
      have hpv : Hid ((bp c2 i).val = .agg #[.int .i64 0, .int .i64 0, .int .i64 0, .int .i64 1, .int .i64 0, .int .i64 (i : Int), .bool false, .int .i64 (c2 i)]) := rfl
      rw [hpv.out] at hput
      have hw1 : IntKind.i64.wrap ((i : Int) + 1) = (i : Int) + 1 := IntWalk.i64_in _ (by omega)
      have hc2 := c2_tmod i
      have hcb := c2_bd i
      have hw2 : IntKind.i64.wrap (c2 i) = c2 i := IntWalk.i64_in _ (by omega)
      generalize c2 i = ci at *
      clear hI hpv
      go_wp2_with (go_at_call 11; refine hput.out.mono ?_; rintro e w2 ⟨rfl, hq⟩)
      go_roundw
      case rel => exact ⟨i + 1, by omega, by go_num, hq⟩
      case measure => simp [intOf]; omega
    · obtain rfl : i = N := by omega
      have hzz : ¬ (i : Int) < (i : Int) := by omega
      have hmk : Hid (∀ w', wr.grownBy w' none → w'.ownsRow wr.heap.size 4 1 (.slice (some ⟨wr.heap.size, 0, none⟩) i i) i (madeCells (Value.bool false).cells (i * 1)).toList → ∃ S U, OrdI w hb lo i 0 wr.heap.size S U w') := Lib.hid (fun w' hg ho => OrdI.start hI.out hg ho)
      clear hI
      go_wp2_with ((at_make; refine wpList_make_full _ rfl _ _ 56 rfl wr.heap.size 4 i0 _ 1 Try.underlying56 hi hz0 hz1 .i64 .i64 _ _ i rfl rfl rfl rfl (by rw [hz2]; omega) (by unfold maxLen; omega) (Nat.le_refl _) ?_; intro w2 ho hg; have hR1 := Lib.hid (hmk.out w2 hg ho); clear ho hg))
      clear hmk
      generalize wr.heap.size = sb at *
      go_loopw [12] (fun s12 wr => ∃ j : Nat, j ≤ i ∧ s12 = .int .i64 j ∧ Hid (∃ S U, OrdI w hb lo i j sb S U wr)) (fun s12 _ => i - (intOf s12).toNat)
      case atStart => exact ⟨0, Nat.zero_le _, rfl, hR1⟩
      case round =>
        obtain ⟨j, hj1, rfl, hJ⟩ := hrel
        clear hR1
        have hw1 : IntKind.i64.wrap ((j : Int) + 1) = (j : Int) + 1 := IntWalk.i64_in _ (by omega)
        by_cases hj : j < i
        · have hzj : (j : Int) < (i : Int) := by omega
          by_cases hjl : j < len
          · have hzl : (j : Int) < (len : Int) := by omega
            obtain ⟨b, off, rfl, hbw, hop⟩ : ∃ b off, a = some ⟨b, off, none⟩ ∧ b < w.heap.size ∧ ∀ i, i < len → ∃ z : Int, (Lit.int .i64 z).wf = true ∧ w.cell? ⟨b, off + i, none⟩ = some (.int .i64 z) := by
              rcases h3'.out with h0 | hx
              · omega
              · exact hx
            obtain ⟨z, hzf, hcz⟩ := hop j hjl
            have c0 : wr.cell? ⟨b, off + j, none⟩ = some (.int .i64 z) := by
              obtain ⟨S, U, hO⟩ := hJ.out
              exact (hO.fr.b.cell (p := ⟨b, _, none⟩) hbw).trans hcz
            clear hop hcz hzf
            obtain ⟨S, U, hO⟩ := hJ.out
            obtain ⟨hm, huN, huo⟩ := hO.next hj z
            have hpk := Lib.hid (hO.peek hj (by omega) z)
            have htk : Hid (∀ W, OrdI w hb lo i j sb S U W → _) := Lib.hid (fun W h => OrdI.take h hj (by omega) z)
            have hstp : Hid (∀ W, OrdT w hb lo i j sb S U (placeN lo z U.length) W → Hid (∃ S2 U2, OrdI w hb lo i (j + 1) sb S2 U2 (W.setCell ⟨sb, nextU lo U z, none⟩ (.bool true)))) := Lib.hid (fun W h => ⟨_, _, h.step hj⟩)
            have hseen : Hid (∀ W, OrdT w hb lo i j sb S U (placeN lo z U.length) W → W.cell? ⟨sb, nextU lo U z, none⟩ = some (.bool false) ∧ W.frozen? ⟨sb, nextU lo U z, none⟩ = false) := Lib.hid (fun W h => ⟨by
              have := h.seen.cell huN
              rwa [show decide (nextU lo U z ∉ U) = false by simp [hm]] at this, h.seen.fz _⟩)
            have hcm := c2_tmod (nextU lo U z)
            have hcb := c2_bd (nextU lo U z)
            have hpv : Hid ((bp c2 (nextU lo U z)).val = (⟨⟨⟨0, 0, 0⟩, 1, 0, (nextU lo U z : Int), false⟩, c2 (nextU lo U z)⟩ : Pc).val) := rfl
            rw [hpv.out] at hpk htk
            clear hJ hO hm hpv
            generalize placeN lo z U.length = pl at *
            generalize nextU lo U z = u at *
            generalize c2 u = cu at *
            have huI : (u : Int) < (i : Int) := by omega
            have hw2 : IntKind.i64.wrap cu = cu := IntWalk.i64_in _ (by omega)
            have hqv : Hid ((⟨⟨⟨0, 0, 0⟩, 1, 0, (u : Int), false⟩, cu⟩ : Pc).val = .agg #[.int .i64 0, .int .i64 0, .int .i64 0, .int .i64 1, .int .i64 0, .int .i64 (u : Int), .bool false, .int .i64 cu]) := rfl
            have hqc : Hid ((⟨⟨⟨0, 0, 0⟩, 1, 0, (u : Int), false⟩, cu⟩ : Pc).cells = #[.int .i64 0, .int .i64 0, .int .i64 0, .int .i64 1, .int .i64 0, .int .i64 (u : Int), .bool false, .int .i64 cu]) := rfl
            have heq := fun w => neqP ⟨⟨⟨0, 0, 0⟩, 1, 0, (u : Int), false⟩, cu⟩ ⟨⟨⟨0, 0, 0⟩, 1, 0, (u : Int), false⟩, cu⟩ w
            rw [hqv.out] at heq hpk htk
            simp only [decide_true, Bool.not_true] at heq
            go_upto_region 18 with (go_at_call 13; refine hpk.out.mono ?_; rintro e w2 ⟨rfl, hq⟩)
            obtain ⟨hO2, hbw2⟩ := hq.out
            have hbx : Hid (BoxP (w2.alloc (.cells (Pc.cells ⟨⟨⟨0, 0, 0⟩, 1, 0, (u : Int), false⟩, cu⟩) 37)) w2.heap.size ⟨⟨⟨0, 0, 0⟩, 1, 0, (u : Int), false⟩, cu⟩) := BoxP.mk w2 _
            have htk2 := Lib.hid (htk.out _ (hO2.below ((Below.refl _ w2).alloc (Nat.le_refl _) (.cells (Pc.cells ⟨⟨⟨0, 0, 0⟩, 1, 0, (u : Int), false⟩, cu⟩) 37))))
            have hSB : ¬ S w2.heap.size := fun e => by have := hO2.fr.at'.lt e; omega
            rw [hqc.out] at hbx htk2
            generalize w2.heap.size = B2 at *
            generalize w2.alloc (.cells #[.int .i64 0, .int .i64 0, .int .i64 0, .int .i64 1, .int .i64 0, .int .i64 (u : Int), .bool false, .int .i64 cu] 37) = W2 at *
            clear hq hO2 hbw2 hpk htk c0
            go_upto_region 19 with (go_at_call 15; refine htk2.out.mono ?_; rintro e w4 ⟨rfl, hq⟩)
            obtain ⟨hT4, hk4⟩ := hq.out
            have hby : Hid (BoxP (w4.alloc (.cells (Pc.cells ⟨⟨⟨0, 0, 0⟩, 1, 0, (u : Int), false⟩, cu⟩) 37)) w4.heap.size ⟨⟨⟨0, 0, 0⟩, 1, 0, (u : Int), false⟩, cu⟩) := BoxP.mk w4 _
            have hbx4 := Lib.hid ((hbx.out.kept hk4 hSB).below ((Below.refl _ w4).alloc (Nat.le_refl _) (.cells (Pc.cells ⟨⟨⟨0, 0, 0⟩, 1, 0, (u : Int), false⟩, cu⟩) 37)))
            have hT5 := Lib.hid (hT4.below ((Below.refl _ w4).alloc (Nat.le_refl _) (.cells (Pc.cells ⟨⟨⟨0, 0, 0⟩, 1, 0, (u : Int), false⟩, cu⟩) 37)))
            rw [hqc.out] at hby hbx4 hT5
            generalize w4.heap.size = B4 at *
            generalize w4.alloc (.cells #[.int .i64 0, .int .i64 0, .int .i64 0, .int .i64 1, .int .i64 0, .int .i64 (u : Int), .bool false, .int .i64 cu] 37) = W4 at *
            obtain ⟨q1, q2⟩ := hseen.out W4 hT5.out
            have hstep := hstp.out W4 hT5.out
            obtain ⟨x0, x1, x2, x3, x4, x5, x6, x7⟩ := hbx4.out.at
            obtain ⟨y0, y1, y2, y3, y4, y5, y6, y7⟩ := hby.out.at
            simp only [Nat.zero_add] at x0 x1 x2 x3 x4 x5 x6 x7 y0 y1 y2 y3 y4 y5 y6 y7
            clear hq hT4 hk4 hbx hbx4 hby htk2 hqv hqc hseen hstp hT5 hSB huN
            cases lo with
            | true =>
              clear huo
              go_wp2_with fail
              go_roundw
              case rel => exact ⟨j + 1, by omega, by go_num, hstep⟩
              case measure => simp [intOf]; omega
            | false =>
              obtain rfl := (huo rfl).symm
              go_wp2_with fail
              go_roundw
              case rel => exact ⟨j + 1, by omega, by go_num, hstep⟩
              case measure => simp [intOf]; omega
          · have hzl : ¬ (j : Int) < (len : Int) := by omega
            have c0 : True := trivial
            obtain ⟨S, U, hO⟩ := hJ.out
            obtain ⟨hm, huN, huo⟩ := hO.next hj 0
            have hpk := Lib.hid (hO.peek hj (by omega) 0)
            have htk : Hid (∀ W, OrdI w hb lo i j sb S U W → _) := Lib.hid (fun W h => OrdI.take h hj (by omega) 0)
            have hstp : Hid (∀ W, OrdT w hb lo i j sb S U (placeN lo 0 U.length) W → Hid (∃ S2 U2, OrdI w hb lo i (j + 1) sb S2 U2 (W.setCell ⟨sb, nextU lo U 0, none⟩ (.bool true)))) := Lib.hid (fun W h => ⟨_, _, h.step hj⟩)
            have hseen : Hid (∀ W, OrdT w hb lo i j sb S U (placeN lo 0 U.length) W → W.cell? ⟨sb, nextU lo U 0, none⟩ = some (.bool false) ∧ W.frozen? ⟨sb, nextU lo U 0, none⟩ = false) := Lib.hid (fun W h => ⟨by
              have := h.seen.cell huN
              rwa [show decide (nextU lo U 0 ∉ U) = false by simp [hm]] at this, h.seen.fz _⟩)
            have hcm := c2_tmod (nextU lo U 0)
            have hcb := c2_bd (nextU lo U 0)
            have hpv : Hid ((bp c2 (nextU lo U 0)).val = (⟨⟨⟨0, 0, 0⟩, 1, 0, (nextU lo U 0 : Int), false⟩, c2 (nextU lo U 0)⟩ : Pc).val) := rfl
            rw [hpv.out] at hpk htk
            clear hJ hO hm hpv
            generalize placeN lo 0 U.length = pl at *
            generalize nextU lo U 0 = u at *
            generalize c2 u = cu at *
            have huI : (u : Int) < (i : Int) := by omega
            have hw2 : IntKind.i64.wrap cu = cu := IntWalk.i64_in _ (by omega)
            have hqv : Hid ((⟨⟨⟨0, 0, 0⟩, 1, 0, (u : Int), false⟩, cu⟩ : Pc).val = .agg #[.int .i64 0, .int .i64 0, .int .i64 0, .int .i64 1, .int .i64 0, .int .i64 (u : Int), .bool false, .int .i64 cu]) := rfl
            have hqc : Hid ((⟨⟨⟨0, 0, 0⟩, 1, 0, (u : Int), false⟩, cu⟩ : Pc).cells = #[.int .i64 0, .int .i64 0, .int .i64 0, .int .i64 1, .int .i64 0, .int .i64 (u : Int), .bool false, .int .i64 cu]) := rfl
            have heq := fun w => neqP ⟨⟨⟨0, 0, 0⟩, 1, 0, (u : Int), false⟩, cu⟩ ⟨⟨⟨0, 0, 0⟩, 1, 0, (u : Int), false⟩, cu⟩ w
            rw [hqv.out] at heq hpk htk
            simp only [decide_true, Bool.not_true] at heq
            go_upto_region 18 with (go_at_call 13; refine hpk.out.mono ?_; rintro e w2 ⟨rfl, hq⟩)
            obtain ⟨hO2, hbw2⟩ := hq.out
            have hbx : Hid (BoxP (w2.alloc (.cells (Pc.cells ⟨⟨⟨0, 0, 0⟩, 1, 0, (u : Int), false⟩, cu⟩) 37)) w2.heap.size ⟨⟨⟨0, 0, 0⟩, 1, 0, (u : Int), false⟩, cu⟩) := BoxP.mk w2 _
            have htk2 := Lib.hid (htk.out _ (hO2.below ((Below.refl _ w2).alloc (Nat.le_refl _) (.cells (Pc.cells ⟨⟨⟨0, 0, 0⟩, 1, 0, (u : Int), false⟩, cu⟩) 37))))
            have hSB : ¬ S w2.heap.size := fun e => by have := hO2.fr.at'.lt e; omega
            rw [hqc.out] at hbx htk2
            generalize w2.heap.size = B2 at *
            generalize w2.alloc (.cells #[.int .i64 0, .int .i64 0, .int .i64 0, .int .i64 1, .int .i64 0, .int .i64 (u : Int), .bool false, .int .i64 cu] 37) = W2 at *
            clear hq hO2 hbw2 hpk htk c0
            go_upto_region 19 with (go_at_call 15; refine htk2.out.mono ?_; rintro e w4 ⟨rfl, hq⟩)
            obtain ⟨hT4, hk4⟩ := hq.out
            have hby : Hid (BoxP (w4.alloc (.cells (Pc.cells ⟨⟨⟨0, 0, 0⟩, 1, 0, (u : Int), false⟩, cu⟩) 37)) w4.heap.size ⟨⟨⟨0, 0, 0⟩, 1, 0, (u : Int), false⟩, cu⟩) := BoxP.mk w4 _
            have hbx4 := Lib.hid ((hbx.out.kept hk4 hSB).below ((Below.refl _ w4).alloc (Nat.le_refl _) (.cells (Pc.cells ⟨⟨⟨0, 0, 0⟩, 1, 0, (u : Int), false⟩, cu⟩) 37)))
            have hT5 := Lib.hid (hT4.below ((Below.refl _ w4).alloc (Nat.le_refl _) (.cells (Pc.cells ⟨⟨⟨0, 0, 0⟩, 1, 0, (u : Int), false⟩, cu⟩) 37)))
            rw [hqc.out] at hby hbx4 hT5
            generalize w4.heap.size = B4 at *
            generalize w4.alloc (.cells #[.int .i64 0, .int .i64 0, .int .i64 0, .int .i64 1, .int .i64 0, .int .i64 (u : Int), .bool false, .int .i64 cu] 37) = W4 at *
            obtain ⟨q1, q2⟩ := hseen.out W4 hT5.out
            have hstep := hstp.out W4 hT5.out
            obtain ⟨x0, x1, x2, x3, x4, x5, x6, x7⟩ := hbx4.out.at
            obtain ⟨y0, y1, y2, y3, y4, y5, y6, y7⟩ := hby.out.at
            simp only [Nat.zero_add] at x0 x1 x2 x3 x4 x5 x6 x7 y0 y1 y2 y3 y4 y5 y6 y7
            clear hq hT4 hk4 hbx hbx4 hby htk2 hqv hqc hseen hstp hT5 hSB huN
            cases lo with
            | true =>
              clear huo
              go_wp2_with fail
              go_roundw
              case rel => exact ⟨j + 1, by omega, by go_num, hstep⟩
              case measure => simp [intOf]; omega
            | false =>
              obtain rfl := (huo rfl).symm
              go_wp2_with fail
              go_roundw
              case rel => exact ⟨j + 1, by omega, by go_num, hstep⟩
              case measure => simp [intOf]; omega
        · obtain rfl : j = i := by omega
          have hzj : ¬ (j : Int) < (j : Int) := by omega
          obtain ⟨S, U, hO⟩ := hJ.out
          have htk := Lib.hid hO.end_take
          rw [zeroP_val] at htk
          clear hO hJ
          go_upto_region 24 with (go_at_call 15; refine htk.out.mono ?_; rintro e w4 ⟨rfl, hq⟩)
          have hl := hq.out (w4.alloc (.cells #[.int .i64 0, .int .i64 0, .int .i64 0, .int .i64 0, .int .i64 0, .int .i64 0, .bool false, .int .i64 0] 37)) ((Below.refl _ w4).alloc (Nat.le_refl _) _)
          generalize w4.alloc (.cells #[.int .i64 0, .int .i64 0, .int .i64 0, .int .i64 0, .int .i64 0, .int .i64 0, .bool false, .int .i64 0] 37) = W4 at *
          obtain ⟨hl5, hb5⟩ := hl
          have hb5' := Lib.hid hb5
          clear hb5 htk
          go_wp2_with (go_at_call 21; refine hl5.mono ?_; rintro e w6 ⟨rfl, rfl⟩)
          go_ret
          exact ⟨rfl, hb5'.out⟩
end Go.Proofs.Ytjbammgnkegecaa
