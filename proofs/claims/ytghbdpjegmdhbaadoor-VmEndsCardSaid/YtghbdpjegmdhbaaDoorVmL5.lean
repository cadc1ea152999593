/-
  The law that a program ends.
-/
import Derived.Test.YtghbdpjegmdhbaaDoorVmL2
import Derived.Test.YtghbdpjegmdhbaaDoorVmG
import Derived.Test.YtghbdpjegmdhbaaDoorVmI
namespace Go.Proofs.YtghbdpjegmdhbaaDoor
open Go.ChangeShapes Go.WideShapes Go.ChangeAt Go.RowKit Go.Sort
set_option linter.unusedVariables false
set_option maxRecDepth 4000

theorem i_wf {i : I} (h : ∀ z ∈ [i.op, i.a, i.b, i.c], 0 ≤ z ∧ z ≤ 100) : i.fits :=
  ⟨WalkArith.wf_i64 (by have := h i.op (by simp); omega), WalkArith.wf_i64 (by have := h i.a (by simp); omega), WalkArith.wf_i64 (by have := h i.b (by simp); omega), WalkArith.wf_i64 (by have := h i.c (by simp); omega)⟩
theorem ends_fits (k : Nat) : ∀ i ∈ endsI k, i.fits := by
  intro i hi
  simp only [endsI, List.mem_cons, List.mem_append, List.mem_replicate, List.not_mem_nil, or_false] at hi
  rcases hi with rfl | ⟨_, rfl⟩ | rfl <;> exact i_wf (by simp)
theorem ends_call {w : World} {eb : Addr} (hE : ErrIs w eb) (hT : ErrT w) {k : Nat} (h0 : 1 ≤ k) (h20 : k ≤ 20) {w1 : World} (hb : Below w.heap.size w w1) {base cap n : Nat} {a : Option Addr} (hn : n = k + 2) (hown : w1.ownsRow base 56 4 (.slice a n cap) n (flatI (endsI k))) :
    Calls Tryd.prog 11 #[Wv.val ⟨a, n, cap, none, 0, 0⟩ ⟨endsI k, 0, [], 0⟩, Sta.zero.val, noM.val] w1 (RunL w1 (endsV k) 0 0 0 0 0 0 0 0 0 [] 0) := by
  subst hn
  obtain ⟨a', cap', e, hI⟩ := inss_of_own hown (ends_fits k)
  cases e
  exact vmRun_lit ⟨hI, lks_nil _, by show 0 < _; omega, by show (Lit.int .i64 0).wf = true; decide⟩ (hE.below hb) (hT.below hb) (s := Sta.zero) rfl zero_in (by unfold In64; decide) (endsR k h0 h20)
def preI (j : Nat) : List I := ⟨1, 8, 1, 0⟩ :: List.replicate j ⟨3, 0, 0, 8⟩
theorem preI_succ (j : Nat) : flatI (preI (j + 1)) = flatI (preI j) ++ flatI [⟨3, 0, 0, 8⟩] := by
  rw [← flatI_append]
  simp [preI, List.replicate_succ']
theorem preI_last (j : Nat) : flatI (endsI j) = flatI (preI j) ++ flatI [⟨10, 1, 0, 0⟩] := by
  rw [← flatI_append]
  simp [preI, endsI]
theorem ends_start (w : World) : (w.alloc (.cells #[.int .i64 1, .int .i64 8, .int .i64 1, .int .i64 0] 56)).ownsRow w.heap.size 56 4 (.slice (some ⟨w.heap.size, 0, none⟩) 1 1) (0 + 1) (flatI (preI 0)) :=
  ⟨rfl, .inr ⟨w.heap.size, 1, _, rfl, Nat.le_refl _, heap_alloc_new w _, Nat.le_refl _, by unfold maxLen; omega, rfl, rfl⟩⟩
set_option maxHeartbeats 8000000 in
theorem lawVmEnds {w : World} {eb : Addr} (hE : ErrIs w eb) (hT : ErrT w) (b : Int) (hb' : (Lit.int .u8 b).wf = true) :
    Calls Tryd.prog 7 #[.int .u8 b] w fun e w' => e = .returned (.bool true) ∧ Below w.heap.size w w' := by
  obtain ⟨i0, hi, hz0, hz1, hz2⟩ := info_parts infoIn
  have hb := wf_u8 hb'
  obtain ⟨K, hK⟩ : ∃ K : Nat, b % 20 + 1 = (K : Int) := ⟨(b % 20 + 1).toNat, by omega⟩
  have hK1 : 1 ≤ K ∧ K ≤ 20 := by omega
  have hE' := Lib.hid hE
  have hT' := Lib.hid hT
  clear hE hT hb'
  go_enter Tryd.func7, Tryd.ntmps7
  go_wp2_with fail
  go_loopw [4, 5] (fun v i wr => ∃ k : Nat, k ≤ K ∧ i = .int .i64 k ∧ Below w.heap.size w wr ∧ wr.ownsRow w.heap.size 56 4 v (k + 1) (flatI (preI k))) (fun _ i _ => K - (intOf i).toNat)
  case atStart => exact ⟨0, Nat.zero_le _, rfl, (Below.refl _ _).alloc (Nat.le_refl _) _, ends_start w⟩
  case round =>
    obtain ⟨k, hk, rfl, hbk, hown⟩ := hrel
    have hown' := Lib.hid hown
    have hbk' := Lib.hid hbk
    have hbs := hbk.size
    clear hown hbk
    by_cases hlt : k < K
    · have hsu := Lib.hid (preI_succ k)
      go_wp2_with (at_builtin; refine wpList_append_own _ rfl _ _ 22 rfl w.heap.size 56 i0 _ 4 32 Tryd.underlying22 hi hz0 hz1 hz2 rfl (by omega) _ _ _ rfl (hown'.out.alloc _) ⟨wr.heap.size, 0, none⟩ 1 1 (flatI [⟨3, 0, 0, 8⟩]) rfl rfl ?c1 ?c2 ?c3 ?c4 ?c5 ?_)
      case c1 => exact World.news_of_block (cs := #[.int .i64 3, .int .i64 0, .int .i64 0, .int .i64 8]) (t := 56) (fr := (0, 0)) (by simpa using heap_alloc_new wr (.cells #[.int .i64 3, .int .i64 0, .int .i64 0, .int .i64 8] 56))
      case c2 => exact flatI_one _
      case c3 => unfold maxLen; omega
      case c4 => omega
      case c5 => simp; omega
      intro v' w4 hown4 hgrow4 hnil4
      clear hnil4
      have hown5 : Hid (w4.ownsRow w.heap.size 56 4 v' (k + 1 + 1) (flatI (preI (k + 1)))) := by rw [hsu.out]; exact hown4
      have hb4 : Hid (Below w.heap.size w w4) := (hbk'.out.alloc (by omega) _).grown hgrow4 (by simp; omega) (fun k hk => (hown'.out.lt k hk).1)
      clear hown4 hgrow4
      go_wp2
      go_roundw
      case rel => exact ⟨k + 1, by omega, by go_num, hb4.out, hown5.out⟩
      case measure => simp [intOf]; omega
    · obtain rfl : k = K := by omega
      have hsu := Lib.hid (preI_last k)
      go_wp2_with (at_builtin; refine wpList_append_own _ rfl _ _ 22 rfl w.heap.size 56 i0 _ 4 32 Tryd.underlying22 hi hz0 hz1 hz2 rfl (by omega) _ _ _ rfl (hown'.out.alloc _) ⟨wr.heap.size, 0, none⟩ 1 1 (flatI [⟨10, 1, 0, 0⟩]) rfl rfl ?c1 ?c2 ?c3 ?c4 ?c5 ?_)
      case c1 => exact World.news_of_block (cs := #[.int .i64 10, .int .i64 1, .int .i64 0, .int .i64 0]) (t := 56) (fr := (0, 0)) (by simpa using heap_alloc_new wr (.cells #[.int .i64 10, .int .i64 1, .int .i64 0, .int .i64 0] 56))
      case c2 => exact flatI_one _
      case c3 => unfold maxLen; omega
      case c4 => omega
      case c5 => simp; omega
      intro v' w4 hown4 hgrow4 hnil4
      clear hnil4
      have hown5 : w4.ownsRow w.heap.size 56 4 v' (k + 2) (flatI (endsI k)) := by rw [hsu.out]; exact hown4
      have hb4 : Hid (Below w.heap.size w w4) := (hbk'.out.alloc (by omega) _).grown hgrow4 (by simp; omega) (fun k hk => (hown'.out.lt k hk).1)
      clear hown4 hgrow4
      obtain ⟨a, cap, rfl⟩ := own_slice hown5
      have hc1 := ends_call hE'.out hT'.out hK1.1 hK1.2 hb4.out rfl hown5
      generalize hz : endsV k = z at hc1
      simp only [Wv.val, M.val, noM, Sta.val, Sta.cells, Sta.zero, List.map_cons, List.map_nil, List.cons_append, List.nil_append] at hc1
      clear hown5
      go_wp2_with fail
      refine hc1.mono ?_
      rintro e w5 ⟨a', cap', rfl, hq1⟩
      have hB := Lib.hid (hb4.out.trans (hq1.out.2.mono hb4.out.size))
      clear hc1 hq1
      go_upto_region 10 with (fail)
      have hz5 := heap_alloc_new w5 (.cells #[.int .i64 z, .int .i64 0, .int .i64 0, .int .i64 0, .int .i64 0, .int .i64 0, .int .i64 0, .int .i64 0, .int .i64 0, .int .i64 0] 29)
      have hB1 := hB.out.alloc hB.out.size (.cells #[.int .i64 z, .int .i64 0, .int .i64 0, .int .i64 0, .int .i64 0, .int .i64 0, .int .i64 0, .int .i64 0, .int .i64 0, .int .i64 0] 29)
      generalize w5.alloc (.cells #[.int .i64 z, .int .i64 0, .int .i64 0, .int .i64 0, .int .i64 0, .int .i64 0, .int .i64 0, .int .i64 0, .int .i64 0, .int .i64 0] 29) = W1 at *
      have b0 := fun p => wide_cell (w := W1) p (a := ⟨w5.heap.size, 0, none⟩) (Array.getElem?_eq_some_iff.1 hz5).1 (row10 hz5).1
      have hB1' := Lib.hid hB1
      clear hz5 hB1 hB
      clear hown' hbk' hbs hsu hk hlt hi hz0 hz1 hz2 hE' hT' hb4 hb
      rcases (by omega : k = 1 ∨ k = 2 ∨ k = 3 ∨ k = 4 ∨ k = 5 ∨ k = 6 ∨ k = 7 ∨ k = 8 ∨ k = 9 ∨ k = 10 ∨ k = 11 ∨ k = 12 ∨ k = 13 ∨ k = 14 ∨ k = 15 ∨ k = 16 ∨ k = 17 ∨ k = 18 ∨ k = 19 ∨ k = 20) with rfl | rfl | rfl | rfl | rfl | rfl | rfl | rfl | rfl | rfl | rfl | rfl | rfl | rfl | rfl | rfl | rfl | rfl | rfl | rfl
      · obtain rfl : z = 2048 := by rw [← hz]; decide
        refine wp_region_wide (by kernel_rfl) (by kernel_rfl) ?_
        repeat (first | go_big_quiet_step (fail) | quiet_step (fail))
        refine wpQuiet_nil ?_
        refine wide_all fun W2 hb2 => ?_
        have hB2 := Lib.hid (hB1'.out.trans (hb2.mono hB1'.out.size))
        go_wp2
        go_ret
        exact ⟨rfl, hB2.out⟩
      · obtain rfl : z = 2730 := by rw [← hz]; decide
        refine wp_region_wide (by kernel_rfl) (by kernel_rfl) ?_
        repeat (first | go_big_quiet_step (fail) | quiet_step (fail))
        refine wpQuiet_nil ?_
        refine wide_all fun W2 hb2 => ?_
        have hB2 := Lib.hid (hB1'.out.trans (hb2.mono hB1'.out.size))
        go_wp2
        go_ret
        exact ⟨rfl, hB2.out⟩
      · obtain rfl : z = 3072 := by rw [← hz]; decide
        refine wp_region_wide (by kernel_rfl) (by kernel_rfl) ?_
        repeat (first | go_big_quiet_step (fail) | quiet_step (fail))
        refine wpQuiet_nil ?_
        refine wide_all fun W2 hb2 => ?_
        have hB2 := Lib.hid (hB1'.out.trans (hb2.mono hB1'.out.size))
        go_wp2
        go_ret
        exact ⟨rfl, hB2.out⟩
      · obtain rfl : z = 3276 := by rw [← hz]; decide
        refine wp_region_wide (by kernel_rfl) (by kernel_rfl) ?_
        repeat (first | go_big_quiet_step (fail) | quiet_step (fail))
        refine wpQuiet_nil ?_
        refine wide_all fun W2 hb2 => ?_
        have hB2 := Lib.hid (hB1'.out.trans (hb2.mono hB1'.out.size))
        go_wp2
        go_ret
        exact ⟨rfl, hB2.out⟩
      · obtain rfl : z = 3413 := by rw [← hz]; decide
        refine wp_region_wide (by kernel_rfl) (by kernel_rfl) ?_
        repeat (first | go_big_quiet_step (fail) | quiet_step (fail))
        refine wpQuiet_nil ?_
        refine wide_all fun W2 hb2 => ?_
        have hB2 := Lib.hid (hB1'.out.trans (hb2.mono hB1'.out.size))
        go_wp2
        go_ret
        exact ⟨rfl, hB2.out⟩
      · obtain rfl : z = 3510 := by rw [← hz]; decide
        refine wp_region_wide (by kernel_rfl) (by kernel_rfl) ?_
        repeat (first | go_big_quiet_step (fail) | quiet_step (fail))
        refine wpQuiet_nil ?_
        refine wide_all fun W2 hb2 => ?_
        have hB2 := Lib.hid (hB1'.out.trans (hb2.mono hB1'.out.size))
        go_wp2
        go_ret
        exact ⟨rfl, hB2.out⟩
      · obtain rfl : z = 3584 := by rw [← hz]; decide
        refine wp_region_wide (by kernel_rfl) (by kernel_rfl) ?_
        repeat (first | go_big_quiet_step (fail) | quiet_step (fail))
        refine wpQuiet_nil ?_
        refine wide_all fun W2 hb2 => ?_
        have hB2 := Lib.hid (hB1'.out.trans (hb2.mono hB1'.out.size))
        go_wp2
        go_ret
        exact ⟨rfl, hB2.out⟩
      · obtain rfl : z = 3640 := by rw [← hz]; decide
        refine wp_region_wide (by kernel_rfl) (by kernel_rfl) ?_
        repeat (first | go_big_quiet_step (fail) | quiet_step (fail))
        refine wpQuiet_nil ?_
        refine wide_all fun W2 hb2 => ?_
        have hB2 := Lib.hid (hB1'.out.trans (hb2.mono hB1'.out.size))
        go_wp2
        go_ret
        exact ⟨rfl, hB2.out⟩
      · obtain rfl : z = 3686 := by rw [← hz]; decide
        refine wp_region_wide (by kernel_rfl) (by kernel_rfl) ?_
        repeat (first | go_big_quiet_step (fail) | quiet_step (fail))
        refine wpQuiet_nil ?_
        refine wide_all fun W2 hb2 => ?_
        have hB2 := Lib.hid (hB1'.out.trans (hb2.mono hB1'.out.size))
        go_wp2
        go_ret
        exact ⟨rfl, hB2.out⟩
      · obtain rfl : z = 3723 := by rw [← hz]; decide
        refine wp_region_wide (by kernel_rfl) (by kernel_rfl) ?_
        repeat (first | go_big_quiet_step (fail) | quiet_step (fail))
        refine wpQuiet_nil ?_
        refine wide_all fun W2 hb2 => ?_
        have hB2 := Lib.hid (hB1'.out.trans (hb2.mono hB1'.out.size))
        go_wp2
        go_ret
        exact ⟨rfl, hB2.out⟩
      · obtain rfl : z = 3754 := by rw [← hz]; decide
        refine wp_region_wide (by kernel_rfl) (by kernel_rfl) ?_
        repeat (first | go_big_quiet_step (fail) | quiet_step (fail))
        refine wpQuiet_nil ?_
        refine wide_all fun W2 hb2 => ?_
        have hB2 := Lib.hid (hB1'.out.trans (hb2.mono hB1'.out.size))
        go_wp2
        go_ret
        exact ⟨rfl, hB2.out⟩
      · obtain rfl : z = 3780 := by rw [← hz]; decide
        refine wp_region_wide (by kernel_rfl) (by kernel_rfl) ?_
        repeat (first | go_big_quiet_step (fail) | quiet_step (fail))
        refine wpQuiet_nil ?_
        refine wide_all fun W2 hb2 => ?_
        have hB2 := Lib.hid (hB1'.out.trans (hb2.mono hB1'.out.size))
        go_wp2
        go_ret
        exact ⟨rfl, hB2.out⟩
      · obtain rfl : z = 3803 := by rw [← hz]; decide
        refine wp_region_wide (by kernel_rfl) (by kernel_rfl) ?_
        repeat (first | go_big_quiet_step (fail) | quiet_step (fail))
        refine wpQuiet_nil ?_
        refine wide_all fun W2 hb2 => ?_
        have hB2 := Lib.hid (hB1'.out.trans (hb2.mono hB1'.out.size))
        go_wp2
        go_ret
        exact ⟨rfl, hB2.out⟩
      · obtain rfl : z = 3822 := by rw [← hz]; decide
        refine wp_region_wide (by kernel_rfl) (by kernel_rfl) ?_
        repeat (first | go_big_quiet_step (fail) | quiet_step (fail))
        refine wpQuiet_nil ?_
        refine wide_all fun W2 hb2 => ?_
        have hB2 := Lib.hid (hB1'.out.trans (hb2.mono hB1'.out.size))
        go_wp2
        go_ret
        exact ⟨rfl, hB2.out⟩
      · obtain rfl : z = 3840 := by rw [← hz]; decide
        refine wp_region_wide (by kernel_rfl) (by kernel_rfl) ?_
        repeat (first | go_big_quiet_step (fail) | quiet_step (fail))
        refine wpQuiet_nil ?_
        refine wide_all fun W2 hb2 => ?_
        have hB2 := Lib.hid (hB1'.out.trans (hb2.mono hB1'.out.size))
        go_wp2
        go_ret
        exact ⟨rfl, hB2.out⟩
      · obtain rfl : z = 3855 := by rw [← hz]; decide
        refine wp_region_wide (by kernel_rfl) (by kernel_rfl) ?_
        repeat (first | go_big_quiet_step (fail) | quiet_step (fail))
        refine wpQuiet_nil ?_
        refine wide_all fun W2 hb2 => ?_
        have hB2 := Lib.hid (hB1'.out.trans (hb2.mono hB1'.out.size))
        go_wp2
        go_ret
        exact ⟨rfl, hB2.out⟩
      · obtain rfl : z = 3868 := by rw [← hz]; decide
        refine wp_region_wide (by kernel_rfl) (by kernel_rfl) ?_
        repeat (first | go_big_quiet_step (fail) | quiet_step (fail))
        refine wpQuiet_nil ?_
        refine wide_all fun W2 hb2 => ?_
        have hB2 := Lib.hid (hB1'.out.trans (hb2.mono hB1'.out.size))
        go_wp2
        go_ret
        exact ⟨rfl, hB2.out⟩
      · obtain rfl : z = 3880 := by rw [← hz]; decide
        refine wp_region_wide (by kernel_rfl) (by kernel_rfl) ?_
        repeat (first | go_big_quiet_step (fail) | quiet_step (fail))
        refine wpQuiet_nil ?_
        refine wide_all fun W2 hb2 => ?_
        have hB2 := Lib.hid (hB1'.out.trans (hb2.mono hB1'.out.size))
        go_wp2
        go_ret
        exact ⟨rfl, hB2.out⟩
      · obtain rfl : z = 3891 := by rw [← hz]; decide
        refine wp_region_wide (by kernel_rfl) (by kernel_rfl) ?_
        repeat (first | go_big_quiet_step (fail) | quiet_step (fail))
        refine wpQuiet_nil ?_
        refine wide_all fun W2 hb2 => ?_
        have hB2 := Lib.hid (hB1'.out.trans (hb2.mono hB1'.out.size))
        go_wp2
        go_ret
        exact ⟨rfl, hB2.out⟩
      · obtain rfl : z = 3900 := by rw [← hz]; decide
        refine wp_region_wide (by kernel_rfl) (by kernel_rfl) ?_
        repeat (first | go_big_quiet_step (fail) | quiet_step (fail))
        refine wpQuiet_nil ?_
        refine wide_all fun W2 hb2 => ?_
        have hB2 := Lib.hid (hB1'.out.trans (hb2.mono hB1'.out.size))
        go_wp2
        go_ret
        exact ⟨rfl, hB2.out⟩
end Go.Proofs.YtghbdpjegmdhbaaDoor
