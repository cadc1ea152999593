
/-
  The document's own Check of a model.
-/
import Derived.Test.YtofkfajcibdneaaDoorNC
namespace Go.Proofs.YtofkfajcibdneaaDoor
open Go.ChangeShapes Go.WideShapes Go.ChangeAt Go.Shelf Go.RowKit Go.Lib Go.Sort Go.Deep
set_option linter.unusedVariables false
set_option linter.unusedSimpArgs false
set_option maxRecDepth 4000

theorem checkM_arg {M : Md} (h : ¬ okArg M) : checkM M = 1 := by unfold checkM; rw [if_pos h]
theorem checkM_progs {M : Md} (h : okArg M) (h2 : ¬ okProgs M) : checkM M = 130 := by unfold checkM; rw [if_neg (not_not_intro h), if_pos h2]
theorem checkM_links {M : Md} (h : okArg M) (h2 : okProgs M) (h3 : ¬ okLinks M) : checkM M = 131 := by unfold checkM; rw [if_neg (not_not_intro h), if_neg (not_not_intro h2), if_pos h3]
theorem checkM_starts {M : Md} (h : okArg M) (h2 : okProgs M) (h3 : okLinks M) (h4 : ¬ okStarts M) : checkM M = 132 := by unfold checkM; rw [if_neg (not_not_intro h), if_neg (not_not_intro h2), if_neg (not_not_intro h3), if_pos h4]
theorem checkM_ok {M : Md} (h : okArg M) (h2 : okProgs M) (h3 : okLinks M) (h4 : okStarts M) : checkM M = 0 := by unfold checkM; rw [if_neg (not_not_intro h), if_neg (not_not_intro h2), if_neg (not_not_intro h3), if_neg (not_not_intro h4)]
set_option maxHeartbeats 8000000 in
set_option maxRecDepth 100000 in
theorem r13Check_any {w : World} {v : Mv} {M : Md} (h : Mds w v M) : Calls Tryd.prog 10 #[v.val M] w fun e w' => e = .returned (.int .i64 (checkM M)) ∧ Hid (Below w.heap.size w w') := by
  have mixed := mixed
  obtain ⟨pa, pl, pc, la, ll, lc, sa, sl, sc⟩ := v
  have hbx := Lib.hid h.box
  have hbW : Hid (Below w.heap.size w (w.alloc (.cells (Mv.cells ⟨pa, pl, pc, la, ll, lc, sa, sl, sc⟩ M) 27))) := (Below.refl _ w).alloc (Nat.le_refl _) _
  have hpl : Hid (M.progs.length = pl) := h.1.1
  have hsl : Hid (M.starts.length = sl) := h.2.2.1.1
  have hmx : sl ≤ 9223372036854775807 ∧ pl ≤ 9223372036854775807 := by have := h.2.2.1.2.1; have := h.2.2.1.2.2.1; have := h.1.2.1; have := h.1.2.2.1; unfold maxLen at *; dsimp only at *; omega
  obtain ⟨hms, hmp⟩ := hmx
  clear h
  have hk1 := Lib.hid (@checkM_arg M)
  have hk2 := Lib.hid (@checkM_progs M)
  have hk3 := Lib.hid (@checkM_links M)
  have hk4 := Lib.hid (@checkM_starts M)
  have hk5 := Lib.hid (@checkM_ok M)
  generalize checkM M = q0 at *
  have hvt := Lib.hid (r1Valid_any M.last)
  simp only [Mv.val, Mv.cells] at hbx hbW ⊢
  go_enter Tryd.func10, Tryd.ntmps10
  go_upto_region 1 with fail
  generalize w.heap.size = B at hbx ⊢
  generalize w.alloc (.cells #[.slice pa pl pc, .slice la ll lc, .slice sa sl sc, .int .u64 M.seed, .int .i64 M.last, .int .i64 M.bud] 27) = W at *
  have c0 := hbx.out.c0
  have c4 := hbx.out.c4
  have c5 := hbx.out.c5
  dsimp only at c0
  by_cases g1 : pl = 0
  · subst g1
    obtain rfl := hk1.out (fun e => by have := e.1.1; have := hpl.out; omega)
    clear hk1 hk2 hk3 hk4 hk5
    go_wp2
    go_ret
    exact ⟨rfl, hbW⟩
  have g1z : ((pl : Int) == 0) = false := by simp [g1]
  by_cases g2 : 16 < pl
  · have g2z : (16 : Int) < (pl : Int) := by omega
    obtain rfl := hk1.out (fun e => by have := e.1.2; have := hpl.out; omega)
    clear hk1 hk2 hk3 hk4 hk5
    go_wp2
    go_ret
    exact ⟨rfl, hbW⟩
  have g2z : ¬ (16 : Int) < (pl : Int) := by omega
  have hvW := Lib.hid (hvt.out W)
  by_cases g3 : validT M.last
  · have g3' := Lib.hid g3
    rw [boolOf_true g3] at hvW
    clear g3
    by_cases g4 : M.bud < 0
    · obtain rfl := hk1.out (fun e => by have := e.2.2.1; omega)
      clear hk1 hk2 hk3 hk4 hk5
      go_wp2_with (go_at_call 22; refine hvW.out.mono ?_; rintro e w2 ⟨rfl, hw2⟩; subst hw2)
      go_ret
      exact ⟨rfl, hbW⟩
    by_cases g5 : 4096 < M.bud
    · obtain rfl := hk1.out (fun e => by have := e.2.2.2; omega)
      clear hk1 hk2 hk3 hk4 hk5
      go_wp2_with (go_at_call 22; refine hvW.out.mono ?_; rintro e w2 ⟨rfl, hw2⟩; subst hw2)
      go_ret
      exact ⟨rfl, hbW⟩
    have hA : Hid (okArg M) := Lib.hid ⟨⟨by have := hpl.out; omega, by have := hpl.out; omega⟩, g3'.out, by omega, by omega⟩
    go_upto_region 3 with (go_at_call 22; refine hvW.out.mono ?_; rintro e w2 ⟨rfl, hw2⟩; subst hw2)
    clear hk1 g4 g5 g1 g2 c0 c4 c5 hvW hvt g3'
    go_wp2
    clear g1z g2z
    go_loopw [3] (fun s3 wr => ∃ i : Nat, i ≤ pl ∧ s3 = .int .i64 i ∧ Hid (Below W.heap.size W wr) ∧ Hid (∀ j, j < i → checkN (M.progs.getD j []) = 0)) (fun s3 _ => pl - (intOf s3).toNat)
    case atStart => exact ⟨0, Nat.zero_le _, rfl, Below.refl _ _, Lib.hid (fun j hj => by omega)⟩
    case round =>
      obtain ⟨i, hil, rfl, hbr, hup⟩ := hrel
      have hbx2 := Lib.hid (hbx.out.below hbr.out)
      have c0 := hbx2.out.c0
      dsimp only at c0
      by_cases hi : i < pl
      · have hiz : (i : Int) < (pl : Int) := by omega
        have hi' := Lib.hid hi
        have hwi : IntKind.i64.wrap ((i : Int) + 1) = (i : Int) + 1 := IntWalk.i64_in _ (by omega)
        obtain ⟨b, off, a', l', c', hpa, hpr⟩ := hbx2.out.2.1.get hi
        dsimp only at hpa
        rw [hpa] at c0
        have hcall := Lib.hid (r3Check_any hpr.2.2)
        have e0 := hpr.2.1
        clear hpa hpr hi
        by_cases hz : checkN (M.progs.getD i []) = 0
        · have hup2 : Hid (∀ j, j < i + 1 → checkN (M.progs.getD j []) = 0) := Lib.hid (fun j hj => by
            by_cases e : j = i
            · subst e; exact hz
            · exact hup.out j (by omega))
          rw [hz] at hcall
          clear hz
          go_wp2_with (go_at_call 23; refine hcall.out.mono ?_; rintro e w2 ⟨rfl, hr2⟩; have hb2 : Hid (Below W.heap.size W w2) := hbr.out.trans (hr2.below.mono hbr.out.size); clear hr2)
          go_roundw
          case rel => (repeat apply Exists.intro); first | exact ⟨hi'.out, by go_num, hup2⟩ | exact ⟨hi'.out, by go_num, hb2, hup2⟩ | exact ⟨⟨hi'.out, by go_num, hb2, hup2⟩, rfl⟩
          case measure => have := hi'.out; simp [intOf]; omega
        · obtain rfl := hk2.out hA.out (fun e => hz (e i (by rw [hpl.out]; exact hi'.out)))
          generalize checkN (M.progs.getD i []) = z at *
          have hz1 : (z == 0) = false := by simp [hz]
          have hz2 : (z != 0) = true := by simp [hz]
          clear hk2 hk3 hk4 hk5
          go_wp2_with (go_at_call 23; refine hcall.out.mono ?_; rintro e w2 ⟨rfl, hr2⟩; have hb2 : Hid (Below w.heap.size w w2) := (by (have h1 := hbW.out.trans (hbr.out.mono hbW.out.size); exact h1.trans (hr2.below.mono h1.size))); clear hr2)
          go_ret
          exact ⟨rfl, hb2⟩
      · obtain rfl : i = pl := by omega
        have hiz : ¬ (i : Int) < (i : Int) := by omega
        have hP : Hid (okProgs M) := Lib.hid (fun j hj => hup.out j (by rw [hpl.out] at hj; exact hj))
        have hlc := Lib.hid (r13links_any hbx2.out.2)
        have d1 := hbx2.out.c1
        have d2 := hbx2.out.c2
        have d3 := hbx2.out.c3
        have d4 := hbx2.out.c4
        have d5 := hbx2.out.c5
        simp only [Mv.val, Mv.cells] at hlc
        dsimp only at d1 d2
        clear hk2 hi
        by_cases hL : okLinks M
        · rw [boolOf_true hL] at hlc
          have hL' := Lib.hid hL
          clear hL hk3
          go_upto_region 10 with (go_at_call 24; refine hlc.out.mono ?_; rintro e w2 ⟨rfl, hb2⟩)
          have hb3 : Hid (Below W.heap.size W w2) := hbr.out.trans (hb2.out.mono hbr.out.size)
          have hbx3 := Lib.hid (hbx.out.below hb3.out)
          clear d1 d2 d3 d4 d5 c0 hlc hb2 hbx2 hbr hup hiz hil
          have c2 := hbx3.out.c2
          dsimp only at c2
          by_cases g6 : 4096 < sl
          · have g6z : (4096 : Int) < (sl : Int) := by omega
            obtain rfl := hk4.out hA.out hP.out hL'.out (fun e => by have := e.1; have := hsl.out; omega)
            have hb4 : Hid (Below w.heap.size w w2) := hbW.out.trans (hb3.out.mono hbW.out.size)
            clear hk4 hk5
            go_wp2
            go_ret
            exact ⟨rfl, hb4⟩
          have g6z : ¬ (4096 : Int) < (sl : Int) := by omega
          go_wp2
          clear c2
          go_loopw [4] (fun s4 wr => ∃ i : Nat, i ≤ sl ∧ s4 = .int .i64 i ∧ Hid (Below W.heap.size W wr) ∧ Hid (∀ j, j < i → sttMay M.progs.length (M.starts.getD j default))) (fun s4 _ => sl - (intOf s4).toNat)
          case atStart => exact ⟨0, Nat.zero_le _, rfl, hb3, Lib.hid (fun j hj => by omega)⟩
          case round =>
            clear hb3 hbx3
            obtain ⟨k, hkl, rfl, hbr, hup⟩ := hrel
            have hbx2 := Lib.hid (hbx.out.below hbr.out)
            have c0 := hbx2.out.c0
            have c2 := hbx2.out.c2
            dsimp only at c0 c2
            by_cases hk : k < sl
            · have hkz : (k : Int) < (sl : Int) := by omega
              have hk' := Lib.hid hk
              have hwk : IntKind.i64.wrap ((k : Int) + 1) = (k : Int) + 1 := IntWalk.i64_in _ (by omega)
              obtain ⟨b, off, hsa, hst⟩ := hbx2.out.2.2.2.1.get hk
              dsimp only at hsa
              rw [hsa] at c2
              obtain ⟨s, hs⟩ : ∃ s, Hid (M.starts.getD k default = s) := ⟨_, Lib.hid rfl⟩
              rw [hs.out] at hst
              obtain ⟨hbl, x0, x1, x2⟩ := hst
              obtain ⟨dst, t, sv⟩ := s
              dsimp only at x0 x1 x2
              have hbad : ¬ sttMay i ⟨dst, t, sv⟩ → q0 = 132 := fun hn => hk4.out hA.out hP.out hL'.out (fun ho => hn (by
                have h2 := ho.2 k (by rw [hsl.out]; exact hk'.out)
                rw [hpl.out, hs.out] at h2
                exact h2))
              clear hk hsa
              go_upto_region 16 with fail
              have hbox := Lib.hid (heap_alloc_new wr (.cells #[.int .i64 dst, .int .i64 t, .int .i64 sv] 56))
              have hb1 : Hid (Below W.heap.size W (wr.alloc (.cells #[.int .i64 dst, .int .i64 t, .int .i64 sv] 56))) := hbr.out.alloc hbr.out.size _
              have c0b := (hbx2.out.below ((Below.refl _ wr).alloc (Nat.le_refl _) (.cells #[.int .i64 dst, .int .i64 t, .int .i64 sv] 56))).c0
              dsimp only at c0b
              generalize wr.heap.size = Bl at *
              generalize wr.alloc (.cells #[.int .i64 dst, .int .i64 t, .int .i64 sv] 56) = W1 at *
              clear x0 x1 x2 c0 c2
              have y0 := cell_of_block (o := 0) hbox.out rfl
              have y1 := cell_of_block (o := 1) hbox.out rfl
              have hfin : Hid (Below w.heap.size w W1) := hbW.out.trans (hb1.out.mono hbW.out.size)
              have hvs := Lib.hid (r1Valid_any t W1)
              by_cases g7 : dst < 0
              · obtain rfl := hbad (fun hm => by have := hm.1.1; dsimp only at this; omega)
                clear hbad hk4 hk5
                go_wp2
                go_ret
                exact ⟨rfl, hfin⟩
              by_cases g8 : (i : Int) ≤ dst
              · obtain rfl := hbad (fun hm => by have := hm.1.2; dsimp only at this; omega)
                clear hbad hk4 hk5
                go_wp2
                go_ret
                exact ⟨rfl, hfin⟩
              by_cases g9 : validT t
              · rw [boolOf_true g9] at hvs
                have hup2 : Hid (∀ j, j < k + 1 → sttMay M.progs.length (M.starts.getD j default)) := Lib.hid (fun j hj => by
                  by_cases e : j = k
                  · subst e; rw [hs.out, hpl.out]; exact ⟨⟨by dsimp only; omega, by dsimp only; omega⟩, g9⟩
                  · exact hup.out j (by omega))
                clear g9 hbad
                go_wp2_with (go_at_call 22; refine hvs.out.mono ?_; rintro e w2 ⟨rfl, hw2⟩; subst hw2)
                go_roundw
                case rel => (repeat apply Exists.intro); first | exact ⟨hk'.out, by go_num, hup2⟩ | exact ⟨hk'.out, by go_num, hb1, hup2⟩ | exact ⟨⟨hk'.out, by go_num, hb1, hup2⟩, rfl⟩
                case measure => have := hk'.out; simp [intOf]; omega
              · rw [boolOf_false g9] at hvs
                obtain rfl := hbad (fun hm => g9 hm.2)
                clear hbad hk4 hk5 g9
                go_wp2_with (go_at_call 22; refine hvs.out.mono ?_; rintro e w2 ⟨rfl, hw2⟩; subst hw2)
                go_ret
                exact ⟨rfl, hfin⟩
            · obtain rfl : k = sl := by omega
              have hkz : ¬ (k : Int) < (k : Int) := by omega
              obtain rfl := hk5.out hA.out hP.out hL'.out ⟨by rw [hsl.out]; omega, fun j hj => hup.out j (by rw [hsl.out] at hj; exact hj)⟩
              have hb4 : Hid (Below w.heap.size w wr) := hbW.out.trans (hbr.out.mono hbW.out.size)
              clear hk hk4 hk5
              go_wp2
              go_ret
              exact ⟨rfl, hb4⟩
        · rw [boolOf_false hL] at hlc
          obtain rfl := hk3.out hA.out hP.out hL
          clear hL hk3 hk4 hk5
          go_wp2_with (go_at_call 24; refine hlc.out.mono ?_; rintro e w2 ⟨rfl, hb2⟩; have hb4 : Hid (Below w.heap.size w w2) := (by (have h1 := hbW.out.trans (hbr.out.mono hbW.out.size); exact h1.trans (hb2.out.mono h1.size))))
          go_ret
          exact ⟨rfl, hb4⟩
  · rw [boolOf_false g3] at hvW
    obtain rfl := hk1.out (fun e => g3 e.2.1)
    clear hk1 hk2 hk3 hk4 hk5 g3
    go_wp2_with (go_at_call 22; refine hvW.out.mono ?_; rintro e w2 ⟨rfl, hw2⟩; subst hw2)
    go_ret
    exact ⟨rfl, hbW⟩
end Go.Proofs.YtofkfajcibdneaaDoor
