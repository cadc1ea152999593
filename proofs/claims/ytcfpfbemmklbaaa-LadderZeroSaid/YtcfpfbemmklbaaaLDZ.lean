/-
  The law of a ladder that nobody made.
-/
import Derived.Test.YtcfpfbemmklbaaaLDQ
namespace Go.Proofs.Ytcfpfbemmklbaaa
open Go.ChangeShapes Go.WideShapes Go.ChangeAt Go.Shelf Go.RowKit Go.Lib Go.Sort Go.Deep Go.Maps
set_option linter.unusedVariables false

theorem zeroM_val : zeroM.val = .agg #[.int .i64 0, .int .i64 0, .int .i64 0, .int .i64 0, .int .i64 0, .int .i64 0, .bool false] := rfl
set_option maxHeartbeats 1500000 in
set_option maxRecDepth 100000 in
theorem lawLadderZero (m : M) (hm : m.fits) (w : World) : Calls Try.prog 6 #[m.val] w fun e w' => e = .returned (.bool true) ∧ Below w.heap.size w w' := by
  have hBx := Lib.hid (BoxM.mk w m)
  have hB1 : Hid (Below w.heap.size w ((w.alloc (.cells m.cells 34)).alloc (.cells #[.pointer none, .map none] 55))) := ((Below.refl _ w).alloc (Nat.le_refl _) _).alloc (by simp) _
  have hN1 : Hid (NotMade ((w.alloc (.cells m.cells 34)).alloc (.cells #[.pointer none, .map none] 55)) (.pointer (some ⟨w.heap.size + 1, 0, none⟩))) := .inr ⟨_, rfl, by simp, by simp⟩
  have hM1 : Hid (BoxM ((w.alloc (.cells m.cells 34)).alloc (.cells #[.pointer none, .map none] 55)) w.heap.size m) := BoxM.kept (S := fun _ => False) hBx.out (.of_below ((Below.refl _ _).alloc (Nat.le_refl _) _)) (fun e => e)
  have hm7 := fun w' => hPush_not (w := w') (q := .pointer none) (.inl rfl) m
  have hp7 := fun w' (h : NotMade w' (.pointer (some ⟨w.heap.size + 1, 0, none⟩))) => hPush_not h m
  have hf7 := fun w' => hFirst_not (w := w') (q := .pointer none) (.inl rfl)
  have hc7 := fun w' => hCut_not (w := w') (q := .pointer none) (.inl rfl) 0 0
  have ha7 := fun w' => hAll_not (w := w') (q := .pointer none) (.inl rfl)
  obtain ⟨W0, hW0⟩ : ∃ W0, W0 = (w.alloc (.cells m.cells 34)).alloc (.cells #[.pointer none, .map none] 55) := ⟨_, rfl⟩
  rw [← hW0] at hB1 hN1 hM1
  have hW0' := Lib.hid hW0
  clear hW0 hBx
  generalize hb : w.heap.size + 1 = hb1 at *
  have hb' := Lib.hid hb
  clear hb
  obtain ⟨m1, hm1⟩ : ∃ m1, m1 = m := ⟨_, rfl⟩
  rw [← hm1] at hM1
  have hm1' := Lib.hid hm1
  clear hm1 hm
  obtain ⟨⟨t, f, s⟩, tt, vv, u, an⟩ := m
  have hboxc : Hid (∀ W, Below W0.heap.size W0 W → MsgAt W w.heap.size 0 ⟨⟨t, f, s⟩, tt, vv, u, an⟩) := by
    intro W hW
    have := (hM1.out.kept (S := fun _ => False) (.of_below hW) (fun e => e)).at
    rwa [hm1'.out] at this
  simp only [M.val, M.cells] at hW0' hm7 hp7 ⊢
  simp only [zeroM_val] at hf7 hc7
  have hpop := fun w' (h : NotMade w' (.pointer (some ⟨hb1, 0, none⟩))) => hPop_not h
  simp only [zeroM_val] at hpop
  go_enter Try.func6, Try.ntmps6
  go_upto_region 3 with (fail)
  rw [hb'.out, ← hW0'.out]
  go_upto_region 4 with (go_at_call 19; refine (hf7 _).mono ?_; rintro e w3 ⟨rfl, hb3⟩; have hb3' := Lib.hid hb3; clear hb3)
  have hB3 : Hid (Below W0.heap.size W0 (w3.alloc (.cells #[.int .i64 0, .int .i64 0, .int .i64 0, .int .i64 0, .int .i64 0, .int .i64 0, .bool false] 34))) := hb3'.out.alloc hb3'.out.size _
  generalize w3.alloc (.cells #[.int .i64 0, .int .i64 0, .int .i64 0, .int .i64 0, .int .i64 0, .int .i64 0, .bool false] 34) = W3 at hB3 ⊢
  have hpop3 := hpop W3 (hN1.out.below hB3.out)
  go_upto_region 5 with (go_at_call 17; refine hpop3.mono ?_; rintro e w4 ⟨rfl, hb4⟩; have hb4' := Lib.hid hb4; clear hb4)
  have hB4 : Hid (Below W0.heap.size W0 (w4.alloc (.cells #[.int .i64 0, .int .i64 0, .int .i64 0, .int .i64 0, .int .i64 0, .int .i64 0, .bool false] 34))) := (hB3.out.trans (hb4'.out.mono hB3.out.size)).alloc (Nat.le_trans hB3.out.size hb4'.out.size) _
  generalize w4.alloc (.cells #[.int .i64 0, .int .i64 0, .int .i64 0, .int .i64 0, .int .i64 0, .int .i64 0, .bool false] 34) = W4 at hB4 ⊢
  clear hpop hpop3 hB3 hb4' hb3'
  go_upto_region 6 with (go_at_call 18; refine (hc7 _).mono ?_; rintro e w5 ⟨rfl, hb5⟩; have hb5' := Lib.hid hb5; clear hb5)
  have hB5 : Hid (Below W0.heap.size W0 (w5.alloc (.cells #[.int .i64 0, .int .i64 0, .int .i64 0, .int .i64 0, .int .i64 0, .int .i64 0, .bool false] 34))) := (hB4.out.trans (hb5'.out.mono hB4.out.size)).alloc (Nat.le_trans hB4.out.size hb5'.out.size) _
  generalize w5.alloc (.cells #[.int .i64 0, .int .i64 0, .int .i64 0, .int .i64 0, .int .i64 0, .int .i64 0, .bool false] 34) = W5 at hB5 ⊢
  clear hB4 hb5' hc7 hf7
  obtain ⟨-, x0, x1, x2, x3, x4, x5, x6⟩ := hboxc.out W5 hB5.out
  simp only [Nat.zero_add] at x0 x1 x2 x3 x4 x5 x6
  have hpq := fun W (hW : Below W0.heap.size W0 W) => hp7 W (hN1.out.below hW)
  have hlq := fun W (hW : Below W0.heap.size W0 W) => hLen_not (hN1.out.below hW)
  have hpq' := Lib.hid hpq
  have hlq' := Lib.hid hlq
  clear hpq hlq hp7 hN1
  generalize hhz : w.heap.size = hw0 at *
  go_wp2_with (first
    | (go_at_call 15; (with_reducible refine (hm7 _).mono ?_); rintro e w6 ⟨rfl, hb6⟩; have hB6 := hB5.out.trans (hb6.mono hB5.out.size); have hQ6 := hpq'.out w6 hB6; have hB6' := Lib.hid hB6; clear hb6 hB6; obtain ⟨-, y0, y1, y2, y3, y4, y5, y6⟩ := hboxc.out w6 hB6'.out; simp only [Nat.zero_add] at y0 y1 y2 y3 y4 y5 y6)
    | (go_at_call 15; (with_reducible refine hQ6.mono ?_); rintro e w7 ⟨rfl, hb7⟩; have hB7 := hB6'.out.trans (hb7.mono hB6'.out.size); have hL7 := hlq'.out w7 hB7; have hB7' := Lib.hid hB7; clear hb7 hB7)
    | (go_at_call 13; refine (ha7 _).mono ?_; rintro e w8 ⟨rfl, rfl⟩)
    | (go_at_call 11; refine hL7.mono ?_; rintro e w8 ⟨rfl, rfl⟩))
  go_ret
  rw [hhz]
  exact ⟨rfl, hB1.out.trans (hB7'.out.mono (by have := hB1.out.size; omega))⟩
end Go.Proofs.Ytcfpfbemmklbaaa
