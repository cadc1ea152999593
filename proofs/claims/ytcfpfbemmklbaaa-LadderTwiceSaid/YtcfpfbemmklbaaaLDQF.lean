/-
  A ladder: New, forget, First, Pop.
-/
import Derived.Test.YtcfpfbemmklbaaaLDQ
namespace Go.Proofs.Ytcfpfbemmklbaaa
open Go.ChangeShapes Go.WideShapes Go.ChangeAt Go.Shelf Go.RowKit Go.Lib Go.Sort Go.Deep Go.Maps
set_option linter.unusedVariables false

/-- The blocks of a new ladder. -/
def newS (w : World) : Nat → Prop := fun k => w.heap.size ≤ k ∧ k < w.heap.size + 3
theorem newRungs_any (w : World) (most : Int) : Calls Try.prog 20 #[.int .i64 most] w fun e w' => e = .returned (.pointer (some ⟨w.heap.size, 0, none⟩)) ∧ w' = w.alloc (.cells #[.slice none 0 0, .int .i64 most, .slice none 0 0] 82) := by
  go_enter Try.func20, Try.ntmps20
  go_wp2
  go_ret
  exact ⟨rfl, rfl⟩
set_option maxHeartbeats 1000000 in
theorem hNew_any (w : World) {W : Int} (hW : 1 ≤ W ∧ W ≤ 16384) (hwf : (Lit.int .i64 W).wf = true) : Calls Try.prog 8 #[.int .i64 W] w fun e w' => e = .returned (.tuple #[.pointer (some ⟨w.heap.size + 2, 0, none⟩), .int .i64 0]) ∧ Hid (CalAt w' (w.heap.size + 2) (newS w) [] ∧ Below w.heap.size w w') := by
  have hmm := @run_makeMap Try.prog
  have hW1 : ¬ W < 1 := by omega
  have hW2 : ¬ 16384 < W := by omega
  obtain ⟨b, hb⟩ : ∃ b, b = w.heap.size := ⟨_, rfl⟩
  obtain ⟨w1, h1⟩ : ∃ w1, w1 = w.alloc (.cells #[.slice none 0 0, .int .i64 W, .slice none 0 0] 82) := ⟨_, rfl⟩
  have z1 : w1.heap.size = b + 1 := by rw [h1, hb]; simp
  obtain ⟨w2, h2⟩ : ∃ w2, w2 = w1.alloc (.map #[] 0) := ⟨_, rfl⟩
  have z2 : w2.heap.size = b + 2 := by rw [h2]; simp [z1]
  obtain ⟨w3, h3⟩ : ∃ w3, w3 = w2.alloc (.cells #[.pointer (some ⟨b, 0, none⟩), .map (some (b + 1))] 55) := ⟨_, rfl⟩
  have z3 : w3.heap.size = b + 3 := by rw [h3]; simp [z2]
  have hB : Below w.heap.size w w3 := by
    rw [h3, h2, h1]
    exact (((Below.refl _ w).alloc (Nat.le_refl _) _).alloc (by simp) _).alloc (by simp; omega) _
  have b13 : Below w1.heap.size w1 w3 := by rw [h3, h2]; exact ((Below.refl _ w1).alloc (Nat.le_refl _) _).alloc (by simp) _
  have b23 : Below w2.heap.size w2 w3 := by rw [h3]; exact (Below.refl _ w2).alloc (Nat.le_refl _) _
  have r3 : w3.heap[b]? = some (.cells #[.slice none 0 0, .int .i64 W, .slice none 0 0] 82 (0, 0)) := by
    rw [b13.block b (by omega), h1, hb]
    exact heap_alloc_new w _
  have k3 : KeysAt w3 (b + 1) [] := by
    have := KeysAt.made w1
    rw [← h2, z1] at this
    exact this.below' b23
  have c3 : LadRow w3 (b + 2) b (b + 1) := by
    unfold LadRow
    rw [h3, ← z2]
    exact heap_alloc_new w2 _
  have hQ : Hid (CalAt w3 (w.heap.size + 2) (newS w) [] ∧ Below w.heap.size w w3) := by
    refine ⟨⟨b, b + 1, W, .slice none 0 0, .slice none 0 0, [], [], { row := by rw [← hb]; exact c3, rungs := ⟨r3, RowAt.nil _ _ _, RowAt.nil _ _ _, fun u h => (by cases h), List.pairwise_singleton _ _⟩, stairs := ⟨List.Pairwise.nil, fun x hx => (by cases hx), Steps.nil, fun _ => rfl⟩, same := List.Perm.refl _, o := List.Pairwise.nil, u := List.Pairwise.nil, fits := fun m h => (by cases h), small := by simp, most1 := hW.1, keys := k3 }, ?_, ?_⟩, hB⟩
    · unfold newS
      rintro k (e | e | e | e | e | ⟨u, hu, e⟩)
      · omega
      · omega
      · omega
      · cases e
      · cases e
      · cases hu
    · unfold newS
      intro k hk
      omega
  rw [h3, h2, h1, hb] at hQ
  clear r3 k3 c3 b13 b23 hB z3 z2 z1 h3 h2 h1 hwf
  have hnr := newRungs_any w W
  go_enter Try.func8, Try.ntmps8
  go_wp2_with (go_at_call 20; refine hnr.mono ?_; rintro e w1 ⟨rfl, rfl⟩)
  go_ret2
  exact ⟨rfl, hQ.out⟩
theorem hNew_no (w : World) {W : Int} (hW : W < 1 ∨ 16384 < W) : Calls Try.prog 8 #[.int .i64 W] w fun e w' => e = .returned (.tuple #[.pointer none, .int .i64 1]) ∧ w = w' := by
  by_cases h1 : W < 1
  · clear hW
    go_enter Try.func8, Try.ntmps8
    go_wp2
    go_ret2
    exact ⟨rfl, rfl⟩
  · have h2 : 16384 < W := by omega
    clear hW
    go_enter Try.func8, Try.ntmps8
    go_wp2
    go_ret2
    exact ⟨rfl, rfl⟩
theorem eqErr (a b : Int) (w : World) : Sem.run Try.prog (binOp .neq 24 (.int .i64 a) (.int .i64 b)) w = .ok (.bool (!decide (a = b))) w := by
  go_simp
  try (by_cases h : a = b <;> simp [h])

set_option maxHeartbeats 4000000 in
set_option maxRecDepth 100000 in
theorem forget_any {w : World} {hb rb mb : Nat} {T T' : List M} (hr : LadRow w hb rb mb) (hk : KeysAt w mb T) (m : M) (hm : m.fits) (hp : (m :: T').Perm T) (hU : Unlike T) :
    Calls Try.prog 34 #[.pointer (some ⟨hb, 0, none⟩), m.val] w fun e w' => e = .returned m.val ∧ Hid (KeysAt w' mb T' ∧ KeptOff (fun k => k = mb) w w') := by
  have mixed := mixed
  obtain ⟨W1, hW1⟩ : ∃ W1, W1 = w.alloc (.cells m.cells 34) := ⟨_, rfl⟩
  obtain ⟨W2, hW2⟩ : ∃ W2, W2 = W1.alloc (.cells zeroM.cells 34) := ⟨_, rfl⟩
  have s1 : W1.heap.size = w.heap.size + 1 := by rw [hW1]; simp
  have hb1 : Below w.heap.size w W1 := by rw [hW1]; exact (Below.refl _ w).alloc (Nat.le_refl _) _
  have hb2 : Below w.heap.size w W2 := by rw [hW2]; exact hb1.alloc hb1.size _
  have hm2 : BoxM W2 w.heap.size m := by rw [hW2, hW1]; exact (BoxM.mk w m).below ((Below.refl _ _).alloc (Nat.le_refl _) _)
  have hz2 : BoxM W2 (w.heap.size + 1) zeroM := by rw [hW2, ← s1]; exact BoxM.mk W1 zeroM
  have hr2 : LadRow W2 hb rb mb := (hb2.block hb hr.lt).trans hr
  have hml := hk.lt
  have hfin : Hid (∀ W3, Below W2.heap.size W2 W3 → KeysAt W3 mb T ∧ ∀ w4, Hid (KeysAt w4 mb T') → Hid (KeptOff (fun k => k = mb) W3 w4) → MsgAt w4 w.heap.size 0 m ∧ Hid (BoxM w4 (w.heap.size + 1) zeroM) ∧ Hid (KeysAt (w4.setRow (w.heap.size + 1) m.cells) mb T' ∧ KeptOff (fun k => k = mb) w (w4.setRow (w.heap.size + 1) m.cells))) := by
    intro W3 hb3
    have hb03 := hb2.trans (hb3.mono hb2.size)
    refine ⟨hk.below' hb03, fun w4 k4 o4 => ?_⟩
    have hm4 := (hm2.below hb3).kept o4.out (by omega)
    have hz4 := (hz2.below hb3).kept o4.out (by omega)
    have k5 := KeptOff.row w4 (w.heap.size + 1) m.cells
    exact ⟨hm4.at, hz4, k4.out.kept k5 (by omega), ((KeptOff.of_below hb03).trans o4.out).then_new k5 (fun k hk e => by omega)⟩
  have hgl := hm2.lt
  obtain ⟨-, y0, y1, y2, y3, y4, y5, y6⟩ := hm2.at
  simp only [Nat.zero_add] at y0 y1 y2 y3 y4 y5 y6
  have x0 := fun q => wide_cell (w := W2) q hgl y0
  have x1 := fun q => wide_cell (w := W2) q hgl y1
  have x2 := fun q => wide_cell (w := W2) q hgl y2
  have x3 := fun q => wide_cell (w := W2) q hgl y3
  have x4 := fun q => wide_cell (w := W2) q hgl y4
  have x5 := fun q => wide_cell (w := W2) q hgl y5
  have x6 := fun q => wide_cell (w := W2) q hgl y6
  have c1 := fun q => wide_cell (w := W2) (a := ⟨hb, 1, none⟩) q hr2.lt hr2.c1
  have hsend := fun q : WB => (sending_any m (wide W2 q)).mono (R' := fun e w' => e = .returned (sendV m.k.f m.u) ∧ Below (wide W2 q).heap.size (wide W2 q) w') (fun e w' h => ⟨h.1, h.2.below⟩)
  simp only [M.val, sendV] at hsend
  have hW2z : Hid ((w.alloc (.cells #[.int .i64 m.k.t, .int .i64 m.k.f, .int .i64 m.k.s, .int .i64 m.to, .int .i64 m.v, .int .i64 m.u, .bool m.anti] 34)).alloc (.cells #[.int .i64 0, .int .i64 0, .int .i64 0, .int .i64 0, .int .i64 0, .int .i64 0, .bool false] 34) = W2) := by
    rw [hW2, hW1]
    rfl
  have hs1 : Hid ((w.alloc (.cells #[.int .i64 m.k.t, .int .i64 m.k.f, .int .i64 m.k.s, .int .i64 m.to, .int .i64 m.v, .int .i64 m.u, .bool m.anti] 34)).heap.size = w.heap.size + 1) := by
    show _ = _
    simp
  have hm' := Lib.hid hm
  have hp' := Lib.hid hp
  have hU' := Lib.hid hU
  clear hW2 hW1 hb1 hb2 s1 hm2 hz2 hr2 hr hk hml y0 y1 y2 y3 y4 y5 y6 hm hp hU hgl
  simp only [M.val]
  go_enter Try.func34, Try.ntmps34
  go_upto_region 1 with (fail)
  rw [hW2z.out]
  refine wp_region_wide_tail 6 (by kernel_rfl) (by kernel_rfl) ?_
  simp only [List.take_succ_cons, List.take_zero, List.drop_succ_cons, List.drop_zero]
  repeat (quiet_step (exact Calls.wide_of (hsend _)))
  refine wpQuiet_nil ?_
  refine wide_all fun W3 hb3 => ?_
  clear x0 x1 x2 x3 x4 x5 x6 c1 hsend
  obtain ⟨hk3, hst⟩ := hfin.out W3 hb3
  have hst := Lib.hid hst
  clear hfin hb3
  go_upto_region 2 with ((refine wpList_delete_keys rfl _ _ rfl m rfl rfl hk3 hm'.out hp'.out hU'.out ?_; intro w4 k4 o4; have hQ := hst.out w4 k4 o4; clear k4 o4))
  obtain ⟨⟨-, x0, x1, x2, x3, x4, x5, x6⟩, hz4, hR4⟩ := hQ
  simp only [Nat.zero_add] at x0 x1 x2 x3 x4 x5 x6
  clear hst hk3
  go_wp2_with (refine wpList_store_row rfl 34 (.tmp 4) (.tmp 11) rfl (w.heap.size + 1) m.cells rfl rfl 34 zeroM.cells hz4.out infoS rfl (M.cells_one m) ?_)
  obtain ⟨-, s0, s1, s2, s3, s4, s5, s6⟩ := (hz4.out.row m).at
  simp only [Nat.zero_add] at s0 s1 s2 s3 s4 s5 s6
  exact bodyPost_ret (v := m.val) (by simp [results, Try.results34, go_sem, s0, s1, s2, s3, s4, s5, s6, M.val]) rfl ⟨rfl, hR4⟩
end Go.Proofs.Ytcfpfbemmklbaaa
