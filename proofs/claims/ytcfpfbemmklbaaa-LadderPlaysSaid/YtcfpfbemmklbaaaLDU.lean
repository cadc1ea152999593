/-
  A ladder: New, forget, First, Pop.
  A ladder: First, Pop.
  Rungs: each by its number; all messages, sorted.
  Rungs: the message of a sending taken out.
  A ladder: All.
  A ladder: Cut.
  A ladder: Push.
-/
import Derived.Test.YtcfpfbemmklbaaaLDQ
import Derived.Deep.LoopGhost
namespace Go.Proofs.Ytcfpfbemmklbaaa
open Go.ChangeShapes Go.WideShapes Go.ChangeAt Go.Shelf Go.RowKit Go.Lib Go.Sort Go.Deep Go.Maps
set_option linter.unusedVariables false

/-- The blocks of a new ladder. -/
def newS (w : World) : Nat → Prop := fun k => w.heap.size ≤ k ∧ k < w.heap.size + 3
theorem newRungs_any (w : World) (most : Int) : Calls Try.prog 20 #[.int .i64 most] w fun e w' => e = .returned (.pointer (some ⟨w.heap.size, 0, none⟩)) ∧ w' = w.alloc (.cells #[.slice none 0 0, .int .i64 most, .slice none 0 0] 82) := by
  go_enter Try.func20, Try.ntmps20
  go_wp2
  go_ret
  exact ⟨rfl, rfl⟩
set_option maxHeartbeats 1000000 in
theorem hNew_any (w : World) {W : Int} (hW : 1 ≤ W ∧ W ≤ 16384) (hwf : (Lit.int .i64 W).wf = true) : Calls Try.prog 8 #[.int .i64 W] w fun e w' => e = .returned (.tuple #[.pointer (some ⟨w.heap.size + 2, 0, none⟩), .int .i64 0]) ∧ Hid (CalAt w' (w.heap.size + 2) (newS w) [] ∧ Below w.heap.size w w') := by
  have hmm := @run_makeMap Try.prog
  have hW1 : ¬ W < 1 := by omega
  have hW2 : ¬ 16384 < W := by omega
  obtain ⟨b, hb⟩ : ∃ b, b = w.heap.size := ⟨_, rfl⟩
  obtain ⟨w1, h1⟩ : ∃ w1, w1 = w.alloc (.cells #[.slice none 0 0, .int .i64 W, .slice none 0 0] 82) := ⟨_, rfl⟩
  have z1 : w1.heap.size = b + 1 := by rw [h1, hb]; simp
  obtain ⟨w2, h2⟩ : ∃ w2, w2 = w1.alloc (.map #[] 0) := ⟨_, rfl⟩
  have z2 : w2.heap.size = b + 2 := by rw [h2]; simp [z1]
  obtain ⟨w3, h3⟩ : ∃ w3, w3 = w2.alloc (.cells #[.pointer (some ⟨b, 0, none⟩), .map (some (b + 1))] 55) := ⟨_, rfl⟩
  have z3 : w3.heap.size = b + 3 := by rw [h3]; simp [z2]
  have hB : Below w.heap.size w w3 := by
    rw [h3, h2, h1]
    exact (((Below.refl _ w).alloc (Nat.le_refl _) _).alloc (by simp) _).alloc (by simp; omega) _
  have b13 : Below w1.heap.size w1 w3 := by rw [h3, h2]; exact ((Below.refl _ w1).alloc (Nat.le_refl _) _).alloc (by simp) _
  have b23 : Below w2.heap.size w2 w3 := by rw [h3]; exact (Below.refl _ w2).alloc (Nat.le_refl _) _
  have r3 : w3.heap[b]? = some (.cells #[.slice none 0 0, .int .i64 W, .slice none 0 0] 82 (0, 0)) := by
    rw [b13.block b (by omega), h1, hb]
    exact heap_alloc_new w _
  have k3 : KeysAt w3 (b + 1) [] := by
    have := KeysAt.made w1
    rw [← h2, z1] at this
    exact this.below' b23
  have c3 : LadRow w3 (b + 2) b (b + 1) := by
    unfold LadRow
    rw [h3, ← z2]
    exact heap_alloc_new w2 _
  have hQ : Hid (CalAt w3 (w.heap.size + 2) (newS w) [] ∧ Below w.heap.size w w3) := by
    refine ⟨⟨b, b + 1, W, .slice none 0 0, .slice none 0 0, [], [], { row := by rw [← hb]; exact c3, rungs := ⟨r3, RowAt.nil _ _ _, RowAt.nil _ _ _, fun u h => (by cases h), List.pairwise_singleton _ _⟩, stairs := ⟨List.Pairwise.nil, fun x hx => (by cases hx), Steps.nil, fun _ => rfl⟩, same := List.Perm.refl _, o := List.Pairwise.nil, u := List.Pairwise.nil, fits := fun m h => (by cases h), small := by simp, most1 := hW.1, keys := k3 }, ?_, ?_⟩, hB⟩
    · unfold newS
      rintro k (e | e | e | e | e | ⟨u, hu, e⟩)
      · omega
      · omega
      · omega
      · cases e
      · cases e
      · cases hu
    · unfold newS
      intro k hk
      omega
  rw [h3, h2, h1, hb] at hQ
  clear r3 k3 c3 b13 b23 hB z3 z2 z1 h3 h2 h1 hwf
  have hnr := newRungs_any w W
  go_enter Try.func8, Try.ntmps8
  go_wp2_with (go_at_call 20; refine hnr.mono ?_; rintro e w1 ⟨rfl, rfl⟩)
  go_ret2
  exact ⟨rfl, hQ.out⟩
theorem hNew_no (w : World) {W : Int} (hW : W < 1 ∨ 16384 < W) : Calls Try.prog 8 #[.int .i64 W] w fun e w' => e = .returned (.tuple #[.pointer none, .int .i64 1]) ∧ w = w' := by
  by_cases h1 : W < 1
  · clear hW
    go_enter Try.func8, Try.ntmps8
    go_wp2
    go_ret2
    exact ⟨rfl, rfl⟩
  · have h2 : 16384 < W := by omega
    clear hW
    go_enter Try.func8, Try.ntmps8
    go_wp2
    go_ret2
    exact ⟨rfl, rfl⟩
theorem eqErr (a b : Int) (w : World) : Sem.run Try.prog (binOp .neq 24 (.int .i64 a) (.int .i64 b)) w = .ok (.bool (!decide (a = b))) w := by
  go_simp
  try (by_cases h : a = b <;> simp [h])

set_option maxHeartbeats 4000000 in
set_option maxRecDepth 100000 in
theorem forget_any {w : World} {hb rb mb : Nat} {T T' : List M} (hr : LadRow w hb rb mb) (hk : KeysAt w mb T) (m : M) (hm : m.fits) (hp : (m :: T').Perm T) (hU : Unlike T) :
    Calls Try.prog 34 #[.pointer (some ⟨hb, 0, none⟩), m.val] w fun e w' => e = .returned m.val ∧ Hid (KeysAt w' mb T' ∧ KeptOff (fun k => k = mb) w w') := by
  have mixed := mixed
  obtain ⟨W1, hW1⟩ : ∃ W1, W1 = w.alloc (.cells m.cells 34) := ⟨_, rfl⟩
  obtain ⟨W2, hW2⟩ : ∃ W2, W2 = W1.alloc (.cells zeroM.cells 34) := ⟨_, rfl⟩
  have s1 : W1.heap.size = w.heap.size + 1 := by rw [hW1]; simp
  have hb1 : Below w.heap.size w W1 := by rw [hW1]; exact (Below.refl _ w).alloc (Nat.le_refl _) _
  have hb2 : Below w.heap.size w W2 := by rw [hW2]; exact hb1.alloc hb1.size _
  have hm2 : BoxM W2 w.heap.size m := by rw [hW2, hW1]; exact (BoxM.mk w m).below ((Below.refl _ _).alloc (Nat.le_refl _) _)
  have hz2 : BoxM W2 (w.heap.size + 1) zeroM := by rw [hW2, ← s1]; exact BoxM.mk W1 zeroM
  have hr2 : LadRow W2 hb rb mb := (hb2.block hb hr.lt).trans hr
  have hml := hk.lt
  have hfin : Hid (∀ W3, Below W2.heap.size W2 W3 → KeysAt W3 mb T ∧ ∀ w4, Hid (KeysAt w4 mb T') → Hid (KeptOff (fun k => k = mb) W3 w4) → MsgAt w4 w.heap.size 0 m ∧ Hid (BoxM w4 (w.heap.size + 1) zeroM) ∧ Hid (KeysAt (w4.setRow (w.heap.size + 1) m.cells) mb T' ∧ KeptOff (fun k => k = mb) w (w4.setRow (w.heap.size + 1) m.cells))) := by
    intro W3 hb3
    have hb03 := hb2.trans (hb3.mono hb2.size)
    refine ⟨hk.below' hb03, fun w4 k4 o4 => ?_⟩
    have hm4 := (hm2.below hb3).kept o4.out (by omega)
    have hz4 := (hz2.below hb3).kept o4.out (by omega)
    have k5 := KeptOff.row w4 (w.heap.size + 1) m.cells
    exact ⟨hm4.at, hz4, k4.out.kept k5 (by omega), ((KeptOff.of_below hb03).trans o4.out).then_new k5 (fun k hk e => by omega)⟩
  have hgl := hm2.lt
  obtain ⟨-, y0, y1, y2, y3, y4, y5, y6⟩ := hm2.at
  simp only [Nat.zero_add] at y0 y1 y2 y3 y4 y5 y6
  have x0 := fun q => wide_cell (w := W2) q hgl y0
  have x1 := fun q => wide_cell (w := W2) q hgl y1
  have x2 := fun q => wide_cell (w := W2) q hgl y2
  have x3 := fun q => wide_cell (w := W2) q hgl y3
  have x4 := fun q => wide_cell (w := W2) q hgl y4
  have x5 := fun q => wide_cell (w := W2) q hgl y5
  have x6 := fun q => wide_cell (w := W2) q hgl y6
  have c1 := fun q => wide_cell (w := W2) (a := ⟨hb, 1, none⟩) q hr2.lt hr2.c1
  have hsend := fun q : WB => (sending_any m (wide W2 q)).mono (R' := fun e w' => e = .returned (sendV m.k.f m.u) ∧ Below (wide W2 q).heap.size (wide W2 q) w') (fun e w' h => ⟨h.1, h.2.below⟩)
  simp only [M.val, sendV] at hsend
  have hW2z : Hid ((w.alloc (.cells #[.int .i64 m.k.t, .int .i64 m.k.f, .int .i64 m.k.s, .int .i64 m.to, .int .i64 m.v, .int .i64 m.u, .bool m.anti] 34)).alloc (.cells #[.int .i64 0, .int .i64 0, .int .i64 0, .int .i64 0, .int .i64 0, .int .i64 0, .bool false] 34) = W2) := by
    rw [hW2, hW1]
    rfl
  have hs1 : Hid ((w.alloc (.cells #[.int .i64 m.k.t, .int .i64 m.k.f, .int .i64 m.k.s, .int .i64 m.to, .int .i64 m.v, .int .i64 m.u, .bool m.anti] 34)).heap.size = w.heap.size + 1) := by
    show _ = _
    simp
  have hm' := Lib.hid hm
  have hp' := Lib.hid hp
  have hU' := Lib.hid hU
  clear hW2 hW1 hb1 hb2 s1 hm2 hz2 hr2 hr hk hml y0 y1 y2 y3 y4 y5 y6 hm hp hU hgl
  simp only [M.val]
  go_enter Try.func34, Try.ntmps34
  go_upto_region 1 with (fail)
  rw [hW2z.out]
  refine wp_region_wide_tail 6 (by kernel_rfl) (by kernel_rfl) ?_
  simp only [List.take_succ_cons, List.take_zero, List.drop_succ_cons, List.drop_zero]
  repeat (quiet_step (exact Calls.wide_of (hsend _)))
  refine wpQuiet_nil ?_
  refine wide_all fun W3 hb3 => ?_
  clear x0 x1 x2 x3 x4 x5 x6 c1 hsend
  obtain ⟨hk3, hst⟩ := hfin.out W3 hb3
  have hst := Lib.hid hst
  clear hfin hb3
  go_upto_region 2 with ((refine wpList_delete_keys rfl _ _ rfl m rfl rfl hk3 hm'.out hp'.out hU'.out ?_; intro w4 k4 o4; have hQ := hst.out w4 k4 o4; clear k4 o4))
  obtain ⟨⟨-, x0, x1, x2, x3, x4, x5, x6⟩, hz4, hR4⟩ := hQ
  simp only [Nat.zero_add] at x0 x1 x2 x3 x4 x5 x6
  clear hst hk3
  go_wp2_with (refine wpList_store_row rfl 34 (.tmp 4) (.tmp 11) rfl (w.heap.size + 1) m.cells rfl rfl 34 zeroM.cells hz4.out infoS rfl (M.cells_one m) ?_)
  obtain ⟨-, s0, s1, s2, s3, s4, s5, s6⟩ := (hz4.out.row m).at
  simp only [Nat.zero_add] at s0 s1 s2 s3 s4 s5 s6
  exact bodyPost_ret (v := m.val) (by simp [results, Try.results34, go_sem, s0, s1, s2, s3, s4, s5, s6, M.val]) rfl ⟨rfl, hR4⟩
end Go.Proofs.Ytcfpfbemmklbaaa
namespace Go.Proofs.Ytcfpfbemmklbaaa
open Go.ChangeShapes Go.WideShapes Go.ChangeAt Go.Shelf Go.RowKit Go.Lib Go.Sort Go.Deep Go.Maps
set_option linter.unusedVariables false

/-- Behind a message taken out of the rungs, and forgotten. -/
theorem LadOf.gone {w w2 : World} {hb rb mb : Nat} {most : Int} {bv av : Value} {B : List M} {us : List Up} {T T' : List M} {m : M} (h : LadOf w hb rb mb most bv av B us T) (hp : (m :: T').Perm T) (hO : InOrder ltM T') (ht : Taken w rb most bv av us (held B us) m w2) :
    LadRow w2 hb rb mb ∧ KeysAt w2 mb T ∧ KeptOff (ROwn rb bv av us) w w2 ∧ ∀ w3, KeysAt w3 mb T' → KeptOff (fun k => k = mb) w2 w3 → ∃ bv' av' B' us', LadOf w3 hb rb mb most bv' av' B' us' T' ∧ KeptOff (LOwn hb rb mb bv av us) w w3 ∧ ∀ k, LOwn hb rb mb bv' av' us' k → LOwn hb rb mb bv av us k ∨ w.heap.size ≤ k := by
  obtain ⟨B', us', bv', av', hr, hS, hp2⟩ := ht
  have hhb : ¬ ROwn rb bv av us hb := fun e => (h.off e).1 rfl
  have hmb : ¬ ROwn rb bv av us mb := fun e => (h.off e).2 rfl
  have r2 : LadRow w2 hb rb mb := (hr.2.1.block hb h.row.lt hhb).trans h.row
  have k2 := h.keys.kept hr.2.1 hmb
  refine ⟨r2, k2, hr.2.1, fun w3 k3 o3 => ⟨bv', av', B', us', ?_, (hr.2.1.mono (fun k _ e => .inr (.inr e))).then_new o3 (fun k _ e => .inr (.inl e)), ?_⟩⟩
  · have hml := h.keys.lt
    have hnm : ∀ k, ROwn rb bv' av' us' k → ¬ k = mb := fun k e e2 => by
      obtain ⟨cur, t, h1, -⟩ := hr.1.tags e
      obtain ⟨es, c, hm⟩ := k2.tag
      rw [e2, hm] at h1
      cases h1
    have hlen := hp.length_eq
    have hsm := h.small
    rw [List.length_cons] at hlen
    exact { row := (o3.block hb r2.lt h.hb_mb).trans r2, rungs := hr.1.kept o3 hnm, stairs := hS, same := List.Perm.cons_inv (hp2.trans (h.same.trans hp.symm)), o := hO, u := h.u.rest hp, fits := fun x hx => h.fits x (hp.mem_iff.1 (List.mem_cons_of_mem _ hx)), small := by omega, most1 := h.most1, keys := k3 }
  · rintro k (e | e | e)
    · exact .inl (.inl e)
    · exact .inl (.inr (.inl e))
    · exact (hr.2.2 k e).imp (fun e => .inr (.inr e)) id
/-- .. and the result's store. -/
theorem CalAt.of_gone {w W0 w3 : World} {hb rb mb : Nat} {most : Int} {bv av bv' av' : Value} {B' : List M} {us us' : List Up} {T' : List M} {S : Nat → Prop} (hS : ∀ k, LOwn hb rb mb bv av us k → S k) (hSl : ∀ k, S k → k < w.heap.size) (hb0 : Below w.heap.size w W0) (hlt : w.heap.size < W0.heap.size)
    (h : LadOf w3 hb rb mb most bv' av' B' us' T') (hk : KeptOff (LOwn hb rb mb bv av us) W0 w3) (ho : ∀ k, LOwn hb rb mb bv' av' us' k → LOwn hb rb mb bv av us k ∨ W0.heap.size ≤ k) (cs : Array Value) :
    ∃ S', CalAt (w3.setRow w.heap.size cs) hb S' T' ∧ CStep w (w3.setRow w.heap.size cs) S S' := by
  have k := KeptOff.row w3 w.heap.size cs
  refine ⟨fun k => S k ∨ (W0.heap.size ≤ k ∧ k < w3.heap.size), ⟨rb, mb, most, bv', av', B', us', h.kept k (fun k hk e => ?_), fun k hk => ?_, fun j hj => ?_⟩, ((KeptOff.of_below hb0).trans (hk.mono (fun k _ e => hS k e))).then_new k (fun k hk e => by omega), fun k e => e.imp id (fun e => by omega)⟩
  · rcases ho k hk with e2 | e2
    · have := hSl k (hS k e2); omega
    · omega
  · exact (ho k hk).imp (fun e => hS k e) (fun e => ⟨e, h.own_lt hk⟩)
  · have h3 := k.size
    have h2 := hk.size
    rcases hj with e | e
    · have := hSl j e; have := hb0.size; omega
    · omega
theorem CalAt.front {w : World} {hb rb mb : Nat} {most : Int} {bv av : Value} {B : List M} {us : List Up} {m : M} {T : List M} (h : LadOf w hb rb mb most bv av B us (m :: T)) : ∃ B', B = m :: B' := h.stairs.first h.same h.o h.u

set_option maxHeartbeats 1000000 in
theorem hFirst_none {w : World} {hb : Nat} {S : Nat → Prop} (h : CalAt w hb S []) :
    Calls Try.prog 19 #[.pointer (some ⟨hb, 0, none⟩)] w fun e w' => e = .returned (.tuple #[zeroM.val, .int .i64 6]) ∧ Below w.heap.size w w' := by
  obtain ⟨rb, mb, most, bv, av, B, us, h1, -, -⟩ := h
  have hr := refusal_any (h1.below ((Below.refl _ w).alloc (Nat.le_refl _) (.cells #[.int .i64 0, .int .i64 0, .int .i64 0, .int .i64 0, .int .i64 0, .int .i64 0, .bool false] 34))).row (h1.below ((Below.refl _ w).alloc (Nat.le_refl _) (.cells #[.int .i64 0, .int .i64 0, .int .i64 0, .int .i64 0, .int .i64 0, .int .i64 0, .bool false] 34))).keys
  simp only [if_true] at hr
  clear h1
  go_enter Try.func19, Try.ntmps19
  go_wp2_with (go_at_call 33; refine hr.mono ?_; rintro e w' ⟨rfl, rfl⟩)
  refine bodyPost_ret (v := .tuple #[.agg #[.int .i64 0, .int .i64 0, .int .i64 0, .int .i64 0, .int .i64 0, .int .i64 0, .bool false], .int .i64 6]) (by simp [results, Try.results19, go_sem]) rfl ⟨rfl, ?_⟩
  repeat (refine Below.setCell ?_ (by simp) _)
  exact (Below.refl _ w).alloc (Nat.le_refl _) _

set_option maxHeartbeats 1000000 in
theorem hFirst_some {w : World} {hb : Nat} {S : Nat → Prop} {m : M} {T : List M} (h : CalAt w hb S (m :: T)) :
    Calls Try.prog 19 #[.pointer (some ⟨hb, 0, none⟩)] w fun e w' => e = .returned (.tuple #[m.val, .int .i64 0]) ∧ Below w.heap.size w w' := by
  obtain ⟨W0, hW0⟩ : ∃ W0, W0 = w.alloc (.cells #[.int .i64 0, .int .i64 0, .int .i64 0, .int .i64 0, .int .i64 0, .int .i64 0, .bool false] 34) := ⟨_, rfl⟩
  have hB0 : Hid (Below w.heap.size w W0) := by rw [hW0]; exact (Below.refl _ w).alloc (Nat.le_refl _) _
  have hR0 : Hid (BoxM W0 w.heap.size zeroM) := by rw [hW0]; exact BoxM.mk w zeroM
  obtain ⟨rb, mb, most, bv, av, B, us, h1, -, -⟩ := h
  have h0 := h1.below hB0.out
  have hr := refusal_any h0.row h0.keys
  simp only [reduceCtorEq, if_false] at hr
  obtain ⟨B', hB'⟩ := CalAt.front h0
  have hf := first_any h0.rungs (by rw [hB']; simp)
  have hbm : B.getD 0 default = m := by rw [hB']; rfl
  rw [hbm] at hf
  have c0 := h0.row.c0
  have hr' := Lib.hid hr
  have hf' := Lib.hid hf
  clear h1 h0 hr hf hbm hB'
  go_enter Try.func19, Try.ntmps19
  go_upto_region 1 with (fail)
  rw [← hW0]
  clear hW0
  go_wp2_with (first
    | (go_at_call 33; refine hr'.out.mono ?_; rintro e w' ⟨rfl, rfl⟩)
    | (go_at_call 37; refine hf'.out.mono ?_; rintro e w3 ⟨rfl, hb3⟩; have hR3 := Lib.hid (hR0.out.below hb3); have hb3' := Lib.hid hb3; clear hb3)
    | (refine wpList_store_row rfl 34 (.tmp 2) (.tmp 17) rfl w.heap.size m.cells rfl rfl 34 zeroM.cells hR3.out infoS rfl (M.cells_one m) ?_))
  obtain ⟨-, s0, s1, s2, s3, s4, s5, s6⟩ := (hR3.out.row m).at
  simp only [Nat.zero_add] at s0 s1 s2 s3 s4 s5 s6
  refine bodyPost_ret (v := .tuple #[m.val, .int .i64 0]) (by simp [results, Try.results19, go_sem, s0, s1, s2, s3, s4, s5, s6, M.val]) rfl ⟨rfl, ?_⟩
  exact below_setRow (hB0.out.trans (hb3'.out.mono hB0.out.size)) (Nat.le_refl _) _

set_option maxHeartbeats 1000000 in
theorem hPop_none {w : World} {hb : Nat} {S : Nat → Prop} (h : CalAt w hb S []) :
    Calls Try.prog 17 #[.pointer (some ⟨hb, 0, none⟩)] w fun e w' => e = .returned (.tuple #[zeroM.val, .int .i64 6]) ∧ Below w.heap.size w w' := by
  obtain ⟨rb, mb, most, bv, av, B, us, h1, -, -⟩ := h
  have hr := refusal_any (h1.below ((Below.refl _ w).alloc (Nat.le_refl _) (.cells #[.int .i64 0, .int .i64 0, .int .i64 0, .int .i64 0, .int .i64 0, .int .i64 0, .bool false] 34))).row (h1.below ((Below.refl _ w).alloc (Nat.le_refl _) (.cells #[.int .i64 0, .int .i64 0, .int .i64 0, .int .i64 0, .int .i64 0, .int .i64 0, .bool false] 34))).keys
  simp only [if_true] at hr
  clear h1
  go_enter Try.func17, Try.ntmps17
  go_wp2_with (go_at_call 33; refine hr.mono ?_; rintro e w' ⟨rfl, rfl⟩)
  refine bodyPost_ret (v := .tuple #[.agg #[.int .i64 0, .int .i64 0, .int .i64 0, .int .i64 0, .int .i64 0, .int .i64 0, .bool false], .int .i64 6]) (by simp [results, Try.results17, go_sem]) rfl ⟨rfl, ?_⟩
  repeat (refine Below.setCell ?_ (by simp) _)
  exact (Below.refl _ w).alloc (Nat.le_refl _) _

set_option maxHeartbeats 1000000 in
theorem hPop_some {w : World} {hb : Nat} {S : Nat → Prop} {m : M} {T : List M} (h : CalAt w hb S (m :: T)) :
    Calls Try.prog 17 #[.pointer (some ⟨hb, 0, none⟩)] w fun e w' => e = .returned (.tuple #[m.val, .int .i64 0]) ∧ ∃ S', CalAt w' hb S' T ∧ CStep w w' S S' := by
  obtain ⟨W0, hW0⟩ : ∃ W0, W0 = w.alloc (.cells #[.int .i64 0, .int .i64 0, .int .i64 0, .int .i64 0, .int .i64 0, .int .i64 0, .bool false] 34) := ⟨_, rfl⟩
  have hB0 : Hid (Below w.heap.size w W0) := by rw [hW0]; exact (Below.refl _ w).alloc (Nat.le_refl _) _
  have hR0 : Hid (BoxM W0 w.heap.size zeroM) := by rw [hW0]; exact BoxM.mk w zeroM
  have hs0 : w.heap.size < W0.heap.size := hR0.out.lt
  obtain ⟨rb, mb, most, bv, av, B, us, h1, hS, hSl⟩ := h
  have h0 := h1.below hB0.out
  have hr := refusal_any h0.row h0.keys
  simp only [reduceCtorEq, if_false] at hr
  obtain ⟨B', hB'⟩ := CalAt.front h0
  have hbm : B.getD 0 default = m := by rw [hB']; rfl
  have hlen := h0.hlen
  have hsm := h0.small
  have hpop : Hid (Calls Try.prog 35 #[.pointer (some ⟨rb, 0, none⟩)] W0 fun e w2 => e = .returned m.val ∧ Hid (Calls Try.prog 34 #[.pointer (some ⟨hb, 0, none⟩), m.val] w2 fun e w3 => e = .returned m.val ∧ Hid (BoxM w3 w.heap.size zeroM ∧ ∃ S', CalAt (w3.setRow w.heap.size m.cells) hb S' T ∧ CStep w (w3.setRow w.heap.size m.cells) S S'))) := by
    refine (pop_any h0.rungs h0.stairs h0.hU h0.most1 (by omega) (by rw [hB']; simp)).mono ?_
    rintro e w2 ⟨he, ht⟩
    rw [hbm] at he ht
    obtain ⟨r2, k2, o2, hnext⟩ := h0.gone (List.Perm.refl _) (List.pairwise_cons.1 h0.o).2 ht
    refine ⟨he, (forget_any r2 k2 m (h0.fits m (List.mem_cons_self ..)) (List.Perm.refl _) h0.u).mono ?_⟩
    rintro e w3 ⟨he, hq⟩
    obtain ⟨k3, o3⟩ := hq.out
    obtain ⟨bv', av', B'', us', h3, hk3, ho3⟩ := hnext w3 k3 o3
    have hz3 : BoxM w3 w.heap.size zeroM := hR0.out.kept hk3 (fun e => by have := h1.own_lt e; omega)
    exact ⟨he, hz3, CalAt.of_gone hS hSl hB0.out hs0 h3 hk3 ho3 _⟩
  have c0 := h0.row.c0
  rw [show m.val = .agg #[.int .i64 m.k.t, .int .i64 m.k.f, .int .i64 m.k.s, .int .i64 m.to, .int .i64 m.v, .int .i64 m.u, .bool m.anti] from rfl] at hpop
  have hr' := Lib.hid hr
  clear h1 h0 hr hS hSl hB' hbm hlen hsm hs0
  go_enter Try.func17, Try.ntmps17
  go_upto_region 1 with (fail)
  rw [← hW0]
  clear hW0
  go_wp2_with (first
    | (go_at_call 33; refine hr'.out.mono ?_; rintro e w' ⟨rfl, rfl⟩)
    | (go_at_call 35; refine hpop.out.mono ?_; rintro e w2 ⟨rfl, hfg⟩)
    | (go_at_call 34; refine hfg.out.mono ?_; rintro e w3 ⟨rfl, hQ3⟩)
    | (refine wpList_store_row rfl 34 (.tmp 2) (.tmp 17) rfl w.heap.size m.cells rfl rfl 34 zeroM.cells hQ3.out.1 infoS rfl (M.cells_one m) ?_))
  obtain ⟨-, s0, s1, s2, s3, s4, s5, s6⟩ := (hQ3.out.1.row m).at
  simp only [Nat.zero_add] at s0 s1 s2 s3 s4 s5 s6
  exact bodyPost_ret (v := .tuple #[m.val, .int .i64 0]) (by simp [results, Try.results17, go_sem, s0, s1, s2, s3, s4, s5, s6, M.val]) rfl ⟨rfl, hQ3.out.2⟩
end Go.Proofs.Ytcfpfbemmklbaaa
namespace Go.Proofs.Ytcfpfbemmklbaaa
open Go.ChangeShapes Go.WideShapes Go.ChangeAt Go.Shelf Go.RowKit Go.Lib Go.Sort Go.Deep
set_option linter.unusedVariables false

/-- Where a new slice lies. -/
def FreshA (B len : Nat) (a : Option Addr) : Prop := len = 0 ∨ ∃ g, a = some ⟨g, 0, none⟩ ∧ B ≤ g
theorem sort_qn {w w1 : World} {a' : Option Addr} {len cap' : Nat} {ms : List M} (hlen : ms.length = len) (hfit : ∀ m ∈ ms, m.fits) (hr : len * 56 ≤ 140737488351232) (h : CloneQ w ms len a' cap' w1) :
    Calls Try.prog 48 #[.slice a' len cap', .func (.func 31) #[] #[]] w1 fun e w' => e = .returned (.tuple #[]) ∧ Aside ((Msgs w' a' len cap' (stab ltM ms) ∧ Below w.heap.size w w') ∧ FreshA w.heap.size len a') := by
  have hF : FreshA w.heap.size len a' := by
    obtain ⟨_, _, _, h4⟩ := h
    exact h4.imp id (fun ⟨g, e, hg, _⟩ => ⟨g, e, hg⟩)
  exact (sort_q hlen hfit hr h).mono fun e w' h' => ⟨h'.1, h'.2.out, hF⟩
theorem sortedBy_new {w : World} {a : Option Addr} {len cap : Nat} {ms : List M} (h : Msgs w a len cap ms) (hr : len * 56 ≤ 140737488351232) :
    Calls Try.prog 30 #[.slice a len cap, .func (.func 31) #[] #[]] w fun e w' => ∃ a' cap', e = .returned (.slice a' len cap') ∧ Aside ((Msgs w' a' len cap' (stab ltM ms) ∧ Below w.heap.size w w') ∧ FreshA w.heap.size len a') := by
  have hc := clone_any h hr
  have hs := fun a' cap' w1 (hq : Aside (CloneQ w ms len a' cap' w1)) => sort_qn h.1 h.2.2.2.1 hr hq.out
  clear h hr
  go_enter Try.func30, Try.ntmps30
  go_wp2_with (first | (go_at_call 47; refine hc.mono ?_; rintro e w1 ⟨a', cap', rfl, hq⟩) | (go_at_call 48; refine (hs _ _ _ (by assumption)).mono ?_; rintro e w2 ⟨rfl, hT⟩))
  go_ret
  exact ⟨a', cap', rfl, hT⟩
theorem eSorted_new {w : World} {a : Option Addr} {len cap : Nat} {ms : List M} (h : Msgs w a len cap ms) (hr : len * 56 ≤ 140737488351232) :
    Calls Try.prog 16 #[.slice a len cap] w fun e w' => ∃ a' cap', e = .returned (.slice a' len cap') ∧ Aside ((Msgs w' a' len cap' (stab ltM ms) ∧ Below w.heap.size w w') ∧ FreshA w.heap.size len a') := by
  have hc := sortedBy_new h hr
  clear h hr
  go_enter Try.func16, Try.ntmps16
  go_wp2_with (go_at_call 30; refine hc.mono ?_; rintro e w1 ⟨a', cap', rfl, hq⟩)
  go_ret
  exact ⟨a', cap', rfl, hq⟩


/-- The first k lists. -/
def upTo (L : Nat → List M) (k : Nat) : List M := (List.range k).flatMap L
theorem upTo_succ (L : Nat → List M) (k : Nat) : upTo L (k + 1) = upTo L k ++ L k := by simp [upTo, List.range_succ]
theorem upTo_mono (L : Nat → List M) (j : Nat) : ∀ k, j ≤ k → (upTo L j).length ≤ (upTo L k).length
  | 0, h => by rw [show j = 0 by omega]; exact Nat.le_refl _
  | k + 1, h => by
    by_cases e : j = k + 1
    · rw [e]; exact Nat.le_refl _
    · have := upTo_mono L j k (by omega)
      rw [upTo_succ, List.length_append]
      omega
theorem upTo_congr {L L' : Nat → List M} : ∀ k, (∀ i, i < k → L i = L' i) → upTo L k = upTo L' k
  | 0, _ => rfl
  | k + 1, h => by rw [upTo_succ, upTo_succ, upTo_congr k (fun i hi => h i (by omega)), h k (by omega)]
theorem upTo_rungs : ∀ us : List Up, upTo (fun i => (us.getD i default).L) us.length = us.flatMap Up.L := by
  intro us
  have e : us = (List.range us.length).map (fun i => us.getD i default) := by
    apply List.ext_getElem
    · simp
    · intro i h1 h2
      simp [List.getD_eq_getElem?_getD, h1]
  conv => rhs; rw [e]
  rw [List.flatMap_map]
  rfl
/-- The rungs by their numbers. -/
def Rungs (w : World) (rb N : Nat) (kb ko : Nat → Nat) (V : Nat → Value) (L : Nat → List M) : Prop :=
  ∀ k, k ≤ N → ∀ W, Below w.heap.size w W → Calls Try.prog 40 #[.pointer (some ⟨rb, 0, none⟩), .int .i64 k] W (fun e w' => e = .returned (.pointer (some ⟨kb k, ko k, none⟩)) ∧ W = w') ∧ W.cell? ⟨kb k, ko k, none⟩ = some (V k) ∧ AtM W (V k) (L k)
theorem rungs_by {w : World} {rb : Nat} {most : Int} {bv av : Value} {B : List M} {us : List Up} (h : RungsOf w rb most bv B av us) :
    ∃ kb ko V L, Rungs w rb us.length kb ko V L ∧ (∀ k, k < us.length → L k = (us.getD k default).L) ∧ L us.length = B := by
  by_cases h0 : us.length = 0
  · refine ⟨fun _ => rb, fun _ => 0, fun _ => bv, fun _ => B, fun k hk W hb => ?_, fun k hk => by omega, rfl⟩
    have h1 := h.below hb
    obtain ⟨aa, acap, hav, -⟩ := RowAt.shape h1.abv
    have c2 := h1.c2
    rw [hav] at c2
    obtain rfl : k = us.length := by omega
    exact ⟨at_bot c2, h1.c0, h1.bot⟩
  · obtain ⟨ag, aoff, acap, hav, -⟩ := AtU.form h.abv (by omega)
    refine ⟨fun k => if k < us.length then ag else rb, fun k => if k < us.length then aoff + k * 8 else 0, fun k => if k < us.length then (us.getD k default).v else bv, fun k => if k < us.length then (us.getD k default).L else B, fun k hk W hb => ?_, fun k hk => if_pos hk, if_neg (by omega)⟩
    have h1 := h.below hb
    have c2 := h1.c2
    rw [hav] at c2
    by_cases hlt : k < us.length
    · simp only [if_pos hlt]
      have hR : RowU W ag aoff acap us := by
        obtain ⟨g', off', cap', e, hRU⟩ := AtU.form h1.abv (by omega)
        rw [hav] at e
        obtain ⟨⟨rfl, rfl⟩, rfl⟩ : (ag = g' ∧ aoff = off') ∧ acap = cap' := by simpa using e
        exact hRU
      refine ⟨at_up c2 k hlt, hR.slot k hlt, h1.each _ ?_⟩
      rw [getD_at us k hlt]
      exact List.getElem_mem hlt
    · simp only [if_neg hlt]
      obtain rfl : k = us.length := by omega
      exact ⟨at_bot c2, h1.c0, h1.bot⟩
theorem rungs_all {B : List M} {us : List Up} {L : Nat → List M} (h1 : ∀ k, k < us.length → L k = (us.getD k default).L) (h2 : L us.length = B) : upTo L (us.length + 1) = us.flatMap Up.L ++ B := by
  rw [upTo_succ, h2, upTo_congr us.length h1, upTo_rungs]
theorem msgs_of_at {w : World} {v : Value} {l : List M} (h : AtM w v l) (hf : ∀ m ∈ l, m.fits) : ∃ a cap, v = .slice a l.length cap ∧ Msgs w a l.length cap l := by
  rcases h with ⟨rfl, h0, _⟩ | ⟨g, off, cap, rfl, hR⟩
  · exact ⟨none, 0, by rw [h0], rfl, by omega, Nat.zero_le _, hf, .inl h0⟩
  · have hb := RowIn.bounds hR
    exact ⟨some ⟨g, off, none⟩, cap, rfl, rfl, hb.1, hb.2.1, hf, .inr ⟨g, off, rfl, fun i hi => RowM.at hR i hi⟩⟩

/-- Behind k rungs. -/
def SumUp (w : World) (L : Nat → List M) (k : Nat) (v : Value) (wr : World) : Prop := AtM wr v (upTo L k) ∧ (∀ j q, vext v 7 j q → w.heap.size ≤ j) ∧ Below w.heap.size w wr
theorem SumUp.step {w wr : World} {L : Nat → List M} {k : Nat} {v : Value} (h : SumUp w L k v wr) : ∀ v' w4, Hid (RowAt w4 34 7 v' ((upTo L k).length + (L k).length) (flat (upTo L k) ++ flat (L k))) → Hid (KeptC (vext v 7) wr w4) → Hid (∀ k q, vext v' 7 k q → vext v 7 k q ∨ wr.heap.size ≤ k) → Hid (SumUp w L (k + 1) v' w4) := by
  intro v' w4 r1 r2 r3
  obtain ⟨h1, h2, h3⟩ := h
  refine ⟨?_, fun j q hj => (r3.out j q hj).elim (h2 j q) (fun e => Nat.le_trans h3.size e), h3.trans (r2.out.below (fun k o _ e => h2 k o e) h3.size)⟩
  unfold AtM
  rw [upTo_succ, List.length_append, flat_append]
  exact r1.out
theorem FreshA.mono {B B' len : Nat} {a : Option Addr} (h : FreshA B' len a) (hb : B ≤ B') : FreshA B len a := h.imp id (fun ⟨g, e, hg⟩ => ⟨g, e, Nat.le_trans hb hg⟩)

set_option maxHeartbeats 8000000 in
set_option maxRecDepth 100000 in
theorem sorted_any {w : World} {hb rb mb : Nat} {most : Int} {bv av : Value} {B : List M} {us : List Up} {T : List M} (h : LadOf w hb rb mb most bv av B us T) :
    Calls Try.prog 26 #[.pointer (some ⟨rb, 0, none⟩)] w fun e w' => ∃ (a' : Option Addr) (c' : Nat), e = .returned (.slice a' T.length c') ∧ Hid (Msgs w' a' T.length c' T ∧ Below w.heap.size w w' ∧ FreshA w.heap.size T.length a') := by
  have mixed := mixed
  obtain ⟨i0, hi, hz0, hz1, hz2⟩ := info_parts infoM
  obtain ⟨kb, ko, V, L, hR, hL1, hL2⟩ := rungs_by h.rungs
  have hall := rungs_all hL1 hL2
  have hperm : (upTo L (us.length + 1)).Perm T := by
    rw [hall]
    refine List.Perm.trans ?_ h.same
    unfold held
    exact List.perm_append_comm
  have hlen := hperm.length_eq
  have hsm := h.small
  have hrl := held_rungs (B := B) h.stairs.up.full
  have hhl := h.hlen
  obtain ⟨aa, acap, hav, -⟩ := RowAt.shape h.rungs.abv
  have c2 := h.rungs.c2
  rw [hav] at c2
  have hw1 : IntKind.i64.wrap ((us.length : Int) + 1) = (us.length : Int) + 1 := half_wrap (n := us.length) (by omega)
  have hS0 : Hid (SumUp w L 0 (.slice none 0 0) w) := ⟨RowAt.nil _ _ _, fun j q e => (vext_nil e).elim, Below.refl _ _⟩
  have hbd : ∀ k, k ≤ us.length → (upTo L k).length + (L k).length ≤ 16384 := fun k hk => by
    have := upTo_mono L (k + 1) (us.length + 1) (by omega)
    rw [upTo_succ, List.length_append] at this
    omega
  have hbd' := Lib.hid hbd
  have hR' := Lib.hid hR
  have hend : Hid (∀ v wr, Hid (SumUp w L (us.length + 1) v wr) → ∃ a n c, v = .slice a n c ∧ Calls Try.prog 16 #[.slice a n c] wr fun e w' => ∃ (a' : Option Addr) (c' : Nat), e = .returned (.slice a' T.length c') ∧ Hid (Msgs w' a' T.length c' T ∧ Below w.heap.size w w' ∧ FreshA w.heap.size T.length a')) := by
    intro v wr hs
    obtain ⟨h1, h2, h3⟩ := hs.out
    obtain ⟨a, cap, rfl, hM⟩ := msgs_of_at h1 (fun m hm => h.fits m (hperm.mem_iff.1 hm))
    refine ⟨a, _, cap, rfl, (eSorted_new hM (by omega)).mono ?_⟩
    rintro e w' ⟨a', c', he, hq⟩
    obtain ⟨⟨q1, q2⟩, q3⟩ := hq.out
    rw [stab_unique hperm h.o (h.u.perm hperm.symm), hlen] at q1
    rw [hlen] at he q3
    exact ⟨a', c', he, q1, h3.trans (q2.mono h3.size), q3.mono h3.size⟩
  have hN : us.length ≤ 16384 := by omega
  clear h hall hL1 hL2 hrl hhl hlen hsm hav hR hbd hperm
  generalize us.length = N at *
  go_enter Try.func26, Try.ntmps26
  go_wp2_with (fail)
  go_loopw [11, 3] (fun s11 s3 wr => ∃ k : Nat, k ≤ N + 1 ∧ s11 = .int .i64 k ∧ Hid (SumUp w L k s3 wr)) (fun s11 _ _ => N + 1 - (intOf s11).toNat)
  case atStart => exact ⟨0, by omega, rfl, hS0⟩
  case round =>
    obtain ⟨k, hk, rfl, hs⟩ := hrel
    clear hS0
    by_cases hkn : k < N + 1
    · have hz : (k : Int) < (N : Int) + 1 := by omega
      obtain ⟨hat, hc, hA⟩ := hR'.out k (by omega) wr hs.out.2.2
      have hA' := Lib.hid hA
      have hst := Lib.hid (hs.out.step)
      have hA0 := Lib.hid hs.out.1
      have hb5 := hbd'.out k (by omega)
      have hone := flat_one (L k)
      have h63 : (upTo L k).length + (L k).length ≤ maxLen := by unfold maxLen; omega
      have hby : ((upTo L k).length + (L k).length) * 56 ≤ 140737488355328 := by omega
      have hwk : IntKind.i64.wrap ((k : Int) + 1) = (k : Int) + 1 := half_wrap (n := k) (by omega)
      clear hA hend
      go_upto_region 6 with (first
        | (go_at_call 40; refine hat.mono ?_; rintro e w1 ⟨rfl, rfl⟩)
        | (refine wpList_append_rowC rfl (.tmp 14) (.tmp 20) 38 rfl hA0.out i0 _ 56 Try.underlying38 hi hz0 hz1 hz2 rfl (by omega) rfl rfl hA'.out hone h63 hby ?_; intro v1 w1 r1 r2 r3; have hs1 := hst.out v1 w1 r1 r2 r3; clear r1 r2 r3))
      go_wp2
      go_roundw
      case rel => exact ⟨k + 1, by omega, by go_num, hs1⟩
      case measure => simp [intOf]; omega
    · obtain rfl : k = N + 1 := by omega
      have hz : ¬ ((N + 1 : Nat) : Int) < (N : Int) + 1 := by omega
      obtain ⟨a, n, c, rfl, hcall⟩ := hend.out _ wr hs
      have hcall' := Lib.hid hcall
      clear hcall hend
      go_wp2_with (go_at_call 16; refine hcall'.out.mono ?_; rintro e w2 ⟨a', c', rfl, hq⟩)
      go_ret
      exact ⟨a', c', rfl, hq⟩
end Go.Proofs.Ytcfpfbemmklbaaa
namespace Go.Proofs.Ytcfpfbemmklbaaa
open Go.ChangeShapes Go.WideShapes Go.ChangeAt Go.Shelf Go.RowKit Go.Lib Go.Sort Go.Deep
set_option linter.unusedVariables false

theorem RungsRes.rowAt {w W1 w4 : World} {rb : Nat} {most : Int} {bv bv' av av' : Value} {B B' : List M} {us us' : List Up} {A : Nat} (hb : Below w.heap.size w W1) (hA : w.heap.size ≤ A) (hs : A < W1.heap.size) (h0 : RungsOf w rb most bv B av us) (h : RungsRes W1 rb most bv av us w4 B' us' bv' av') (cs : Array Value) : RungsRes w rb most bv av us (w4.setRow A cs) B' us' bv' av' := by
  have hno : ∀ k, ROwn rb bv' av' us' k → k ≠ A := fun k hk e => by
    rcases h.2.2 k hk with e2 | e2
    · have := h0.own_lt e2
      omega
    · omega
  have hk := KeptOff.row w4 A cs
  have hsz := hb.size
  refine ⟨h.1.kept hk hno, ((KeptOff.of_below hb).trans h.2.1).then_new hk (fun k hk e => by omega), fun k e => (h.2.2 k e).imp id (fun e => by omega)⟩
/-- No message of the sending among the first ones of a list. -/
def NoneTo (l : List M) (f u : Int) (q : Nat) : Prop := ∀ j, j < q → ¬ ((l.getD j default).k.f = f ∧ (l.getD j default).u = u)
theorem NoneTo.succ {l : List M} {f u : Int} {q : Nat} (h : NoneTo l f u q) (hq : ¬ ((l.getD q default).k.f = f ∧ (l.getD q default).u = u)) : NoneTo l f u (q + 1) := fun j hj => by
  by_cases e : j = q
  · subst e; exact hq
  · exact h j (by omega)
theorem NoneTo.mem {l : List M} {f u : Int} (h : NoneTo l f u l.length) : ∀ m ∈ l, ¬ (m.k.f = f ∧ m.u = u) := fun m hm => by
  obtain ⟨j, hj, rfl⟩ := List.getElem_of_mem hm
  have := h j hj
  rwa [getD_at l j hj] at this
/-- Nor in the first rungs. -/
def NoneIn (L : Nat → List M) (f u : Int) (k : Nat) : Prop := ∀ i, i < k → NoneTo (L i) f u (L i).length
theorem NoneIn.succ {L : Nat → List M} {f u : Int} {k : Nat} (h : NoneIn L f u k) (hk : NoneTo (L k) f u (L k).length) : NoneIn L f u (k + 1) := fun i hi => by
  by_cases e : i = k
  · subst e; exact hk
  · exact h i (by omega)
theorem NoneIn.mem {L : Nat → List M} {f u : Int} {k : Nat} (h : NoneIn L f u k) : ∀ m ∈ upTo L k, ¬ (m.k.f = f ∧ m.u = u) := fun m hm => by
  simp only [upTo, List.mem_flatMap, List.mem_range] at hm
  obtain ⟨i, hi, hm⟩ := hm
  exact (h i hi).mem m hm
theorem same_mem {T : List M} (hU : Unlike T) {a b : M} (ha : a ∈ T) (hb : b ∈ T) (h : sameS a b) : a = b := by
  obtain ⟨i, hi, rfl⟩ := List.getElem_of_mem ha
  obtain ⟨j, hj, rfl⟩ := List.getElem_of_mem hb
  rcases Nat.lt_trichotomy i j with e | e | e
  · exact absurd h (List.pairwise_iff_getElem.1 hU i j hi hj e)
  · subst e; rfl
  · exact absurd h.symm (List.pairwise_iff_getElem.1 hU j i hj hi e)
theorem mem_upTo {L : Nat → List M} {k n : Nat} (hk : k < n) {m : M} (hm : m ∈ L k) : m ∈ upTo L n := by
  simp only [upTo, List.mem_flatMap, List.mem_range]
  exact ⟨k, hk, hm⟩

set_option maxHeartbeats 8000000 in
set_option maxRecDepth 100000 in
theorem drop_any {w : World} {hb rb mb : Nat} {most : Int} {bv av : Value} {B : List M} {us : List Up} {T : List M} (h : LadOf w hb rb mb most bv av B us T) {x : M} (hx : x ∈ T) :
    Calls Try.prog 36 #[.pointer (some ⟨rb, 0, none⟩), .agg #[.int .i64 x.k.f, .int .i64 x.u]] w fun e w' => e = .returned x.val ∧ Taken w rb most bv av us (held B us) x w' := by
  have mixed := mixed
  obtain ⟨kb, ko, V, L, hR, hL1, hL2⟩ := rungs_by h.rungs
  have hall := rungs_all hL1 hL2
  have hperm : (upTo L (us.length + 1)).Perm T := by
    rw [hall]
    refine List.Perm.trans ?_ h.same
    unfold held
    exact List.perm_append_comm
  have hlen := hperm.length_eq
  have hsm := h.small
  have hrl := held_rungs (B := B) h.stairs.up.full
  have hhl := h.hlen
  obtain ⟨W1, hW1⟩ : ∃ W1, W1 = w.alloc (.cells #[.int .i64 x.k.f, .int .i64 x.u] 65) := ⟨_, rfl⟩
  obtain ⟨W2, hW2⟩ : ∃ W2, W2 = W1.alloc (.cells zeroM.cells 34) := ⟨_, rfl⟩
  have s1 : W1.heap.size = w.heap.size + 1 := by rw [hW1]; simp
  have s2 : W2.heap.size = w.heap.size + 2 := by rw [hW2]; simp [s1]
  have hb1 : Below w.heap.size w W1 := by rw [hW1]; exact (Below.refl _ w).alloc (Nat.le_refl _) _
  have hb2 : Below w.heap.size w W2 := by rw [hW2]; exact hb1.alloc hb1.size _
  have hz2 : BoxM W2 (w.heap.size + 1) zeroM := by rw [hW2, ← s1]; exact BoxM.mk W1 zeroM
  have hx2 : W2.heap[w.heap.size]? = some (.cells #[.int .i64 x.k.f, .int .i64 x.u] 65 (0, 0)) := by
    rw [hW2, Below.heap_alloc W1 _ w.heap.size (by omega), hW1]
    exact heap_alloc_new w _
  have hbox : Hid (∀ W, Below W2.heap.size W2 W → W.cell? ⟨w.heap.size, 0, none⟩ = some (.int .i64 x.k.f) ∧ W.cell? ⟨w.heap.size, 1, none⟩ = some (.int .i64 x.u)) := fun W hW => by
    have : W.heap[w.heap.size]? = some (.cells #[.int .i64 x.k.f, .int .i64 x.u] 65 (0, 0)) := (hW.block w.heap.size (by omega)).trans hx2
    exact ⟨by simp [World.cell?, this], by simp [World.cell?, this]⟩
  have hR2 : Hid (∀ k, k ≤ us.length → ∀ W, Below W2.heap.size W2 W → Calls Try.prog 40 #[.pointer (some ⟨rb, 0, none⟩), .int .i64 k] W (fun e w' => e = .returned (.pointer (some ⟨kb k, ko k, none⟩)) ∧ W = w') ∧ W.cell? ⟨kb k, ko k, none⟩ = some (V k) ∧ AtM W (V k) (L k)) :=
    fun k hk W hW => hR k hk W (hb2.trans (hW.mono hb2.size))
  have hbd : ∀ k, k ≤ us.length → (L k).length ≤ 16384 := fun k hk => by
    have := upTo_mono L (k + 1) (us.length + 1) (by omega)
    rw [upTo_succ, List.length_append] at this
    omega
  have hno : Hid (¬ NoneIn L x.k.f x.u (us.length + 1)) := fun hn => hn.mem x (hperm.mem_iff.2 hx) ⟨rfl, rfl⟩
  have htk : Hid (∀ k q W, k ≤ us.length → q < (L k).length → ((L k).getD q default).k.f = x.k.f ∧ ((L k).getD q default).u = x.u → Below W2.heap.size W2 W → Calls Try.prog 50 #[.pointer (some ⟨rb, 0, none⟩), .int .i64 k, .int .i64 q] W fun e w3 => e = .returned x.val ∧
      Hid (BoxM w3 (w.heap.size + 1) zeroM ∧ Taken w rb most bv av us (held B us) x (w3.setRow (w.heap.size + 1) x.cells))) := by
    intro k q W hk hq hsame hW
    have hbW := hb2.trans (hW.mono hb2.size)
    have hWs := hW.size
    have h2 := h.below hbW
    have hm : ((L k).getD q default) = x := by
      refine same_mem h.u (hperm.mem_iff.1 (mem_upTo (k := k) (by omega) ?_)) hx ⟨hsame.1, hsame.2⟩
      rw [getD_at _ q hq]
      exact List.getElem_mem hq
    have hfin : ∀ {e : Ending} {w3 : World}, e = .returned x.val ∧ Taken W rb most bv av us (held B us) x w3 → e = .returned x.val ∧ Hid (BoxM w3 (w.heap.size + 1) zeroM ∧ Taken w rb most bv av us (held B us) x (w3.setRow (w.heap.size + 1) x.cells)) := by
      rintro e w3 ⟨he, B', us', bv', av', r, t1, t2⟩
      exact ⟨he, (hz2.below hW).kept r.2.1 (fun e => by have := h.own_lt (.inr (.inr e)); omega), B', us', bv', av', RungsRes.rowAt hbW (by omega) (by omega) h.rungs r _, t1, t2⟩
    by_cases hlt : k < us.length
    · rw [hL1 k hlt] at hq hm
      have := take_up h2.rungs h2.stairs (by omega) k q hlt hq
      rw [hm] at this
      exact this.mono fun e w3 hh => hfin hh
    · obtain rfl : k = us.length := by omega
      rw [hL2] at hq hm
      have := take_bot h2.rungs h2.stairs h2.hU h2.most1 (by omega) q hq
      rw [hm] at this
      exact this.mono fun e w3 hh => hfin hh
  obtain ⟨aa, acap, hav, -⟩ := RowAt.shape h.rungs.abv
  have c2 := (h.rungs.below hb2).c2
  rw [hav] at c2
  have hN : us.length ≤ 16384 := by omega
  have hw1 : IntKind.i64.wrap ((us.length : Int) + 1) = (us.length : Int) + 1 := half_wrap (n := us.length) (by omega)
  have hbd' := Lib.hid hbd
  have hW2z : Hid ((w.alloc (.cells #[.int .i64 x.k.f, .int .i64 x.u] 65)).alloc (.cells #[.int .i64 0, .int .i64 0, .int .i64 0, .int .i64 0, .int .i64 0, .int .i64 0, .bool false] 34) = W2) := by
    rw [hW2, hW1]
    rfl
  have hs1 : Hid ((w.alloc (.cells #[.int .i64 x.k.f, .int .i64 x.u] 65)).heap.size = w.heap.size + 1) := by
    show _ = _
    simp
  have hsend := fun (m : M) w => sending_any m w
  simp only [M.val, sendV] at hsend
  have heq := fun a b w => eqlLS a b x.k.f x.u w
  clear h hx hall hL1 hL2 hrl hhl hlen hsm hav hR hbd hperm hW1 hW2 s1 s2 hb1 hb2 hz2 hx2
  generalize Taken w rb most bv av us (held B us) x = R at *
  generalize us.length = N at *
  rw [show x.val = .agg #[.int .i64 x.k.t, .int .i64 x.k.f, .int .i64 x.k.s, .int .i64 x.to, .int .i64 x.v, .int .i64 x.u, .bool x.anti] from rfl] at htk
  go_enter Try.func36, Try.ntmps36
  go_upto_region 1 with (fail)
  rw [hW2z.out]
  go_wp2
  go_step3
  go_wp2
  go_step3
  go_wp2
  have hB0 : Hid (Below W2.heap.size W2 W2) := Below.refl _ _
  clear hW2z c2 hw1
  go_loopg [13] (N + 1) (fun g s13 wx => ∃ k : Nat, k + g = N + 1 ∧ s13 = .int .i64 k ∧ Hid (NoneIn L x.k.f x.u k) ∧ Hid (Below W2.heap.size W2 wx))
  case atStart => exact ⟨0, by omega, rfl, fun i hi => absurd hi (Nat.not_lt_zero i), hB0⟩
  case round =>
    obtain ⟨k, hkg, rfl, hnone, hbx⟩ := hrel
    clear hB0
    cases gk with
    | zero =>
      obtain rfl : k = N + 1 := by omega
      exact absurd hnone.out hno.out
    | succ g =>
      have hkN : k ≤ N := by omega
      have hz : (k : Int) < (N : Int) + 1 := by omega
      have hwk : IntKind.i64.wrap ((k : Int) + 1) = (k : Int) + 1 := half_wrap (n := k) (by omega)
      obtain ⟨hat, hc, hA⟩ := hR2.out k hkN wr hbx.out
      obtain ⟨va, vc, hv, -⟩ := RowAt.shape hA
      rw [hv] at hc
      have hsz := rsize_any hc
      have hnb := hbd'.out k hkN
      obtain ⟨n, hn⟩ : ∃ n, n = (L k).length := ⟨_, rfl⟩
      rw [← hn] at hsz hnb
      have hn' := Lib.hid hn
      have hv' := Lib.hid hv
      have hS0 : Hid (NoneTo (L k) x.k.f x.u 0) := fun j hj => absurd hj (Nat.not_lt_zero j)
      clear hA hn hv
      go_wp2_with (first
        | (go_at_call 40; refine hat.mono ?_; rintro e w1 ⟨rfl, rfl⟩)
        | (go_at_call 45; refine hsz.mono ?_; rintro e w1 ⟨rfl, rfl⟩))
      clear hat hc hsz
      go_loopg [20] n (fun g2 s20 wy => ∃ q : Nat, q + g2 = n ∧ s20 = .int .i64 q ∧ Hid (NoneTo (L k) x.k.f x.u q) ∧ Hid (Below W2.heap.size W2 wy))
      case atStart => exact ⟨0, by omega, rfl, hS0, hbx⟩
      case round =>
        obtain ⟨q, hqg, rfl, hnq, hby⟩ := hrel
        clear hS0 hbx
        cases gk with
        | zero =>
          obtain rfl : q = n := by omega
          have hz2 : ¬ (q : Int) < (q : Int) := by omega
          have hnone2 : Hid (NoneIn L x.k.f x.u (k + 1)) := hnone.out.succ (by rw [← hn'.out]; exact hnq.out)
          go_wp2
          go_roundg g
          case rel => exact ⟨k + 1, by omega, by go_num, hnone2, hby⟩
          case measure => omega
        | succ g2 =>
          have hqn : q < n := by omega
          have hz2 : (q : Int) < (n : Int) := by omega
          have hwq : IntKind.i64.wrap ((q : Int) + 1) = (q : Int) + 1 := half_wrap (n := q) (by omega)
          have hbd2 : Hid (Below W2.heap.size W2 wr.drew) := hby.out.drew
          obtain ⟨-, hc0, hA0⟩ := hR2.out k hkN wr hby.out
          obtain ⟨g', off, cap, hvs, -⟩ := AtM.form hA0 (by rw [← hn'.out]; omega)
          obtain ⟨m, hm⟩ : ∃ m, m = (L k).getD q default := ⟨_, rfl⟩
          have hS : Hid (∀ w', Below W2.heap.size W2 w' → Below W2.heap.size W2 w' ∧ w'.cell? ⟨kb k, ko k, none⟩ = some (.slice (some ⟨g', off, none⟩) n cap) ∧
              (w'.cell? ⟨g', off + q * 7, none⟩ = some (.int .i64 m.k.t) ∧ w'.cell? ⟨g', off + q * 7 + 1, none⟩ = some (.int .i64 m.k.f) ∧ w'.cell? ⟨g', off + q * 7 + 2, none⟩ = some (.int .i64 m.k.s) ∧ w'.cell? ⟨g', off + q * 7 + 3, none⟩ = some (.int .i64 m.to) ∧
                w'.cell? ⟨g', off + q * 7 + 4, none⟩ = some (.int .i64 m.v) ∧ w'.cell? ⟨g', off + q * 7 + 5, none⟩ = some (.int .i64 m.u) ∧ w'.cell? ⟨g', off + q * 7 + 6, none⟩ = some (.bool m.anti)) ∧
              (w'.cell? ⟨w.heap.size, 0, none⟩ = some (.int .i64 x.k.f) ∧ w'.cell? ⟨w.heap.size, 1, none⟩ = some (.int .i64 x.u))) := by
            intro w' hw'
            obtain ⟨-, hc, hA⟩ := hR2.out k hkN w' hw'
            rw [hvs] at hc hA
            have hR : RowM w' g' off cap (L k) := by
              obtain ⟨g2, off2, cap2, e, hR⟩ := AtM.form hA (by rw [← hn'.out]; omega)
              obtain ⟨⟨rfl, rfl⟩, rfl⟩ : (g' = g2 ∧ off = off2) ∧ cap = cap2 := by simpa using e
              exact hR
            obtain ⟨-, y0, y1, y2, y3, y4, y5, y6⟩ := hR.at q (by rw [← hn'.out]; exact hqn)
            rw [← hm] at y0 y1 y2 y3 y4 y5 y6
            rw [← hn'.out] at hc
            exact ⟨hw', hc, ⟨y0, y1, y2, y3, y4, y5, y6⟩, hbox.out w' hw'⟩
          have hat := Lib.hid (fun w' (hw' : Below W2.heap.size W2 w') => (hR2.out k hkN w' hw').1)
          have hsd := hsend m
          have hm' := Lib.hid hm
          by_cases hsame : m.k.f = x.k.f ∧ m.u = x.u
          · have hq0 : ∀ w, Sem.run Try.prog (binOp .eql 65 (.agg #[.int .i64 m.k.f, .int .i64 m.u]) (.agg #[.int .i64 x.k.f, .int .i64 x.u])) w = .ok (.bool true) w := fun w => by rw [heq, hsame.1, hsame.2]; simp
            have htk2 := Lib.hid (fun W hW => htk.out k q W hkN (by rw [← hn'.out]; exact hqn) (by rw [← hm]; exact hsame) hW)
            clear hm hvs hA0 hc0 hsend heq htk hno hnone hnq hsame hbd'
            go_upto_region 8 with (fail)
            go_region_held3 (fun w' => Below W2.heap.size W2 w' ∧ w'.cell? ⟨kb k, ko k, none⟩ = some (.slice (some ⟨g', off, none⟩) n cap) ∧
                (w'.cell? ⟨g', off + q * 7, none⟩ = some (.int .i64 m.k.t) ∧ w'.cell? ⟨g', off + q * 7 + 1, none⟩ = some (.int .i64 m.k.f) ∧ w'.cell? ⟨g', off + q * 7 + 2, none⟩ = some (.int .i64 m.k.s) ∧ w'.cell? ⟨g', off + q * 7 + 3, none⟩ = some (.int .i64 m.to) ∧
                  w'.cell? ⟨g', off + q * 7 + 4, none⟩ = some (.int .i64 m.v) ∧ w'.cell? ⟨g', off + q * 7 + 5, none⟩ = some (.int .i64 m.u) ∧ w'.cell? ⟨g', off + q * 7 + 6, none⟩ = some (.bool m.anti)) ∧
                (w'.cell? ⟨w.heap.size, 0, none⟩ = some (.int .i64 x.k.f) ∧ w'.cell? ⟨w.heap.size, 1, none⟩ = some (.int .i64 x.u)))
              (first | exact hS.out _ hbd2.out | exact hS.out _ (hbd2.out.trans (hr1.below.mono hbd2.out.size)))
              (first | (go_at_call 40; refine (hat.out _ ?_).mono ?_; (go_split_ands; assumption); rintro e w1 ⟨rfl, rfl⟩) | (go_at_call 28; refine (hsd _).mono ?_; rintro e w1 ⟨rfl, hr1⟩))
            have hb3 : Hid (Below W2.heap.size W2 w1) := hbd2.out.trans (hr1.below.mono hbd2.out.size)
            have hcall := Lib.hid (htk2.out w1 hb3.out)
            clear hS hat hsd hr1 htk2 hR2 hbox
            go_wp2_with (first
              | (go_at_call 50; refine hcall.out.mono ?_; rintro e w3 ⟨rfl, hQ⟩)
              | (refine wpList_store_row rfl 34 (.tmp 4) (.tmp 40) rfl (w.heap.size + 1) x.cells rfl rfl 34 zeroM.cells hQ.out.1 infoS rfl (M.cells_one x) ?_))
            obtain ⟨-, s0, s1, s2, s3, s4, s5, s6⟩ := (hQ.out.1.row x).at
            simp only [Nat.zero_add] at s0 s1 s2 s3 s4 s5 s6
            try rw [Exit.noGoto_ret]
            exact bodyPost_ret (v := x.val) (by simp [results, Try.results36, go_sem, s0, s1, s2, s3, s4, s5, s6, M.val]) rfl ⟨rfl, hQ.out.2⟩
          · have hq0 : ∀ w, Sem.run Try.prog (binOp .eql 65 (.agg #[.int .i64 m.k.f, .int .i64 m.u]) (.agg #[.int .i64 x.k.f, .int .i64 x.u])) w = .ok (.bool false) w := fun w => by
              rw [heq]
              by_cases a : m.k.f = x.k.f <;> by_cases b : m.u = x.u <;> simp_all
            have hnq2 : Hid (NoneTo (L k) x.k.f x.u (q + 1)) := hnq.out.succ (by rw [← hm]; exact hsame)
            clear hm hvs hA0 hc0 hsend heq htk hno hnq hsame hbd'
            go_upto_region 8 with (fail)
            go_region_held3 (fun w' => Below W2.heap.size W2 w' ∧ w'.cell? ⟨kb k, ko k, none⟩ = some (.slice (some ⟨g', off, none⟩) n cap) ∧
                (w'.cell? ⟨g', off + q * 7, none⟩ = some (.int .i64 m.k.t) ∧ w'.cell? ⟨g', off + q * 7 + 1, none⟩ = some (.int .i64 m.k.f) ∧ w'.cell? ⟨g', off + q * 7 + 2, none⟩ = some (.int .i64 m.k.s) ∧ w'.cell? ⟨g', off + q * 7 + 3, none⟩ = some (.int .i64 m.to) ∧
                  w'.cell? ⟨g', off + q * 7 + 4, none⟩ = some (.int .i64 m.v) ∧ w'.cell? ⟨g', off + q * 7 + 5, none⟩ = some (.int .i64 m.u) ∧ w'.cell? ⟨g', off + q * 7 + 6, none⟩ = some (.bool m.anti)) ∧
                (w'.cell? ⟨w.heap.size, 0, none⟩ = some (.int .i64 x.k.f) ∧ w'.cell? ⟨w.heap.size, 1, none⟩ = some (.int .i64 x.u)))
              (first | exact hS.out _ hbd2.out | exact hS.out _ (hbd2.out.trans (hr1.below.mono hbd2.out.size)))
              (first | (go_at_call 40; refine (hat.out _ ?_).mono ?_; (go_split_ands; assumption); rintro e w1 ⟨rfl, rfl⟩) | (go_at_call 28; refine (hsd _).mono ?_; rintro e w1 ⟨rfl, hr1⟩))
            have hb3 : Hid (Below W2.heap.size W2 w1) := hbd2.out.trans (hr1.below.mono hbd2.out.size)
            clear hS hat hsd hr1
            go_wp2
            go_roundg g2
            case rel => exact ⟨q + 1, by omega, by go_num, hnq2, hb3⟩
            case measure => omega
end Go.Proofs.Ytcfpfbemmklbaaa
namespace Go.Proofs.Ytcfpfbemmklbaaa
open Go.ChangeShapes Go.WideShapes Go.ChangeAt Go.Shelf Go.RowKit Go.Lib Go.Sort Go.Deep Go.Maps
set_option linter.unusedVariables false

theorem hAll_any {w : World} {hb : Nat} {S : Nat → Prop} {T : List M} (h : CalAt w hb S T) : Calls Try.prog 13 #[.pointer (some ⟨hb, 0, none⟩)] w fun e w' => ∃ (a' : Option Addr) (c' : Nat), e = .returned (.slice a' T.length c') ∧
    Hid (Msgs w' a' T.length c' T ∧ Below w.heap.size w w' ∧ FreshA w.heap.size T.length a') := by
  obtain ⟨rb, mb, most, bv, av, B, us, h1, h3, h4⟩ := h
  have hmd := made_ok h1.row
  have c0 := h1.row.c0
  have hs := Lib.hid (sorted_any h1)
  clear h1 h3 h4
  go_enter Try.func13, Try.ntmps13
  go_wp2_with (first | (go_at_call 25; refine hmd.mono ?_; rintro e w' ⟨rfl, rfl⟩) | (go_at_call 26; refine hs.out.mono ?_; rintro e w5 ⟨a', c', rfl, hM⟩))
  go_ret
  exact ⟨a', c', rfl, hM⟩
end Go.Proofs.Ytcfpfbemmklbaaa
namespace Go.Proofs.Ytcfpfbemmklbaaa
open Go.ChangeShapes Go.WideShapes Go.ChangeAt Go.Shelf Go.RowKit Go.Lib Go.Sort Go.Deep Go.Maps
set_option linter.unusedVariables false

/-- .. and the result's store, at any of the call's blocks. -/
theorem CalAt.of_gone_at {w W0 w3 : World} {hb rb mb A : Nat} {most : Int} {bv av bv' av' : Value} {B' : List M} {us us' : List Up} {T' : List M} {S : Nat → Prop} (hS : ∀ k, LOwn hb rb mb bv av us k → S k) (hSl : ∀ k, S k → k < w.heap.size) (hb0 : Below w.heap.size w W0) (hA : w.heap.size ≤ A) (hlt : A < W0.heap.size)
    (h : LadOf w3 hb rb mb most bv' av' B' us' T') (hk : KeptOff (LOwn hb rb mb bv av us) W0 w3) (ho : ∀ k, LOwn hb rb mb bv' av' us' k → LOwn hb rb mb bv av us k ∨ W0.heap.size ≤ k) (cs : Array Value) :
    ∃ S', CalAt (w3.setRow A cs) hb S' T' ∧ CStep w (w3.setRow A cs) S S' := by
  have k := KeptOff.row w3 A cs
  have hsz := hb0.size
  refine ⟨fun k => S k ∨ (W0.heap.size ≤ k ∧ k < w3.heap.size), ⟨rb, mb, most, bv', av', B', us', h.kept k (fun k hk e => ?_), fun k hk => ?_, fun j hj => ?_⟩, ((KeptOff.of_below hb0).trans (hk.mono (fun k _ e => hS k e))).then_new k (fun k hk e => by omega), fun k e => e.imp id (fun e => by omega)⟩
  · rcases ho k hk with e2 | e2
    · have := hSl k (hS k e2); omega
    · omega
  · exact (ho k hk).imp (fun e => hS k e) (fun e => ⟨e, h.own_lt hk⟩)
  · have h3 := k.size
    have h2 := hk.size
    rcases hj with e | e
    · have := hSl j e; omega
    · omega

set_option maxHeartbeats 2000000 in
theorem hCut_none {w : World} {hb : Nat} {S : Nat → Prop} {T : List M} (h : CalAt w hb S T) {f u : Int} (hf : (Lit.int .i64 f).wf = true) (hu : (Lit.int .i64 u).wf = true) (hs : hasS T f u = false) :
    Calls Try.prog 18 #[.pointer (some ⟨hb, 0, none⟩), .int .i64 f, .int .i64 u] w fun e w' => e = .returned (.tuple #[zeroM.val, .int .i64 6]) ∧ Below w.heap.size w w' := by
  obtain ⟨W0, hW0⟩ : ∃ W0, W0 = (w.alloc (.cells #[.int .i64 0, .int .i64 0, .int .i64 0, .int .i64 0, .int .i64 0, .int .i64 0, .bool false] 34)).alloc (.cells #[.int .i64 f, .int .i64 u] 65) := ⟨_, rfl⟩
  have hB0 : Hid (Below w.heap.size w W0) := by rw [hW0]; exact ((Below.refl _ w).alloc (Nat.le_refl _) _).alloc (by simp) _
  have hz : BoxM W0 w.heap.size zeroM := by rw [hW0]; exact (BoxM.mk w zeroM).below ((Below.refl _ _).alloc (Nat.le_refl _) _)
  have hsb : W0.heap[w.heap.size + 1]? = some (.cells #[.int .i64 f, .int .i64 u] 65 (0, 0)) := by
    have e := heap_alloc_new (w.alloc (.cells #[.int .i64 0, .int .i64 0, .int .i64 0, .int .i64 0, .int .i64 0, .int .i64 0, .bool false] 34)) (.cells #[.int .i64 f, .int .i64 u] 65)
    have e1 : (w.alloc (.cells #[.int .i64 0, .int .i64 0, .int .i64 0, .int .i64 0, .int .i64 0, .int .i64 0, .bool false] 34)).heap.size = w.heap.size + 1 := by simp
    rw [e1] at e
    rw [hW0]
    exact e
  have b0 : W0.cell? ⟨w.heap.size + 1, 0, none⟩ = some (.int .i64 f) := by simp [World.cell?, hsb]
  have b1 : W0.cell? ⟨w.heap.size + 1, 1, none⟩ = some (.int .i64 u) := by simp [World.cell?, hsb]
  obtain ⟨rb, mb, most, bv, av, B, us, h1, -, -⟩ := h
  have h0 := h1.below hB0.out
  have hmd := made_ok h0.row
  have hhs := (has_any h0.row h0.keys hf hu).mono (fun e w' h => (⟨h.1, h.2.below⟩ : _ ∧ Below W0.heap.size W0 w'))
  rw [hs] at hhs
  have hfin : Hid (∀ w2, Below W0.heap.size W0 w2 → BoxM w2 w.heap.size zeroM) := fun w2 hb2 => hz.below hb2
  have hhs' := Lib.hid hhs
  clear h1 h0 hhs hs hf hu hsb hz
  go_enter Try.func18, Try.ntmps18
  go_upto_region 2 with (fail)
  rw [← hW0]
  clear hW0
  go_upto_region 5 with (first
    | (go_at_call 25; refine hmd.mono ?_; rintro e w' ⟨rfl, rfl⟩)
    | (go_at_call 27; refine hhs'.out.mono ?_; rintro e w2 ⟨rfl, hb2⟩; have hz2 := Lib.hid (hfin.out w2 hb2); have hb2' := Lib.hid hb2; clear hb2))
  go_wp2_with (refine wpList_store_row rfl 34 (.tmp 6) (.tmp 22) rfl w.heap.size zeroM.cells rfl rfl 34 zeroM.cells hz2.out infoS rfl (M.cells_one zeroM) ?_)
  obtain ⟨-, s0, s1, s2, s3, s4, s5, s6⟩ := (hz2.out.row zeroM).at
  simp only [Nat.zero_add] at s0 s1 s2 s3 s4 s5 s6
  refine bodyPost_ret (v := .tuple #[zeroM.val, .int .i64 6]) (by simp [results, Try.results18, go_sem, s0, s1, s2, s3, s4, s5, s6, M.val]) rfl ⟨rfl, ?_⟩
  exact below_setRow (hB0.out.trans (hb2'.out.mono hB0.out.size)) (Nat.le_refl _) _
set_option maxHeartbeats 2000000 in
theorem hCut_some {w : World} {hb : Nat} {S : Nat → Prop} {T T' : List M} {x : M} (h : CalAt w hb S T) (hp : (x :: T').Perm T) (hO : InOrder ltM T') :
    Calls Try.prog 18 #[.pointer (some ⟨hb, 0, none⟩), .int .i64 x.k.f, .int .i64 x.u] w fun e w' => e = .returned (.tuple #[x.val, .int .i64 0]) ∧ ∃ S', CalAt w' hb S' T' ∧ CStep w w' S S' := by
  obtain ⟨W0, hW0⟩ : ∃ W0, W0 = (w.alloc (.cells #[.int .i64 0, .int .i64 0, .int .i64 0, .int .i64 0, .int .i64 0, .int .i64 0, .bool false] 34)).alloc (.cells #[.int .i64 x.k.f, .int .i64 x.u] 65) := ⟨_, rfl⟩
  have hB0 : Hid (Below w.heap.size w W0) := by rw [hW0]; exact ((Below.refl _ w).alloc (Nat.le_refl _) _).alloc (by simp) _
  have hz : BoxM W0 w.heap.size zeroM := by rw [hW0]; exact (BoxM.mk w zeroM).below ((Below.refl _ _).alloc (Nat.le_refl _) _)
  have hsb : W0.heap[w.heap.size + 1]? = some (.cells #[.int .i64 x.k.f, .int .i64 x.u] 65 (0, 0)) := by
    have e := heap_alloc_new (w.alloc (.cells #[.int .i64 0, .int .i64 0, .int .i64 0, .int .i64 0, .int .i64 0, .int .i64 0, .bool false] 34)) (.cells #[.int .i64 x.k.f, .int .i64 x.u] 65)
    have e1 : (w.alloc (.cells #[.int .i64 0, .int .i64 0, .int .i64 0, .int .i64 0, .int .i64 0, .int .i64 0, .bool false] 34)).heap.size = w.heap.size + 1 := by simp
    rw [e1] at e
    rw [hW0]
    exact e
  have b0 : W0.cell? ⟨w.heap.size + 1, 0, none⟩ = some (.int .i64 x.k.f) := by simp [World.cell?, hsb]
  have b1 : W0.cell? ⟨w.heap.size + 1, 1, none⟩ = some (.int .i64 x.u) := by simp [World.cell?, hsb]
  have hbl : w.heap.size + 1 < W0.heap.size := (Array.getElem?_eq_some_iff.1 hsb).1
  have hxT : x ∈ T := hp.mem_iff.1 (List.mem_cons_self ..)
  have hxf := h.fits x hxT
  have hin : hasS T x.k.f x.u = true := hasS_iff.2 ⟨x, hxT, rfl, rfl⟩
  obtain ⟨rb, mb, most, bv, av, B, us, h1, hS, hSl⟩ := h
  have h0 := h1.below hB0.out
  have hmd := made_ok h0.row
  have hhs := (has_any h0.row h0.keys hxf.1.2.1 hxf.2.2.2).mono (fun e w' h => (⟨h.1, h.2.below⟩ : _ ∧ Below W0.heap.size W0 w'))
  rw [hin] at hhs
  have hst : ∀ (V : World), BoxM V w.heap.size zeroM → (storeCells ⟨w.heap.size, 0, none⟩ x.cells.toList).run Try.prog V = .ok () (V.setRow w.heap.size x.cells) := fun V hz => by
    have := run_storeCells_at Try.prog w.heap.size 0 34 x.cells.toList 0 zeroM.cells V hz (by rw [Array.length_toList]; exact Nat.le_refl _) (fun v hv => encM_one x v hv)
    simpa [M.cells, zeroM] using this
  have hcs : x.cells.size = 7 := rfl
  have htk : Hid (∀ w', Below W0.heap.size W0 w' → w'.cell? ⟨hb, 0, none⟩ = some (.pointer (some ⟨rb, 0, none⟩)) ∧ w'.cell? ⟨w.heap.size + 1, 0, none⟩ = some (.int .i64 x.k.f) ∧ w'.cell? ⟨w.heap.size + 1, 1, none⟩ = some (.int .i64 x.u) ∧
      Hid (Calls Try.prog 36 #[.pointer (some ⟨rb, 0, none⟩), .agg #[.int .i64 x.k.f, .int .i64 x.u]] w' fun e w2 => e = .returned (.agg x.cells) ∧ Hid (Calls Try.prog 34 #[.pointer (some ⟨hb, 0, none⟩), .agg x.cells] w2 fun e w3 => e = .returned (.agg x.cells) ∧
        Hid (BoxM w3 w.heap.size zeroM ∧ (∃ S', CalAt (w3.setRow w.heap.size x.cells) hb S' T' ∧ CStep w (w3.setRow w.heap.size x.cells) S S'))))) := by
    intro w' hb'
    have hbw := hB0.out.trans (hb'.mono hB0.out.size)
    have h2 := h0.below hb'
    refine ⟨h2.row.c0, (hb'.cell (p := ⟨w.heap.size + 1, 0, none⟩) hbl).trans b0, (hb'.cell (p := ⟨w.heap.size + 1, 1, none⟩) hbl).trans b1, (drop_any h2 hxT).mono ?_⟩
    rintro e w2 ⟨he, ht⟩
    obtain ⟨r2, k2, o2, hnext⟩ := h2.gone hp hO ht
    refine ⟨he, (forget_any r2 k2 x hxf hp h2.u).mono ?_⟩
    rintro e w3 ⟨he, hq⟩
    obtain ⟨k3, o3⟩ := hq.out
    obtain ⟨bv', av', B'', us', h3, hk3, ho3⟩ := hnext w3 k3 o3
    have hz3 : BoxM w3 w.heap.size zeroM := (hz.below hb').kept hk3 (fun e => by have := h1.own_lt e; omega)
    have hsz := hb'.size
    exact ⟨he, hz3, CalAt.of_gone_at hS hSl hbw (Nat.le_refl _) (by omega) h3 hk3 ho3 _⟩
  have hhs' := Lib.hid hhs
  rw [show x.val = .agg x.cells from rfl]
  have hst' := Lib.hid hst
  clear h0 h1 hhs hp hO hxT hxf hin hsb hz hbl hS hSl hst
  go_enter Try.func18, Try.ntmps18
  go_upto_region 2 with (fail)
  rw [← hW0]
  clear hW0
  go_upto_region 6 with (first
    | (go_at_call 25; refine hmd.mono ?_; rintro e w' ⟨rfl, rfl⟩)
    | (go_at_call 27; refine hhs'.out.mono ?_; rintro e w2 ⟨rfl, hb2⟩; have hb2' := Lib.hid hb2; clear hb2))
  obtain ⟨d2, d0, d1, htk2⟩ := htk.out w2.drew hb2'.out.drew
  have d2 : w2.cell? ⟨hb, 0, none⟩ = some (.pointer (some ⟨rb, 0, none⟩)) := d2
  have d0 : w2.cell? ⟨w.heap.size + 1, 0, none⟩ = some (.int .i64 x.k.f) := d0
  have d1 : w2.cell? ⟨w.heap.size + 1, 1, none⟩ = some (.int .i64 x.u) := d1
  clear htk b0 b1 hmd hhs'
  go_region_with (first
    | (go_at_call 36; refine htk2.out.mono ?_; rintro e w3 ⟨rfl, hfg⟩)
    | (go_at_call 34; refine hfg.out.mono ?_; rintro e w4 ⟨rfl, hQ3⟩; have hrun := hst'.out w4 hQ3.out.1))
  all_goals
    have hz4 := hQ3.out.1.row x
    have hR := Lib.hid hQ3.out.2
    obtain ⟨-, s0, s1, s2, s3, s4, s5, s6⟩ := hz4.at
    simp only [Nat.zero_add, M.cells] at s0 s1 s2 s3 s4 s5 s6
    clear hrun hfg htk2 hst' hQ3 hz4
    go_wp2
    exact bodyPost_ret (v := .tuple #[.agg x.cells, .int .i64 0]) (by simp [results, Try.results18, go_sem, s0, s1, s2, s3, s4, s5, s6, M.cells]) rfl ⟨rfl, hR.out⟩
end Go.Proofs.Ytcfpfbemmklbaaa
namespace Go.Proofs.Ytcfpfbemmklbaaa
open Go.ChangeShapes Go.WideShapes Go.ChangeAt Go.Shelf Go.RowKit Go.Lib Go.Sort Go.Deep Go.Maps
set_option linter.unusedVariables false

/-- What a Push answers. -/
def pushC (T : List M) (m : M) : Int := if hasS T m.k.f m.u = true then 8 else if 16384 ≤ T.length then 9 else 0
/-- What a Push makes of the messages. -/
def pushT (T : List M) (m : M) : List M := if hasS T m.k.f m.u = true then T else if 16384 ≤ T.length then T else mg ltM T [m]
/-- What a Push of a message that is taken leaves. -/
def PushPost (w : World) (hb : Nat) (S : Nat → Prop) (T : List M) (m : M) (w' : World) : Prop := ∃ S', CalAt w' hb S' (mg ltM T [m]) ∧ CStep w w' S S'

set_option maxHeartbeats 2000000 in
set_option maxRecDepth 100000 in
theorem hPush_stay {w : World} {hb : Nat} {S : Nat → Prop} {T : List M} (h : CalAt w hb S T) (m : M) (hm : m.fits) (hst : hasS T m.k.f m.u = true ∨ 16384 ≤ T.length) :
    Calls Try.prog 15 #[.pointer (some ⟨hb, 0, none⟩), m.val] w fun e w' => e = .returned (.int .i64 (pushC T m)) ∧ Below w.heap.size w w' := by
  obtain ⟨W0, hW0⟩ : ∃ W0, W0 = w.alloc (.cells m.cells 34) := ⟨_, rfl⟩
  have hB0 : Hid (Below w.heap.size w W0) := by rw [hW0]; exact (Below.refl _ w).alloc (Nat.le_refl _) _
  have hR0 : Hid (BoxM W0 w.heap.size m) := by rw [hW0]; exact BoxM.mk w m
  have hC : Hid (pushC T m = if hasS T m.k.f m.u = true then 8 else if 16384 ≤ T.length then 9 else 0) := rfl
  obtain ⟨r, hr⟩ : ∃ r, hasS T m.k.f m.u = r := ⟨_, rfl⟩
  rw [hr] at hst
  have hr' := Lib.hid hr
  have h0 := h.below hB0.out
  obtain ⟨rb, mb, most, bv, av, B, us, h1, -, -⟩ := h0
  have hsend := fun w => sending_any m w
  simp only [M.val, sendV] at hsend
  have hhas : Hid (∀ w1, Below W0.heap.size W0 w1 → Calls Try.prog 27 #[.pointer (some ⟨hb, 0, none⟩), .agg #[.int .i64 m.k.f, .int .i64 m.u]] w1 fun e w' => e = .returned (.bool r) ∧ Below w1.heap.size w1 w') := by
    intro w1 hw1
    have h2 := h1.below hw1
    have := (has_any h2.row h2.keys (f := m.k.f) (u := m.u) hm.1.2.1 hm.2.2.2).mono (fun e w' h => (⟨h.1, h.2.below⟩ : _ ∧ Below w1.heap.size w1 w'))
    rwa [hr'.out] at this
  have hsz : Hid (∀ w1, Below W0.heap.size W0 w1 → w1.cell? ⟨hb, 1, none⟩ = some (.map (some mb)) ∧ ∀ ty, (Builtin.len_ #[53] ty #[.map (some mb)]).run Try.prog w1 = .ok (.int .i64 T.length) w1) := by
    intro w1 hw1
    have h2 := h1.below hw1
    exact ⟨h2.row.c1, fun ty => h2.keys.len ty⟩
  have hmd := made_ok h1.row
  obtain ⟨-, x0, x1, x2, x3, x4, x5, x6⟩ := hR0.out.at
  simp only [Nat.zero_add] at x0 x1 x2 x3 x4 x5 x6
  clear h h1 hr hm
  have hW0' := Lib.hid hW0
  clear hW0
  obtain ⟨c, hc⟩ : ∃ c, pushC T m = c := ⟨_, rfl⟩
  rw [hc] at hC ⊢
  clear hc
  obtain ⟨⟨t, f, s⟩, tt, vv, u, an⟩ := m
  simp only [M.val, M.cells] at hW0' hsend hhas x0 x1 x2 x3 x4 x5 x6 ⊢
  cases r with
  | true =>
    obtain rfl : c = 8 := by rw [hC.out, hr'.out]; simp
    clear hst
    go_enter Try.func15, Try.ntmps15
    go_upto_region 1 with (fail)
    rw [← hW0'.out]
    go_wp2_with (first
      | (go_at_call 25; refine hmd.mono ?_; rintro e w' ⟨rfl, rfl⟩)
      | (go_at_call 28; refine (hsend _).mono ?_; rintro e w1 ⟨rfl, hr1⟩; have hh1 := hhas.out w1 hr1.below; have hr1' := Lib.hid hr1; clear hr1)
      | (go_at_call 27; refine hh1.mono ?_; rintro e w2 ⟨rfl, hb2⟩; have hb2' := Lib.hid hb2; clear hb2))
    go_ret
    exact ⟨rfl, hB0.out.trans ((hr1'.out.below.trans (hb2'.out.mono hr1'.out.below.size)).mono hB0.out.size)⟩
  | false =>
    have hk : 16384 ≤ T.length := by
      rcases hst with e | e
      · cases e
      · exact e
    obtain rfl : c = 9 := by rw [hC.out, hr'.out]; simp [hk]
    have hk' : (16384 : Int) ≤ (T.length : Int) := by omega
    generalize T.length = N at *
    clear hk hst
    go_enter Try.func15, Try.ntmps15
    go_upto_region 1 with (fail)
    rw [← hW0'.out]
    go_wp2_with (first
      | (go_at_call 25; refine hmd.mono ?_; rintro e w' ⟨rfl, rfl⟩)
      | (go_at_call 28; refine (hsend _).mono ?_; rintro e w1 ⟨rfl, hr1⟩; have hh1 := hhas.out w1 hr1.below; have hr1' := Lib.hid hr1; clear hr1)
      | (go_at_call 27; refine hh1.mono ?_; rintro e w2 ⟨rfl, hb2⟩; have hb12 := hr1'.out.below.trans (hb2.mono hr1'.out.below.size); obtain ⟨c2, hln⟩ := hsz.out w2 hb12; have hb2' := Lib.hid hb12; clear hb2 hb12))
    go_ret
    exact ⟨rfl, hB0.out.trans (hb2'.out.mono hB0.out.size)⟩

set_option maxHeartbeats 4000000 in
set_option maxRecDepth 100000 in
theorem hPush_takes {w : World} {hb : Nat} {S : Nat → Prop} {T : List M} (h : CalAt w hb S T) (m : M) (hm : m.fits) (hs : hasS T m.k.f m.u = false) (hTl : T.length < 16384) :
    Calls Try.prog 15 #[.pointer (some ⟨hb, 0, none⟩), m.val] w fun e w' => e = .returned (.int .i64 0) ∧ PushPost w hb S T m w' := by
  have mixed := mixed
  obtain ⟨W0, hW0⟩ : ∃ W0, W0 = w.alloc (.cells m.cells 34) := ⟨_, rfl⟩
  have hB0 : Hid (Below w.heap.size w W0) := by rw [hW0]; exact (Below.refl _ w).alloc (Nat.le_refl _) _
  have hR0 : Hid (BoxM W0 w.heap.size m) := by rw [hW0]; exact BoxM.mk w m
  have hput := put_list h.o h.u hs
  have hfit := h.fits
  have hperm : (mg ltM T [m]).Perm (m :: T) := hput.2.2.1.trans (List.perm_append_comm (l₁ := T) (l₂ := [m]))
  obtain ⟨rb, mb, most, bv, av, B, us, h1, hS, hSl⟩ := h
  have h0 := h1.below hB0.out
  have hsend := fun w => sending_any m w
  simp only [M.val, sendV] at hsend
  have hhas : Hid (∀ w1, Below W0.heap.size W0 w1 → Calls Try.prog 27 #[.pointer (some ⟨hb, 0, none⟩), .agg #[.int .i64 m.k.f, .int .i64 m.u]] w1 fun e w' => e = .returned (.bool false) ∧ Below w1.heap.size w1 w') := by
    intro w1 hw1
    have h2 := h0.below hw1
    have := (has_any h2.row h2.keys (f := m.k.f) (u := m.u) hm.1.2.1 hm.2.2.2).mono (fun e w' h => (⟨h.1, h.2.below⟩ : _ ∧ Below w1.heap.size w1 w'))
    rwa [hs] at this
  have hsz : Hid (∀ w1, Below W0.heap.size W0 w1 → w1.cell? ⟨hb, 1, none⟩ = some (.map (some mb)) ∧ ∀ ty, (Builtin.len_ #[53] ty #[.map (some mb)]).run Try.prog w1 = .ok (.int .i64 T.length) w1) := by
    intro w1 hw1
    have h2 := h0.below hw1
    exact ⟨h2.row.c1, fun ty => h2.keys.len ty⟩
  have hadd : Hid (∀ W', Below W0.heap.size W0 W' → BoxM W' w.heap.size m ∧ LadRow W' hb rb mb ∧ Calls Try.prog 29 #[.pointer (some ⟨rb, 0, none⟩), m.val] W' fun e w4 => e = .returned (.tuple #[]) ∧ Hid (BoxM w4 w.heap.size m ∧ LadRow w4 hb rb mb ∧
      ∀ W5, Below w4.heap.size w4 W5 → KeysAt W5 mb T ∧ ∀ W6, KeysAt W6 mb (mg ltM T [m]) → KeptOff (fun k => k = mb) W5 W6 → PushPost w hb S T m W6)) := by
    intro W' hW'
    have h2 := h0.below hW'
    have hR2 := hR0.out.below hW'
    have hpm : (mg ltM T [m]).Perm (m :: held B us) := hperm.trans (h1.same.symm.cons m)
    have hlen := h1.hlen
    refine ⟨hR2, h2.row, (put_any h2.rungs h2.stairs m (hput.2.1.perm hpm) h2.most1 (by omega)).mono ?_⟩
    rintro e w4 ⟨he, B', us', bv', av', hr, hst, hp4⟩
    have hnew : ∀ k, w.heap.size ≤ k → ¬ ROwn rb bv av us k := fun k hk e => by have := h1.own_lt (.inr (.inr e)); omega
    have hr4 : LadRow w4 hb rb mb := (hr.2.1.block hb h2.row.lt (fun e => (h1.off e).1 rfl)).trans h2.row
    have hK4 := h2.keys.kept hr.2.1 (fun e => (h1.off e).2 rfl)
    refine ⟨he, hR2.kept hr.2.1 (hnew _ (Nat.le_refl _)), hr4, fun W5 hb5 => ⟨hK4.below' hb5, fun W6 hK6 hk6 => ?_⟩⟩
    have hmb4 : ∀ k, ROwn rb bv' av' us' k → ¬ k = mb := fun k e e2 => by
      obtain ⟨cur, t, g1, -⟩ := hr.1.tags e
      obtain ⟨es, c, hm⟩ := hK4.tag
      rw [e2, hm] at g1
      cases g1
    have hR6 := (hr.1.below hb5).kept hk6 hmb4
    have hr5 : LadRow W5 hb rb mb := (hb5.block hb hr4.lt).trans hr4
    have hr6 : LadRow W6 hb rb mb := (hk6.block hb hr5.lt h1.hb_mb).trans hr5
    have kall : KeptOff S w W6 := by
      have k1 : KeptOff S w W' := .of_below (hB0.out.trans (hW'.mono hB0.out.size))
      refine ((k1.trans (hr.2.1.mono (fun k _ e => hS k (.inr (.inr e))))).then_new (S' := fun _ => False) (.of_below hb5) (fun k _ e => e.elim)).trans (hk6.mono (fun k _ e => hS k (.inr (.inl e))))
    have hfit6 : ∀ x ∈ mg ltM T [m], x.fits := fun x hx => (List.mem_cons.1 (hperm.mem_iff.1 hx)).elim (fun e => e ▸ hm) (fun hx => hfit x hx)
    have hL6 : LadOf W6 hb rb mb most bv' av' B' us' (mg ltM T [m]) := { row := hr6, rungs := hR6, stairs := hst, same := hp4.trans hpm.symm, o := hput.1, u := hput.2.1, fits := hfit6, small := (by rw [hput.2.2.2]; omega), most1 := h1.most1, keys := hK6 }
    refine ⟨fun k => S k ∨ (w.heap.size ≤ k ∧ k < W6.heap.size), ⟨rb, mb, most, bv', av', B', us', hL6, ?_, ?_⟩, kall, fun k e => e.imp id (fun e => e.1)⟩
    · rintro k (e | e | e)
      · exact .inl (hS k (.inl e))
      · exact .inl (hS k (.inr (.inl e)))
      · rcases hr.2.2 k e with e2 | e2
        · exact .inl (hS k (.inr (.inr e2)))
        · exact .inr ⟨by have := hB0.out.size; have := hW'.size; omega, hL6.own_lt (.inr (.inr e))⟩
    · rintro k (e | e)
      · exact Nat.lt_of_lt_of_le (hSl k e) kall.size
      · exact e.2
  have hmd := made_ok h0.row
  obtain ⟨-, x0, x1, x2, x3, x4, x5, x6⟩ := hR0.out.at
  simp only [Nat.zero_add] at x0 x1 x2 x3 x4 x5 x6
  have hW0' := Lib.hid hW0
  have hmf := Lib.hid hm
  have hs' := Lib.hid hs
  have hfit' := Lib.hid hfit
  have hperm' := Lib.hid hperm
  have hTl' := Lib.hid hTl
  have hk' : ¬ (16384 : Int) ≤ (T.length : Int) := by omega
  generalize PushPost w hb S T m = R at hadd ⊢
  obtain ⟨m1, hm1⟩ : ∃ m1, m1 = m := ⟨_, rfl⟩
  have hm1' := Lib.hid hm1
  rw [← hm1] at hmf hs' hperm' hadd hR0
  clear h1 h0 hm hs hfit hput hperm hS hSl hW0 hm1 hTl
  obtain ⟨⟨t, f, s⟩, tt, vv, u, an⟩ := m
  have hmv : Hid (m1.val = .agg #[.int .i64 t, .int .i64 f, .int .i64 s, .int .i64 tt, .int .i64 vv, .int .i64 u, .bool an]) := by show _ = _; rw [hm1'.out]; rfl
  have hkv : Hid (m1.k.val = .agg #[.int .i64 t, .int .i64 f, .int .i64 s] ∧ m1.k.f = f ∧ m1.u = u) := by show _ ∧ _; rw [hm1'.out]; exact ⟨rfl, rfl, rfl⟩
  simp only [M.val, M.cells] at hW0' hsend hhas x0 x1 x2 x3 x4 x5 x6 ⊢
  have hboxc : Hid (∀ W, BoxM W w.heap.size m1 → MsgAt W w.heap.size 0 ⟨⟨t, f, s⟩, tt, vv, u, an⟩) := by intro W hW; have := hW.at; rwa [hm1'.out] at this
  go_enter Try.func15, Try.ntmps15
  go_upto_region 1 with (fail)
  rw [← hW0'.out]
  go_upto_region 7 with (first
      | (go_at_call 25; refine hmd.mono ?_; rintro e w' ⟨rfl, rfl⟩)
      | (go_at_call 28; refine (hsend _).mono ?_; rintro e w1 ⟨rfl, hr1⟩; have hh1 := hhas.out w1 hr1.below; have hr1' := Lib.hid hr1; clear hr1)
      | (go_at_call 27; refine hh1.mono ?_; rintro e w2 ⟨rfl, hb2⟩; have hb12 := hr1'.out.below.trans (hb2.mono hr1'.out.below.size); obtain ⟨c2, hln⟩ := hsz.out w2 hb12; have hb2' := Lib.hid hb12; clear hb2 hb12))
  obtain ⟨hR2, hh2, _⟩ := hadd.out w2 hb2'.out
  have e0 := fun q => wide_cell (w := w2) (a := ⟨hb, 0, none⟩) q hh2.lt hh2.c0
  obtain ⟨-, y0, y1, y2, y3, y4, y5, y6⟩ := hboxc.out w2 hR2
  simp only [Nat.zero_add] at y0 y1 y2 y3 y4 y5 y6
  have z0 := fun q => wide_cell (w := w2) q hR2.lt y0
  have z1 := fun q => wide_cell (w := w2) q hR2.lt y1
  have z2 := fun q => wide_cell (w := w2) q hR2.lt y2
  have z3 := fun q => wide_cell (w := w2) q hR2.lt y3
  have z4 := fun q => wide_cell (w := w2) q hR2.lt y4
  have z5 := fun q => wide_cell (w := w2) q hR2.lt y5
  have z6 := fun q => wide_cell (w := w2) q hR2.lt y6
  clear x0 x1 x2 x3 x4 x5 x6 y0 y1 y2 y3 y4 y5 y6 hmd hhas hsz hh1 hln c2 hh2 hR2
  refine wp_region_wide_tail 5 (by kernel_rfl) (by kernel_rfl) ?_
  simp only [List.take_succ_cons, List.take_zero, List.drop_succ_cons, List.drop_zero]
  repeat (quiet_step (fail))
  refine wpQuiet_nil ?_
  refine wide_all fun W3 hb3 => ?_
  clear e0 z0 z1 z2 z3 z4 z5 z6
  obtain ⟨-, -, hcall⟩ := hadd.out W3 (hb2'.out.trans (hb3.mono hb2'.out.size))
  rw [hmv.out] at hcall
  go_upto_region 8 with (go_at_call 29; refine hcall.mono ?_; rintro e w4 ⟨rfl, ha4⟩)
  obtain ⟨hR4, hh4, hnext⟩ := ha4.out
  have hnext' := Lib.hid hnext
  have e1 := fun q => wide_cell (w := w4) (a := ⟨hb, 1, none⟩) q hh4.lt hh4.c1
  obtain ⟨-, y0, y1, y2, y3, y4, y5, y6⟩ := hboxc.out w4 hR4
  simp only [Nat.zero_add] at y0 y1 y2 y3 y4 y5 y6
  have z0 := fun q => wide_cell (w := w4) q hR4.lt y0
  have z1 := fun q => wide_cell (w := w4) q hR4.lt y1
  have z2 := fun q => wide_cell (w := w4) q hR4.lt y2
  have z3 := fun q => wide_cell (w := w4) q hR4.lt y3
  have z4 := fun q => wide_cell (w := w4) q hR4.lt y4
  have z5 := fun q => wide_cell (w := w4) q hR4.lt y5
  have z6 := fun q => wide_cell (w := w4) q hR4.lt y6
  have hs3 := fun q : WB => (hsend (wide w4 q)).mono (R' := fun e w' => e = .returned (.agg #[.int .i64 f, .int .i64 u]) ∧ Below (wide w4 q).heap.size (wide w4 q) w') (fun e w' h => ⟨h.1, h.2.below⟩)
  clear y0 y1 y2 y3 y4 y5 y6 hR4 hh4 hnext hcall ha4 hsend
  refine wp_region_wide_tail 7 (by kernel_rfl) (by kernel_rfl) ?_
  simp only [List.take_succ_cons, List.take_zero, List.drop_succ_cons, List.drop_zero]
  repeat (quiet_step (exact Calls.wide_of (hs3 _)))
  refine wpQuiet_nil ?_
  refine wide_all fun W5 hb5 => ?_
  clear e1 z0 z1 z2 z3 z4 z5 z6 hs3
  obtain ⟨hK5, hlast⟩ := hnext'.out W5 hb5
  have hlast' := Lib.hid hlast
  have ex : Value.agg #[.int .i64 f, .int .i64 u] = .agg #[.int .i64 m1.k.f, .int .i64 m1.u] := by rw [hkv.out.2.1, hkv.out.2.2]
  clear hlast hb5
  go_upto_region 9 with ((refine wpList_store_keys rfl _ _ _ rfl m1 rfl ex rfl hK5 hmf.out hs'.out (by have := hTl'.out; omega) hperm'.out ?_; intro w6 hK6 hk6; have hQ6 := Lib.hid (hlast'.out w6 hK6.out hk6.out); clear hK6 hk6))
  clear hK5 hlast'
  go_wp2
  go_ret
  exact ⟨rfl, hQ6.out⟩

/-- Any Push. -/
theorem hPush_any {w : World} {hb : Nat} {S : Nat → Prop} {T : List M} (h : CalAt w hb S T) (m : M) (hm : m.fits) :
    Calls Try.prog 15 #[.pointer (some ⟨hb, 0, none⟩), m.val] w fun e w' => e = .returned (.int .i64 (pushC T m)) ∧ ∃ S', CalAt w' hb S' (pushT T m) ∧ CStep w w' S S' := by
  by_cases h1 : hasS T m.k.f m.u = true
  · refine (hPush_stay h m hm (.inl h1)).mono ?_
    rintro e w' ⟨he, hb'⟩
    have e1 : pushT T m = T := by unfold pushT; rw [if_pos h1]
    rw [e1]
    exact ⟨he, S, h.below hb', .of_below hb'⟩
  · by_cases h2 : 16384 ≤ T.length
    · refine (hPush_stay h m hm (.inr h2)).mono ?_
      rintro e w' ⟨he, hb'⟩
      have e1 : pushT T m = T := by unfold pushT; rw [if_neg h1, if_pos h2]
      rw [e1]
      exact ⟨he, S, h.below hb', .of_below hb'⟩
    · have e1 : pushT T m = mg ltM T [m] := by unfold pushT; rw [if_neg h1, if_neg h2]
      have e2 : pushC T m = 0 := by unfold pushC; rw [if_neg h1, if_neg h2]
      rw [e1, e2]
      exact hPush_takes h m hm (by simpa using h1) (by omega)
end Go.Proofs.Ytcfpfbemmklbaaa
