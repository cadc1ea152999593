/-
  A ladder: First, Pop.
-/
import Derived.Test.YtcfpfbemmklbaaaLDQF
namespace Go.Proofs.Ytcfpfbemmklbaaa
open Go.ChangeShapes Go.WideShapes Go.ChangeAt Go.Shelf Go.RowKit Go.Lib Go.Sort Go.Deep Go.Maps
set_option linter.unusedVariables false

/-- Behind a message taken out of the rungs, and forgotten. -/
theorem LadOf.gone {w w2 : World} {hb rb mb : Nat} {most : Int} {bv av : Value} {B : List M} {us : List Up} {T T' : List M} {m : M} (h : LadOf w hb rb mb most bv av B us T) (hp : (m :: T').Perm T) (hO : InOrder ltM T') (ht : Taken w rb most bv av us (held B us) m w2) :
    LadRow w2 hb rb mb ∧ KeysAt w2 mb T ∧ KeptOff (ROwn rb bv av us) w w2 ∧ ∀ w3, KeysAt w3 mb T' → KeptOff (fun k => k = mb) w2 w3 → ∃ bv' av' B' us', LadOf w3 hb rb mb most bv' av' B' us' T' ∧ KeptOff (LOwn hb rb mb bv av us) w w3 ∧ ∀ k, LOwn hb rb mb bv' av' us' k → LOwn hb rb mb bv av us k ∨ w.heap.size ≤ k := by
  obtain ⟨B', us', bv', av', hr, hS, hp2⟩ := ht
  have hhb : ¬ ROwn rb bv av us hb := fun e => (h.off e).1 rfl
  have hmb : ¬ ROwn rb bv av us mb := fun e => (h.off e).2 rfl
  have r2 : LadRow w2 hb rb mb := (hr.2.1.block hb h.row.lt hhb).trans h.row
  have k2 := h.keys.kept hr.2.1 hmb
  refine ⟨r2, k2, hr.2.1, fun w3 k3 o3 => ⟨bv', av', B', us', ?_, (hr.2.1.mono (fun k _ e => .inr (.inr e))).then_new o3 (fun k _ e => .inr (.inl e)), ?_⟩⟩
  · have hml := h.keys.lt
    have hnm : ∀ k, ROwn rb bv' av' us' k → ¬ k = mb := fun k e e2 => by
      obtain ⟨cur, t, h1, -⟩ := hr.1.tags e
      obtain ⟨es, c, hm⟩ := k2.tag
      rw [e2, hm] at h1
      cases h1
    have hlen := hp.length_eq
    have hsm := h.small
    rw [List.length_cons] at hlen
    exact { row := (o3.block hb r2.lt h.hb_mb).trans r2, rungs := hr.1.kept o3 hnm, stairs := hS, same := List.Perm.cons_inv (hp2.trans (h.same.trans hp.symm)), o := hO, u := h.u.rest hp, fits := fun x hx => h.fits x (hp.mem_iff.1 (List.mem_cons_of_mem _ hx)), small := by omega, most1 := h.most1, keys := k3 }
  · rintro k (e | e | e)
    · exact .inl (.inl e)
    · exact .inl (.inr (.inl e))
    · exact (hr.2.2 k e).imp (fun e => .inr (.inr e)) id
/-- .. and the result's store. -/
theorem CalAt.of_gone {w W0 w3 : World} {hb rb mb : Nat} {most : Int} {bv av bv' av' : Value} {B' : List M} {us us' : List Up} {T' : List M} {S : Nat → Prop} (hS : ∀ k, LOwn hb rb mb bv av us k → S k) (hSl : ∀ k, S k → k < w.heap.size) (hb0 : Below w.heap.size w W0) (hlt : w.heap.size < W0.heap.size)
    (h : LadOf w3 hb rb mb most bv' av' B' us' T') (hk : KeptOff (LOwn hb rb mb bv av us) W0 w3) (ho : ∀ k, LOwn hb rb mb bv' av' us' k → LOwn hb rb mb bv av us k ∨ W0.heap.size ≤ k) (cs : Array Value) :
    ∃ S', CalAt (w3.setRow w.heap.size cs) hb S' T' ∧ CStep w (w3.setRow w.heap.size cs) S S' := by
  have k := KeptOff.row w3 w.heap.size cs
  refine ⟨fun k => S k ∨ (W0.heap.size ≤ k ∧ k < w3.heap.size), ⟨rb, mb, most, bv', av', B', us', h.kept k (fun k hk e => ?_), fun k hk => ?_, fun j hj => ?_⟩, ((KeptOff.of_below hb0).trans (hk.mono (fun k _ e => hS k e))).then_new k (fun k hk e => by omega), fun k e => e.imp id (fun e => by omega)⟩
  · rcases ho k hk with e2 | e2
    · have := hSl k (hS k e2); omega
    · omega
  · exact (ho k hk).imp (fun e => hS k e) (fun e => ⟨e, h.own_lt hk⟩)
  · have h3 := k.size
    have h2 := hk.size
    rcases hj with e | e
    · have := hSl j e; have := hb0.size; omega
    · omega
theorem CalAt.front {w : World} {hb rb mb : Nat} {most : Int} {bv av : Value} {B : List M} {us : List Up} {m : M} {T : List M} (h : LadOf w hb rb mb most bv av B us (m :: T)) : ∃ B', B = m :: B' := h.stairs.first h.same h.o h.u

set_option maxHeartbeats 1000000 in
theorem hFirst_none {w : World} {hb : Nat} {S : Nat → Prop} (h : CalAt w hb S []) :
    Calls Try.prog 19 #[.pointer (some ⟨hb, 0, none⟩)] w fun e w' => e = .returned (.tuple #[zeroM.val, .int .i64 6]) ∧ Below w.heap.size w w' := by
  obtain ⟨rb, mb, most, bv, av, B, us, h1, -, -⟩ := h
  have hr := refusal_any (h1.below ((Below.refl _ w).alloc (Nat.le_refl _) (.cells #[.int .i64 0, .int .i64 0, .int .i64 0, .int .i64 0, .int .i64 0, .int .i64 0, .bool false] 34))).row (h1.below ((Below.refl _ w).alloc (Nat.le_refl _) (.cells #[.int .i64 0, .int .i64 0, .int .i64 0, .int .i64 0, .int .i64 0, .int .i64 0, .bool false] 34))).keys
  simp only [if_true] at hr
  clear h1
  go_enter Try.func19, Try.ntmps19
  go_wp2_with (go_at_call 33; refine hr.mono ?_; rintro e w' ⟨rfl, rfl⟩)
  refine bodyPost_ret (v := .tuple #[.agg #[.int .i64 0, .int .i64 0, .int .i64 0, .int .i64 0, .int .i64 0, .int .i64 0, .bool false], .int .i64 6]) (by simp [results, Try.results19, go_sem]) rfl ⟨rfl, ?_⟩
  repeat (refine Below.setCell ?_ (by simp) _)
  exact (Below.refl _ w).alloc (Nat.le_refl _) _

set_option maxHeartbeats 1000000 in
theorem hFirst_some {w : World} {hb : Nat} {S : Nat → Prop} {m : M} {T : List M} (h : CalAt w hb S (m :: T)) :
    Calls Try.prog 19 #[.pointer (some ⟨hb, 0, none⟩)] w fun e w' => e = .returned (.tuple #[m.val, .int .i64 0]) ∧ Below w.heap.size w w' := by
  obtain ⟨W0, hW0⟩ : ∃ W0, W0 = w.alloc (.cells #[.int .i64 0, .int .i64 0, .int .i64 0, .int .i64 0, .int .i64 0, .int .i64 0, .bool false] 34) := ⟨_, rfl⟩
  have hB0 : Hid (Below w.heap.size w W0) := by rw [hW0]; exact (Below.refl _ w).alloc (Nat.le_refl _) _
  have hR0 : Hid (BoxM W0 w.heap.size zeroM) := by rw [hW0]; exact BoxM.mk w zeroM
  obtain ⟨rb, mb, most, bv, av, B, us, h1, -, -⟩ := h
  have h0 := h1.below hB0.out
  have hr := refusal_any h0.row h0.keys
  simp only [reduceCtorEq, if_false] at hr
  obtain ⟨B', hB'⟩ := CalAt.front h0
  have hf := first_any h0.rungs (by rw [hB']; simp)
  have hbm : B.getD 0 default = m := by rw [hB']; rfl
  rw [hbm] at hf
  have c0 := h0.row.c0
  have hr' := Lib.hid hr
  have hf' := Lib.hid hf
  clear h1 h0 hr hf hbm hB'
  go_enter Try.func19, Try.ntmps19
  go_upto_region 1 with (fail)
  rw [← hW0]
  clear hW0
  go_wp2_with (first
    | (go_at_call 33; refine hr'.out.mono ?_; rintro e w' ⟨rfl, rfl⟩)
    | (go_at_call 37; refine hf'.out.mono ?_; rintro e w3 ⟨rfl, hb3⟩; have hR3 := Lib.hid (hR0.out.below hb3); have hb3' := Lib.hid hb3; clear hb3)
    | (refine wpList_store_row rfl 34 (.tmp 2) (.tmp 17) rfl w.heap.size m.cells rfl rfl 34 zeroM.cells hR3.out infoS rfl (M.cells_one m) ?_))
  obtain ⟨-, s0, s1, s2, s3, s4, s5, s6⟩ := (hR3.out.row m).at
  simp only [Nat.zero_add] at s0 s1 s2 s3 s4 s5 s6
  refine bodyPost_ret (v := .tuple #[m.val, .int .i64 0]) (by simp [results, Try.results19, go_sem, s0, s1, s2, s3, s4, s5, s6, M.val]) rfl ⟨rfl, ?_⟩
  exact below_setRow (hB0.out.trans (hb3'.out.mono hB0.out.size)) (Nat.le_refl _) _

set_option maxHeartbeats 1000000 in
theorem hPop_none {w : World} {hb : Nat} {S : Nat → Prop} (h : CalAt w hb S []) :
    Calls Try.prog 17 #[.pointer (some ⟨hb, 0, none⟩)] w fun e w' => e = .returned (.tuple #[zeroM.val, .int .i64 6]) ∧ Below w.heap.size w w' := by
  obtain ⟨rb, mb, most, bv, av, B, us, h1, -, -⟩ := h
  have hr := refusal_any (h1.below ((Below.refl _ w).alloc (Nat.le_refl _) (.cells #[.int .i64 0, .int .i64 0, .int .i64 0, .int .i64 0, .int .i64 0, .int .i64 0, .bool false] 34))).row (h1.below ((Below.refl _ w).alloc (Nat.le_refl _) (.cells #[.int .i64 0, .int .i64 0, .int .i64 0, .int .i64 0, .int .i64 0, .int .i64 0, .bool false] 34))).keys
  simp only [if_true] at hr
  clear h1
  go_enter Try.func17, Try.ntmps17
  go_wp2_with (go_at_call 33; refine hr.mono ?_; rintro e w' ⟨rfl, rfl⟩)
  refine bodyPost_ret (v := .tuple #[.agg #[.int .i64 0, .int .i64 0, .int .i64 0, .int .i64 0, .int .i64 0, .int .i64 0, .bool false], .int .i64 6]) (by simp [results, Try.results17, go_sem]) rfl ⟨rfl, ?_⟩
  repeat (refine Below.setCell ?_ (by simp) _)
  exact (Below.refl _ w).alloc (Nat.le_refl _) _

set_option maxHeartbeats 1000000 in
theorem hPop_some {w : World} {hb : Nat} {S : Nat → Prop} {m : M} {T : List M} (h : CalAt w hb S (m :: T)) :
    Calls Try.prog 17 #[.pointer (some ⟨hb, 0, none⟩)] w fun e w' => e = .returned (.tuple #[m.val, .int .i64 0]) ∧ ∃ S', CalAt w' hb S' T ∧ CStep w w' S S' := by
  obtain ⟨W0, hW0⟩ : ∃ W0, W0 = w.alloc (.cells #[.int .i64 0, .int .i64 0, .int .i64 0, .int .i64 0, .int .i64 0, .int .i64 0, .bool false] 34) := ⟨_, rfl⟩
  have hB0 : Hid (Below w.heap.size w W0) := by rw [hW0]; exact (Below.refl _ w).alloc (Nat.le_refl _) _
  have hR0 : Hid (BoxM W0 w.heap.size zeroM) := by rw [hW0]; exact BoxM.mk w zeroM
  have hs0 : w.heap.size < W0.heap.size := hR0.out.lt
  obtain ⟨rb, mb, most, bv, av, B, us, h1, hS, hSl⟩ := h
  have h0 := h1.below hB0.out
  have hr := refusal_any h0.row h0.keys
  simp only [reduceCtorEq, if_false] at hr
  obtain ⟨B', hB'⟩ := CalAt.front h0
  have hbm : B.getD 0 default = m := by rw [hB']; rfl
  have hlen := h0.hlen
  have hsm := h0.small
  have hpop : Hid (Calls Try.prog 35 #[.pointer (some ⟨rb, 0, none⟩)] W0 fun e w2 => e = .returned m.val ∧ Hid (Calls Try.prog 34 #[.pointer (some ⟨hb, 0, none⟩), m.val] w2 fun e w3 => e = .returned m.val ∧ Hid (BoxM w3 w.heap.size zeroM ∧ ∃ S', CalAt (w3.setRow w.heap.size m.cells) hb S' T ∧ CStep w (w3.setRow w.heap.size m.cells) S S'))) := by
    refine (pop_any h0.rungs h0.stairs h0.hU h0.most1 (by omega) (by rw [hB']; simp)).mono ?_
    rintro e w2 ⟨he, ht⟩
    rw [hbm] at he ht
    obtain ⟨r2, k2, o2, hnext⟩ := h0.gone (List.Perm.refl _) (List.pairwise_cons.1 h0.o).2 ht
    refine ⟨he, (forget_any r2 k2 m (h0.fits m (List.mem_cons_self ..)) (List.Perm.refl _) h0.u).mono ?_⟩
    rintro e w3 ⟨he, hq⟩
    obtain ⟨k3, o3⟩ := hq.out
    obtain ⟨bv', av', B'', us', h3, hk3, ho3⟩ := hnext w3 k3 o3
    have hz3 : BoxM w3 w.heap.size zeroM := hR0.out.kept hk3 (fun e => by have := h1.own_lt e; omega)
    exact ⟨he, hz3, CalAt.of_gone hS hSl hB0.out hs0 h3 hk3 ho3 _⟩
  have c0 := h0.row.c0
  rw [show m.val = .agg #[.int .i64 m.k.t, .int .i64 m.k.f, .int .i64 m.k.s, .int .i64 m.to, .int .i64 m.v, .int .i64 m.u, .bool m.anti] from rfl] at hpop
  have hr' := Lib.hid hr
  clear h1 h0 hr hS hSl hB' hbm hlen hsm hs0
  go_enter Try.func17, Try.ntmps17
  go_upto_region 1 with (fail)
  rw [← hW0]
  clear hW0
  go_wp2_with (first
    | (go_at_call 33; refine hr'.out.mono ?_; rintro e w' ⟨rfl, rfl⟩)
    | (go_at_call 35; refine hpop.out.mono ?_; rintro e w2 ⟨rfl, hfg⟩)
    | (go_at_call 34; refine hfg.out.mono ?_; rintro e w3 ⟨rfl, hQ3⟩)
    | (refine wpList_store_row rfl 34 (.tmp 2) (.tmp 17) rfl w.heap.size m.cells rfl rfl 34 zeroM.cells hQ3.out.1 infoS rfl (M.cells_one m) ?_))
  obtain ⟨-, s0, s1, s2, s3, s4, s5, s6⟩ := (hQ3.out.1.row m).at
  simp only [Nat.zero_add] at s0 s1 s2 s3 s4 s5 s6
  exact bodyPost_ret (v := .tuple #[m.val, .int .i64 0]) (by simp [results, Try.results17, go_sem, s0, s1, s2, s3, s4, s5, s6, M.val]) rfl ⟨rfl, hQ3.out.2⟩
end Go.Proofs.Ytcfpfbemmklbaaa
