/-
  A ladder: Push.
-/
import Derived.Test.YtcfpfbemmklbaaaLDQA
import Derived.Test.YtcfpfbemmklbaaaLDQC
namespace Go.Proofs.Ytcfpfbemmklbaaa
open Go.ChangeShapes Go.WideShapes Go.ChangeAt Go.Shelf Go.RowKit Go.Lib Go.Sort Go.Deep Go.Maps
set_option linter.unusedVariables false

/-- What a Push answers. -/
def pushC (T : List M) (m : M) : Int := if hasS T m.k.f m.u = true then 8 else if 16384 ≤ T.length then 9 else 0
/-- What a Push makes of the messages. -/
def pushT (T : List M) (m : M) : List M := if hasS T m.k.f m.u = true then T else if 16384 ≤ T.length then T else mg ltM T [m]
/-- What a Push of a message that is taken leaves. -/
def PushPost (w : World) (hb : Nat) (S : Nat → Prop) (T : List M) (m : M) (w' : World) : Prop := ∃ S', CalAt w' hb S' (mg ltM T [m]) ∧ CStep w w' S S'

set_option maxHeartbeats 2000000 in
set_option maxRecDepth 100000 in
theorem hPush_stay {w : World} {hb : Nat} {S : Nat → Prop} {T : List M} (h : CalAt w hb S T) (m : M) (hm : m.fits) (hst : hasS T m.k.f m.u = true ∨ 16384 ≤ T.length) :
    Calls Try.prog 15 #[.pointer (some ⟨hb, 0, none⟩), m.val] w fun e w' => e = .returned (.int .i64 (pushC T m)) ∧ Below w.heap.size w w' := by
  obtain ⟨W0, hW0⟩ : ∃ W0, W0 = w.alloc (.cells m.cells 34) := ⟨_, rfl⟩
  have hB0 : Hid (Below w.heap.size w W0) := by rw [hW0]; exact (Below.refl _ w).alloc (Nat.le_refl _) _
  have hR0 : Hid (BoxM W0 w.heap.size m) := by rw [hW0]; exact BoxM.mk w m
  have hC : Hid (pushC T m = if hasS T m.k.f m.u = true then 8 else if 16384 ≤ T.length then 9 else 0) := rfl
  obtain ⟨r, hr⟩ : ∃ r, hasS T m.k.f m.u = r := ⟨_, rfl⟩
  rw [hr] at hst
  have hr' := Lib.hid hr
  have h0 := h.below hB0.out
  obtain ⟨rb, mb, most, bv, av, B, us, h1, -, -⟩ := h0
  have hsend := fun w => sending_any m w
  simp only [M.val, sendV] at hsend
  have hhas : Hid (∀ w1, Below W0.heap.size W0 w1 → Calls Try.prog 27 #[.pointer (some ⟨hb, 0, none⟩), .agg #[.int .i64 m.k.f, .int .i64 m.u]] w1 fun e w' => e = .returned (.bool r) ∧ Below w1.heap.size w1 w') := by
    intro w1 hw1
    have h2 := h1.below hw1
    have := (has_any h2.row h2.keys (f := m.k.f) (u := m.u) hm.1.2.1 hm.2.2.2).mono (fun e w' h => (⟨h.1, h.2.below⟩ : _ ∧ Below w1.heap.size w1 w'))
    rwa [hr'.out] at this
  have hsz : Hid (∀ w1, Below W0.heap.size W0 w1 → w1.cell? ⟨hb, 1, none⟩ = some (.map (some mb)) ∧ ∀ ty, (Builtin.len_ #[53] ty #[.map (some mb)]).run Try.prog w1 = .ok (.int .i64 T.length) w1) := by
    intro w1 hw1
    have h2 := h1.below hw1
    exact ⟨h2.row.c1, fun ty => h2.keys.len ty⟩
  have hmd := made_ok h1.row
  obtain ⟨-, x0, x1, x2, x3, x4, x5, x6⟩ := hR0.out.at
  simp only [Nat.zero_add] at x0 x1 x2 x3 x4 x5 x6
  clear h h1 hr hm
  have hW0' := Lib.hid hW0
  clear hW0
  obtain ⟨c, hc⟩ : ∃ c, pushC T m = c := ⟨_, rfl⟩
  rw [hc] at hC ⊢
  clear hc
  obtain ⟨⟨t, f, s⟩, tt, vv, u, an⟩ := m
  simp only [M.val, M.cells] at hW0' hsend hhas x0 x1 x2 x3 x4 x5 x6 ⊢
  cases r with
  | true =>
    obtain rfl : c = 8 := by rw [hC.out, hr'.out]; simp
    clear hst
    go_enter Try.func15, Try.ntmps15
    go_upto_region 1 with (fail)
    rw [← hW0'.out]
    go_wp2_with (first
      | (go_at_call 25; refine hmd.mono ?_; rintro e w' ⟨rfl, rfl⟩)
      | (go_at_call 28; refine (hsend _).mono ?_; rintro e w1 ⟨rfl, hr1⟩; have hh1 := hhas.out w1 hr1.below; have hr1' := Lib.hid hr1; clear hr1)
      | (go_at_call 27; refine hh1.mono ?_; rintro e w2 ⟨rfl, hb2⟩; have hb2' := Lib.hid hb2; clear hb2))
    go_ret
    exact ⟨rfl, hB0.out.trans ((hr1'.out.below.trans (hb2'.out.mono hr1'.out.below.size)).mono hB0.out.size)⟩
  | false =>
    have hk : 16384 ≤ T.length := by
      rcases hst with e | e
      · cases e
      · exact e
    obtain rfl : c = 9 := by rw [hC.out, hr'.out]; simp [hk]
    have hk' : (16384 : Int) ≤ (T.length : Int) := by omega
    generalize T.length = N at *
    clear hk hst
    go_enter Try.func15, Try.ntmps15
    go_upto_region 1 with (fail)
    rw [← hW0'.out]
    go_wp2_with (first
      | (go_at_call 25; refine hmd.mono ?_; rintro e w' ⟨rfl, rfl⟩)
      | (go_at_call 28; refine (hsend _).mono ?_; rintro e w1 ⟨rfl, hr1⟩; have hh1 := hhas.out w1 hr1.below; have hr1' := Lib.hid hr1; clear hr1)
      | (go_at_call 27; refine hh1.mono ?_; rintro e w2 ⟨rfl, hb2⟩; have hb12 := hr1'.out.below.trans (hb2.mono hr1'.out.below.size); obtain ⟨c2, hln⟩ := hsz.out w2 hb12; have hb2' := Lib.hid hb12; clear hb2 hb12))
    go_ret
    exact ⟨rfl, hB0.out.trans (hb2'.out.mono hB0.out.size)⟩

set_option maxHeartbeats 4000000 in
set_option maxRecDepth 100000 in
theorem hPush_takes {w : World} {hb : Nat} {S : Nat → Prop} {T : List M} (h : CalAt w hb S T) (m : M) (hm : m.fits) (hs : hasS T m.k.f m.u = false) (hTl : T.length < 16384) :
    Calls Try.prog 15 #[.pointer (some ⟨hb, 0, none⟩), m.val] w fun e w' => e = .returned (.int .i64 0) ∧ PushPost w hb S T m w' := by
  have mixed := mixed
  obtain ⟨W0, hW0⟩ : ∃ W0, W0 = w.alloc (.cells m.cells 34) := ⟨_, rfl⟩
  have hB0 : Hid (Below w.heap.size w W0) := by rw [hW0]; exact (Below.refl _ w).alloc (Nat.le_refl _) _
  have hR0 : Hid (BoxM W0 w.heap.size m) := by rw [hW0]; exact BoxM.mk w m
  have hput := put_list h.o h.u hs
  have hfit := h.fits
  have hperm : (mg ltM T [m]).Perm (m :: T) := hput.2.2.1.trans (List.perm_append_comm (l₁ := T) (l₂ := [m]))
  obtain ⟨rb, mb, most, bv, av, B, us, h1, hS, hSl⟩ := h
  have h0 := h1.below hB0.out
  have hsend := fun w => sending_any m w
  simp only [M.val, sendV] at hsend
  have hhas : Hid (∀ w1, Below W0.heap.size W0 w1 → Calls Try.prog 27 #[.pointer (some ⟨hb, 0, none⟩), .agg #[.int .i64 m.k.f, .int .i64 m.u]] w1 fun e w' => e = .returned (.bool false) ∧ Below w1.heap.size w1 w') := by
    intro w1 hw1
    have h2 := h0.below hw1
    have := (has_any h2.row h2.keys (f := m.k.f) (u := m.u) hm.1.2.1 hm.2.2.2).mono (fun e w' h => (⟨h.1, h.2.below⟩ : _ ∧ Below w1.heap.size w1 w'))
    rwa [hs] at this
  have hsz : Hid (∀ w1, Below W0.heap.size W0 w1 → w1.cell? ⟨hb, 1, none⟩ = some (.map (some mb)) ∧ ∀ ty, (Builtin.len_ #[53] ty #[.map (some mb)]).run Try.prog w1 = .ok (.int .i64 T.length) w1) := by
    intro w1 hw1
    have h2 := h0.below hw1
    exact ⟨h2.row.c1, fun ty => h2.keys.len ty⟩
  have hadd : Hid (∀ W', Below W0.heap.size W0 W' → BoxM W' w.heap.size m ∧ LadRow W' hb rb mb ∧ Calls Try.prog 29 #[.pointer (some ⟨rb, 0, none⟩), m.val] W' fun e w4 => e = .returned (.tuple #[]) ∧ Hid (BoxM w4 w.heap.size m ∧ LadRow w4 hb rb mb ∧
      ∀ W5, Below w4.heap.size w4 W5 → KeysAt W5 mb T ∧ ∀ W6, KeysAt W6 mb (mg ltM T [m]) → KeptOff (fun k => k = mb) W5 W6 → PushPost w hb S T m W6)) := by
    intro W' hW'
    have h2 := h0.below hW'
    have hR2 := hR0.out.below hW'
    have hpm : (mg ltM T [m]).Perm (m :: held B us) := hperm.trans (h1.same.symm.cons m)
    have hlen := h1.hlen
    refine ⟨hR2, h2.row, (put_any h2.rungs h2.stairs m (hput.2.1.perm hpm) h2.most1 (by omega)).mono ?_⟩
    rintro e w4 ⟨he, B', us', bv', av', hr, hst, hp4⟩
    have hnew : ∀ k, w.heap.size ≤ k → ¬ ROwn rb bv av us k := fun k hk e => by have := h1.own_lt (.inr (.inr e)); omega
    have hr4 : LadRow w4 hb rb mb := (hr.2.1.block hb h2.row.lt (fun e => (h1.off e).1 rfl)).trans h2.row
    have hK4 := h2.keys.kept hr.2.1 (fun e => (h1.off e).2 rfl)
    refine ⟨he, hR2.kept hr.2.1 (hnew _ (Nat.le_refl _)), hr4, fun W5 hb5 => ⟨hK4.below' hb5, fun W6 hK6 hk6 => ?_⟩⟩
    have hmb4 : ∀ k, ROwn rb bv' av' us' k → ¬ k = mb := fun k e e2 => by
      obtain ⟨cur, t, g1, -⟩ := hr.1.tags e
      obtain ⟨es, c, hm⟩ := hK4.tag
      rw [e2, hm] at g1
      cases g1
    have hR6 := (hr.1.below hb5).kept hk6 hmb4
    have hr5 : LadRow W5 hb rb mb := (hb5.block hb hr4.lt).trans hr4
    have hr6 : LadRow W6 hb rb mb := (hk6.block hb hr5.lt h1.hb_mb).trans hr5
    have kall : KeptOff S w W6 := by
      have k1 : KeptOff S w W' := .of_below (hB0.out.trans (hW'.mono hB0.out.size))
      refine ((k1.trans (hr.2.1.mono (fun k _ e => hS k (.inr (.inr e))))).then_new (S' := fun _ => False) (.of_below hb5) (fun k _ e => e.elim)).trans (hk6.mono (fun k _ e => hS k (.inr (.inl e))))
    have hfit6 : ∀ x ∈ mg ltM T [m], x.fits := fun x hx => (List.mem_cons.1 (hperm.mem_iff.1 hx)).elim (fun e => e ▸ hm) (fun hx => hfit x hx)
    have hL6 : LadOf W6 hb rb mb most bv' av' B' us' (mg ltM T [m]) := { row := hr6, rungs := hR6, stairs := hst, same := hp4.trans hpm.symm, o := hput.1, u := hput.2.1, fits := hfit6, small := (by rw [hput.2.2.2]; omega), most1 := h1.most1, keys := hK6 }
    refine ⟨fun k => S k ∨ (w.heap.size ≤ k ∧ k < W6.heap.size), ⟨rb, mb, most, bv', av', B', us', hL6, ?_, ?_⟩, kall, fun k e => e.imp id (fun e => e.1)⟩
    · rintro k (e | e | e)
      · exact .inl (hS k (.inl e))
      · exact .inl (hS k (.inr (.inl e)))
      · rcases hr.2.2 k e with e2 | e2
        · exact .inl (hS k (.inr (.inr e2)))
        · exact .inr ⟨by have := hB0.out.size; have := hW'.size; omega, hL6.own_lt (.inr (.inr e))⟩
    · rintro k (e | e)
      · exact Nat.lt_of_lt_of_le (hSl k e) kall.size
      · exact e.2
  have hmd := made_ok h0.row
  obtain ⟨-, x0, x1, x2, x3, x4, x5, x6⟩ := hR0.out.at
  simp only [Nat.zero_add] at x0 x1 x2 x3 x4 x5 x6
  have hW0' := Lib.hid hW0
  have hmf := Lib.hid hm
  have hs' := Lib.hid hs
  have hfit' := Lib.hid hfit
  have hperm' := Lib.hid hperm
  have hTl' := Lib.hid hTl
  have hk' : ¬ (16384 : Int) ≤ (T.length : Int) := by omega
  generalize PushPost w hb S T m = R at hadd ⊢
  obtain ⟨m1, hm1⟩ : ∃ m1, m1 = m := ⟨_, rfl⟩
  have hm1' := Lib.hid hm1
  rw [← hm1] at hmf hs' hperm' hadd hR0
  clear h1 h0 hm hs hfit hput hperm hS hSl hW0 hm1 hTl
  obtain ⟨⟨t, f, s⟩, tt, vv, u, an⟩ := m
  have hmv : Hid (m1.val = .agg #[.int .i64 t, .int .i64 f, .int .i64 s, .int .i64 tt, .int .i64 vv, .int .i64 u, .bool an]) := by show _ = _; rw [hm1'.out]; rfl
  have hkv : Hid (m1.k.val = .agg #[.int .i64 t, .int .i64 f, .int .i64 s] ∧ m1.k.f = f ∧ m1.u = u) := by show _ ∧ _; rw [hm1'.out]; exact ⟨rfl, rfl, rfl⟩
  simp only [M.val, M.cells] at hW0' hsend hhas x0 x1 x2 x3 x4 x5 x6 ⊢
  have hboxc : Hid (∀ W, BoxM W w.heap.size m1 → MsgAt W w.heap.size 0 ⟨⟨t, f, s⟩, tt, vv, u, an⟩) := by intro W hW; have := hW.at; rwa [hm1'.out] at this
  go_enter Try.func15, Try.ntmps15
  go_upto_region 1 with (fail)
  rw [← hW0'.out]
  go_upto_region 7 with (first
      | (go_at_call 25; refine hmd.mono ?_; rintro e w' ⟨rfl, rfl⟩)
      | (go_at_call 28; refine (hsend _).mono ?_; rintro e w1 ⟨rfl, hr1⟩; have hh1 := hhas.out w1 hr1.below; have hr1' := Lib.hid hr1; clear hr1)
      | (go_at_call 27; refine hh1.mono ?_; rintro e w2 ⟨rfl, hb2⟩; have hb12 := hr1'.out.below.trans (hb2.mono hr1'.out.below.size); obtain ⟨c2, hln⟩ := hsz.out w2 hb12; have hb2' := Lib.hid hb12; clear hb2 hb12))
  obtain ⟨hR2, hh2, _⟩ := hadd.out w2 hb2'.out
  have e0 := fun q => wide_cell (w := w2) (a := ⟨hb, 0, none⟩) q hh2.lt hh2.c0
  obtain ⟨-, y0, y1, y2, y3, y4, y5, y6⟩ := hboxc.out w2 hR2
  simp only [Nat.zero_add] at y0 y1 y2 y3 y4 y5 y6
  have z0 := fun q => wide_cell (w := w2) q hR2.lt y0
  have z1 := fun q => wide_cell (w := w2) q hR2.lt y1
  have z2 := fun q => wide_cell (w := w2) q hR2.lt y2
  have z3 := fun q => wide_cell (w := w2) q hR2.lt y3
  have z4 := fun q => wide_cell (w := w2) q hR2.lt y4
  have z5 := fun q => wide_cell (w := w2) q hR2.lt y5
  have z6 := fun q => wide_cell (w := w2) q hR2.lt y6
  clear x0 x1 x2 x3 x4 x5 x6 y0 y1 y2 y3 y4 y5 y6 hmd hhas hsz hh1 hln c2 hh2 hR2
  refine wp_region_wide_tail 5 (by kernel_rfl) (by kernel_rfl) ?_
  simp only [List.take_succ_cons, List.take_zero, List.drop_succ_cons, List.drop_zero]
  repeat (quiet_step (fail))
  refine wpQuiet_nil ?_
  refine wide_all fun W3 hb3 => ?_
  clear e0 z0 z1 z2 z3 z4 z5 z6
  obtain ⟨-, -, hcall⟩ := hadd.out W3 (hb2'.out.trans (hb3.mono hb2'.out.size))
  rw [hmv.out] at hcall
  go_upto_region 8 with (go_at_call 29; refine hcall.mono ?_; rintro e w4 ⟨rfl, ha4⟩)
  obtain ⟨hR4, hh4, hnext⟩ := ha4.out
  have hnext' := Lib.hid hnext
  have e1 := fun q => wide_cell (w := w4) (a := ⟨hb, 1, none⟩) q hh4.lt hh4.c1
  obtain ⟨-, y0, y1, y2, y3, y4, y5, y6⟩ := hboxc.out w4 hR4
  simp only [Nat.zero_add] at y0 y1 y2 y3 y4 y5 y6
  have z0 := fun q => wide_cell (w := w4) q hR4.lt y0
  have z1 := fun q => wide_cell (w := w4) q hR4.lt y1
  have z2 := fun q => wide_cell (w := w4) q hR4.lt y2
  have z3 := fun q => wide_cell (w := w4) q hR4.lt y3
  have z4 := fun q => wide_cell (w := w4) q hR4.lt y4
  have z5 := fun q => wide_cell (w := w4) q hR4.lt y5
  have z6 := fun q => wide_cell (w := w4) q hR4.lt y6
  have hs3 := fun q : WB => (hsend (wide w4 q)).mono (R' := fun e w' => e = .returned (.agg #[.int .i64 f, .int .i64 u]) ∧ Below (wide w4 q).heap.size (wide w4 q) w') (fun e w' h => ⟨h.1, h.2.below⟩)
  clear y0 y1 y2 y3 y4 y5 y6 hR4 hh4 hnext hcall ha4 hsend
  refine wp_region_wide_tail 7 (by kernel_rfl) (by kernel_rfl) ?_
  simp only [List.take_succ_cons, List.take_zero, List.drop_succ_cons, List.drop_zero]
  repeat (quiet_step (exact Calls.wide_of (hs3 _)))
  refine wpQuiet_nil ?_
  refine wide_all fun W5 hb5 => ?_
  clear e1 z0 z1 z2 z3 z4 z5 z6 hs3
  obtain ⟨hK5, hlast⟩ := hnext'.out W5 hb5
  have hlast' := Lib.hid hlast
  have ex : Value.agg #[.int .i64 f, .int .i64 u] = .agg #[.int .i64 m1.k.f, .int .i64 m1.u] := by rw [hkv.out.2.1, hkv.out.2.2]
  clear hlast hb5
  go_upto_region 9 with ((refine wpList_store_keys rfl _ _ _ rfl m1 rfl ex rfl hK5 hmf.out hs'.out (by have := hTl'.out; omega) hperm'.out ?_; intro w6 hK6 hk6; have hQ6 := Lib.hid (hlast'.out w6 hK6.out hk6.out); clear hK6 hk6))
  clear hK5 hlast'
  go_wp2
  go_ret
  exact ⟨rfl, hQ6.out⟩

/-- Any Push. -/
theorem hPush_any {w : World} {hb : Nat} {S : Nat → Prop} {T : List M} (h : CalAt w hb S T) (m : M) (hm : m.fits) :
    Calls Try.prog 15 #[.pointer (some ⟨hb, 0, none⟩), m.val] w fun e w' => e = .returned (.int .i64 (pushC T m)) ∧ ∃ S', CalAt w' hb S' (pushT T m) ∧ CStep w w' S S' := by
  by_cases h1 : hasS T m.k.f m.u = true
  · refine (hPush_stay h m hm (.inl h1)).mono ?_
    rintro e w' ⟨he, hb'⟩
    have e1 : pushT T m = T := by unfold pushT; rw [if_pos h1]
    rw [e1]
    exact ⟨he, S, h.below hb', .of_below hb'⟩
  · by_cases h2 : 16384 ≤ T.length
    · refine (hPush_stay h m hm (.inr h2)).mono ?_
      rintro e w' ⟨he, hb'⟩
      have e1 : pushT T m = T := by unfold pushT; rw [if_neg h1, if_pos h2]
      rw [e1]
      exact ⟨he, S, h.below hb', .of_below hb'⟩
    · have e1 : pushT T m = mg ltM T [m] := by unfold pushT; rw [if_neg h1, if_neg h2]
      have e2 : pushC T m = 0 := by unfold pushC; rw [if_neg h1, if_neg h2]
      rw [e1, e2]
      exact hPush_takes h m hm (by simpa using h1) (by omega)
end Go.Proofs.Ytcfpfbemmklbaaa
