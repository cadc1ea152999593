/-
  A calendar: Push.
  A queue: Push.
  A queue: Push of a message that is taken.
  A queue that nobody made; every Push, in one.
  The law of a queue that nobody made.
-/
import Derived.Test.YtjlbkdghlijoeaaGreatLDU
import Derived.Test.YtjlbkdghlijoeaaGreatHV
import Derived.Test.YtjlbkdghlijoeaaGreatLDQG
namespace Go.Proofs.YtjlbkdghlijoeaaGreat
open Go.ChangeShapes Go.WideShapes Go.ChangeAt Go.Shelf Go.RowKit Go.Lib Go.Sort Go.Deep Go.Maps
set_option linter.unusedVariables false

theorem wpList_store_keysC {w : World} {ops : Array Oper} {rest : List Oper} {o : Oper} {a : Act} {Q : Exit → Act → World → Prop} (hg : o.guard = none) (mo x v : Operand) (hop : o.op = Op.mapUpdate 89 mo x v) {mb : Nat} {T T' : List M} (m : M)
    (hmo : a.eval mo = .map (some mb)) (hx : a.eval x = .agg #[.int .i64 m.k.f, .int .i64 m.u]) (hv : a.eval v = m.k.val) (h : KeysAtC w mb T) (hm : m.fits) (hn : hasS T m.k.f m.u = false) (hfit : ∀ x ∈ T, x.fits) (hl : T.length < 1000000) (hp : T'.Perm (m :: T))
    (hK : ∀ w1, Hid (KeysAtC w1 mb T') → Hid (KeptOff (fun k => k = mb) w w1) → wpList Tryz.prog ops Q rest (a.put o.dst undef) w1) : wpList Tryz.prog ops Q (o :: rest) a w := by
  refine wpList_plain hg fun K' hK' => ?_
  obtain ⟨w', hrun, r1, r2⟩ := h.store m hm hn hfit hl hp
  unfold Oper.wp
  simp [execOp, hop, hmo, hx, hv, hrun, Result.andThen]
  exact hK' _ _ (hK w' r1 r2)
/-- What a Push of a message that is taken leaves. -/
def PushPostC (w : World) (hb : Nat) (S : Nat → Prop) (T : List M) (m : M) (w' : World) : Prop := ∃ S', CalAtC w' hb S' (mg ltM T [m]) ∧ CStep w w' S S'

set_option maxHeartbeats 2000000 in
set_option maxRecDepth 100000 in
theorem hPush_stayC {w : World} {hb : Nat} {S : Nat → Prop} {T : List M} (h : CalAtC w hb S T) (m : M) (hm : m.fits) (hst : hasS T m.k.f m.u = true ∨ 16384 ≤ T.length) :
    Calls Tryz.prog 91 #[.pointer (some ⟨hb, 0, none⟩), m.val] w fun e w' => e = .returned (.int .i64 (pushC T m)) ∧ Below w.heap.size w w' := by
  obtain ⟨W0, hW0⟩ : ∃ W0, W0 = w.alloc (.cells m.cells 34) := ⟨_, rfl⟩
  have hB0 : Hid (Below w.heap.size w W0) := by rw [hW0]; exact (Below.refl _ w).alloc (Nat.le_refl _) _
  have hR0 : Hid (BoxM W0 w.heap.size m) := by rw [hW0]; exact BoxM.mk w m
  have hC : Hid (pushC T m = if hasS T m.k.f m.u = true then 8 else if 16384 ≤ T.length then 9 else 0) := rfl
  obtain ⟨r, hr⟩ : ∃ r, hasS T m.k.f m.u = r := ⟨_, rfl⟩
  rw [hr] at hst
  have hr' := Lib.hid hr
  have h0 := h.below hB0.out
  obtain ⟨db, mb, W, lb, ov, ds, L, fv, h1, hT, -, -⟩ := h0
  have hsend := fun w => sending_anyC m w
  simp only [M.val, sendV] at hsend
  have hhas : Hid (∀ w1, Below W0.heap.size W0 w1 → Calls Tryz.prog 94 #[.pointer (some ⟨hb, 0, none⟩), .agg #[.int .i64 m.k.f, .int .i64 m.u]] w1 fun e w' => e = .returned (.bool r) ∧ Below w1.heap.size w1 w') := by
    intro w1 hw1
    have h2 := h1.below hw1
    have := has_anyC h2.row h2.keys (f := m.k.f) (u := m.u) hm.1.2.1 hm.2.2.2
    rwa [← hT, hr'.out] at this
  have hsz : Hid (∀ w1, Below W0.heap.size W0 w1 → w1.cell? ⟨hb, 1, none⟩ = some (.map (some mb)) ∧ ∀ ty, (Builtin.len_ #[89] ty #[.map (some mb)]).run Tryz.prog w1 = .ok (.int .i64 T.length) w1) := by
    intro w1 hw1
    have h2 := h1.below hw1
    refine ⟨h2.row.c1, fun ty => ?_⟩
    rw [hT]
    exact h2.keys.len ty
  have hmd := made_okC h1.row
  obtain ⟨-, x0, x1, x2, x3, x4, x5, x6⟩ := hR0.out.at
  simp only [Nat.zero_add] at x0 x1 x2 x3 x4 x5 x6
  clear h h1 hr hm hT
  have hW0' := Lib.hid hW0
  clear hW0
  obtain ⟨c, hc⟩ : ∃ c, pushC T m = c := ⟨_, rfl⟩
  rw [hc] at hC ⊢
  clear hc
  obtain ⟨⟨t, f, s⟩, tt, vv, u, an⟩ := m
  simp only [M.val, M.cells] at hW0' hsend hhas x0 x1 x2 x3 x4 x5 x6 ⊢
  cases r with
  | true =>
    obtain rfl : c = 8 := by rw [hC.out, hr'.out]; simp
    clear hst
    go_enter Tryz.func91, Tryz.ntmps91
    go_upto_region 1 with (fail)
    rw [← hW0'.out]
    go_wp2_with (first
      | (go_at_call 92; refine hmd.mono ?_; rintro e w' ⟨rfl, rfl⟩)
      | (go_at_call 98; refine (hsend _).mono ?_; rintro e w1 ⟨rfl, hr1⟩; have hh1 := hhas.out w1 hr1.below; have hr1' := Lib.hid hr1; clear hr1)
      | (go_at_call 94; refine hh1.mono ?_; rintro e w2 ⟨rfl, hb2⟩; have hb2' := Lib.hid hb2; clear hb2))
    go_ret
    exact ⟨rfl, hB0.out.trans ((hr1'.out.below.trans (hb2'.out.mono hr1'.out.below.size)).mono hB0.out.size)⟩
  | false =>
    have hk : 16384 ≤ T.length := by
      rcases hst with e | e
      · cases e
      · exact e
    obtain rfl : c = 9 := by rw [hC.out, hr'.out]; simp [hk]
    have hk' : (16384 : Int) ≤ (T.length : Int) := by omega
    generalize T.length = N at *
    clear hk hst
    go_enter Tryz.func91, Tryz.ntmps91
    go_upto_region 1 with (fail)
    rw [← hW0'.out]
    go_wp2_with (first
      | (go_at_call 92; refine hmd.mono ?_; rintro e w' ⟨rfl, rfl⟩)
      | (go_at_call 98; refine (hsend _).mono ?_; rintro e w1 ⟨rfl, hr1⟩; have hh1 := hhas.out w1 hr1.below; have hr1' := Lib.hid hr1; clear hr1)
      | (go_at_call 94; refine hh1.mono ?_; rintro e w2 ⟨rfl, hb2⟩; have hb12 := hr1'.out.below.trans (hb2.mono hr1'.out.below.size); obtain ⟨c2, hln⟩ := hsz.out w2 hb12; have hb2' := Lib.hid hb12; clear hb2 hb12))
    go_ret
    exact ⟨rfl, hB0.out.trans (hb2'.out.mono hB0.out.size)⟩

set_option maxHeartbeats 4000000 in
set_option maxRecDepth 100000 in
theorem hPush_takesC {w : World} {hb : Nat} {S : Nat → Prop} {T : List M} (h : CalAtC w hb S T) (m : M) (hm : m.fits) (hs : hasS T m.k.f m.u = false) (hTl : T.length < 16384) :
    Calls Tryz.prog 91 #[.pointer (some ⟨hb, 0, none⟩), m.val] w fun e w' => e = .returned (.int .i64 0) ∧ PushPostC w hb S T m w' := by
  have mixed := mixed
  obtain ⟨W0, hW0⟩ : ∃ W0, W0 = w.alloc (.cells m.cells 34) := ⟨_, rfl⟩
  have hB0 : Hid (Below w.heap.size w W0) := by rw [hW0]; exact (Below.refl _ w).alloc (Nat.le_refl _) _
  have hR0 : Hid (BoxM W0 w.heap.size m) := by rw [hW0]; exact BoxM.mk w m
  have hput := put_list h.o h.u hs
  have hfit := h.fits
  have hperm : (mg ltM T [m]).Perm (m :: T) := hput.2.2.1.trans (List.perm_append_comm (l₁ := T) (l₂ := [m]))
  obtain ⟨db, mb, W, lb, ov, ds, L, fv, h1, hT, hS, hSl⟩ := h
  have h0 := h1.below hB0.out
  have hsend := fun w => sending_anyC m w
  simp only [M.val, sendV] at hsend
  have hhas : Hid (∀ w1, Below W0.heap.size W0 w1 → Calls Tryz.prog 94 #[.pointer (some ⟨hb, 0, none⟩), .agg #[.int .i64 m.k.f, .int .i64 m.u]] w1 fun e w' => e = .returned (.bool false) ∧ Below w1.heap.size w1 w') := by
    intro w1 hw1
    have h2 := h0.below hw1
    have := has_anyC h2.row h2.keys (f := m.k.f) (u := m.u) hm.1.2.1 hm.2.2.2
    rwa [← hT, hs] at this
  have hsz : Hid (∀ w1, Below W0.heap.size W0 w1 → w1.cell? ⟨hb, 1, none⟩ = some (.map (some mb)) ∧ ∀ ty, (Builtin.len_ #[89] ty #[.map (some mb)]).run Tryz.prog w1 = .ok (.int .i64 T.length) w1) := by
    intro w1 hw1
    have h2 := h0.below hw1
    refine ⟨h2.row.c1, fun ty => ?_⟩
    rw [hT]
    exact h2.keys.len ty
  have hadd : Hid (∀ W', Below W0.heap.size W0 W' → BoxM W' w.heap.size m ∧ CalRow W' hb db mb ∧ Calls Tryz.prog 99 #[.pointer (some ⟨db, 0, none⟩), m.val] W' fun e w4 => e = .returned (.tuple #[]) ∧ Hid (BoxM w4 w.heap.size m ∧ CalRow w4 hb db mb ∧
      ∀ W5, Below w4.heap.size w4 W5 → KeysAtC W5 mb T ∧ ∀ W6, KeysAtC W6 mb (mg ltM T [m]) → KeptOff (fun k => k = mb) W5 W6 → PushPostC w hb S T m W6)) := by
    intro W' hW'
    have h2 := h0.below hW'
    have hR2 := hR0.out.below hW'
    have hs2 : hasS (ds.flatMap L) m.k.f m.u = false := by rw [← hT]; exact hs
    refine ⟨hR2, h2.row, (add_any h2.days m hm hs2 (by rw [← hT]; exact hTl)).mono ?_⟩
    rintro e w4 ⟨he, ov', ds', L', fv', hD, hp4, hk4, ho4⟩
    have hnew : ∀ k, w.heap.size ≤ k → ¬ DOwn db lb ov ds fv k := fun k hk e => by have := h1.own_lt (.inr (.inr e)); omega
    have hr4 : CalRow w4 hb db mb := (hk4.block hb h2.row.lt (fun e => (h1.off e).1 rfl)).trans h2.row
    have hK4 := h2.keys.kept hk4 (fun e => (h1.off e).2 rfl)
    refine ⟨he, hR2.kept hk4 (hnew _ (Nat.le_refl _)), hr4, fun W5 hb5 => ⟨by rw [hT]; exact hK4.below' hb5, fun W6 hK6 hk6 => ?_⟩⟩
    have e1 : ds'.flatMap L' = mg ltM T [m] := by
      refine sorted_unique (hp4.trans (by rw [← hT]; exact hperm.symm)) (days_order hD.width hD.days) hput.1 hD.unlike
    have hb4w : ∀ k, k < w.heap.size → k < W'.heap.size := fun k hk => Nat.lt_of_lt_of_le (Nat.lt_of_lt_of_le hk hB0.out.size) hW'.size
    have hmbW : mb < W'.heap.size := hb4w mb h1.keys.lt
    have hmb4 : ∀ k, DOwn db lb ov' ds' fv' k → k ≠ mb := fun k e => by
      rcases ho4 k e with e | e
      · exact (h1.off e).2
      · omega
    have hD5 := hD.below hb5
    have hD6 := hD5.kept hk6 hmb4
    have hr5 : CalRow W5 hb db mb := (hb5.block hb hr4.lt).trans hr4
    have hr6 : CalRow W6 hb db mb := (hk6.block hb hr5.lt h1.hb_mb).trans hr5
    have kall : KeptOff S w W6 := by
      have k1 : KeptOff S w W' := .of_below (hB0.out.trans (hW'.mono hB0.out.size))
      refine ((k1.trans (hk4.mono (fun k _ e => hS k (.inr (.inr e))))).then_new (S' := fun _ => False) (.of_below hb5) (fun k _ e => e.elim)).trans (hk6.mono (fun k _ e => hS k (.inr (.inl e))))
    refine ⟨fun k => S k ∨ (w.heap.size ≤ k ∧ k < W6.heap.size), ⟨db, mb, W, lb, ov', ds', L', fv', ⟨hr6, hD6, by rw [e1]; exact hK6, h1.apart⟩, e1.symm, ?_, ?_⟩, kall, fun k e => e.imp id (fun e => e.1)⟩
    · rintro k (e | e | e)
      · exact .inl (hS k (.inl e))
      · exact .inl (hS k (.inr (.inl e)))
      · rcases ho4 k e with e2 | e2
        · exact .inl (hS k (.inr (.inr e2)))
        · exact .inr ⟨by have := hB0.out.size; have := hW'.size; omega, hD6.own_lt e⟩
    · rintro k (e | e)
      · exact Nat.lt_of_lt_of_le (hSl k e) kall.size
      · exact e.2
  have hmd := made_okC h0.row
  obtain ⟨-, x0, x1, x2, x3, x4, x5, x6⟩ := hR0.out.at
  simp only [Nat.zero_add] at x0 x1 x2 x3 x4 x5 x6
  have hW0' := Lib.hid hW0
  have hmf := Lib.hid hm
  have hs' := Lib.hid hs
  have hfit' := Lib.hid hfit
  have hperm' := Lib.hid hperm
  have hTl' := Lib.hid hTl
  have hk' : ¬ (16384 : Int) ≤ (T.length : Int) := by omega
  generalize PushPostC w hb S T m = R at hadd ⊢
  obtain ⟨m1, hm1⟩ : ∃ m1, m1 = m := ⟨_, rfl⟩
  have hm1' := Lib.hid hm1
  rw [← hm1] at hmf hs' hperm' hadd hR0
  clear h1 h0 hm hT hs hfit hput hperm hS hSl hW0 hm1 hTl
  obtain ⟨⟨t, f, s⟩, tt, vv, u, an⟩ := m
  have hmv : Hid (m1.val = .agg #[.int .i64 t, .int .i64 f, .int .i64 s, .int .i64 tt, .int .i64 vv, .int .i64 u, .bool an]) := by show _ = _; rw [hm1'.out]; rfl
  have hkv : Hid (m1.k.val = .agg #[.int .i64 t, .int .i64 f, .int .i64 s] ∧ m1.k.f = f ∧ m1.u = u) := by show _ ∧ _; rw [hm1'.out]; exact ⟨rfl, rfl, rfl⟩
  simp only [M.val, M.cells] at hW0' hsend hhas x0 x1 x2 x3 x4 x5 x6 ⊢
  have hboxc : Hid (∀ W, BoxM W w.heap.size m1 → MsgAt W w.heap.size 0 ⟨⟨t, f, s⟩, tt, vv, u, an⟩) := by intro W hW; have := hW.at; rwa [hm1'.out] at this
  go_enter Tryz.func91, Tryz.ntmps91
  go_upto_region 1 with (fail)
  rw [← hW0'.out]
  go_upto_region 7 with (first
      | (go_at_call 92; refine hmd.mono ?_; rintro e w' ⟨rfl, rfl⟩)
      | (go_at_call 98; refine (hsend _).mono ?_; rintro e w1 ⟨rfl, hr1⟩; have hh1 := hhas.out w1 hr1.below; have hr1' := Lib.hid hr1; clear hr1)
      | (go_at_call 94; refine hh1.mono ?_; rintro e w2 ⟨rfl, hb2⟩; have hb12 := hr1'.out.below.trans (hb2.mono hr1'.out.below.size); obtain ⟨c2, hln⟩ := hsz.out w2 hb12; have hb2' := Lib.hid hb12; clear hb2 hb12))
  obtain ⟨hR2, hh2, _⟩ := hadd.out w2 hb2'.out
  have e0 := fun q => wide_cell (w := w2) (a := ⟨hb, 0, none⟩) q hh2.lt hh2.c0
  obtain ⟨-, y0, y1, y2, y3, y4, y5, y6⟩ := hboxc.out w2 hR2
  simp only [Nat.zero_add] at y0 y1 y2 y3 y4 y5 y6
  have z0 := fun q => wide_cell (w := w2) q hR2.lt y0
  have z1 := fun q => wide_cell (w := w2) q hR2.lt y1
  have z2 := fun q => wide_cell (w := w2) q hR2.lt y2
  have z3 := fun q => wide_cell (w := w2) q hR2.lt y3
  have z4 := fun q => wide_cell (w := w2) q hR2.lt y4
  have z5 := fun q => wide_cell (w := w2) q hR2.lt y5
  have z6 := fun q => wide_cell (w := w2) q hR2.lt y6
  clear x0 x1 x2 x3 x4 x5 x6 y0 y1 y2 y3 y4 y5 y6 hmd hhas hsz hh1 hln c2 hh2 hR2
  refine wp_region_wide_tail 5 (by kernel_rfl) (by kernel_rfl) ?_
  simp only [List.take_succ_cons, List.take_zero, List.drop_succ_cons, List.drop_zero]
  repeat (quiet_step (fail))
  refine wpQuiet_nil ?_
  refine wide_all fun W3 hb3 => ?_
  clear e0 z0 z1 z2 z3 z4 z5 z6
  obtain ⟨-, -, hcall⟩ := hadd.out W3 (hb2'.out.trans (hb3.mono hb2'.out.size))
  rw [hmv.out] at hcall
  go_upto_region 8 with (go_at_call 99; refine hcall.mono ?_; rintro e w4 ⟨rfl, ha4⟩)
  obtain ⟨hR4, hh4, hnext⟩ := ha4.out
  have hnext' := Lib.hid hnext
  have e1 := fun q => wide_cell (w := w4) (a := ⟨hb, 1, none⟩) q hh4.lt hh4.c1
  obtain ⟨-, y0, y1, y2, y3, y4, y5, y6⟩ := hboxc.out w4 hR4
  simp only [Nat.zero_add] at y0 y1 y2 y3 y4 y5 y6
  have z0 := fun q => wide_cell (w := w4) q hR4.lt y0
  have z1 := fun q => wide_cell (w := w4) q hR4.lt y1
  have z2 := fun q => wide_cell (w := w4) q hR4.lt y2
  have z3 := fun q => wide_cell (w := w4) q hR4.lt y3
  have z4 := fun q => wide_cell (w := w4) q hR4.lt y4
  have z5 := fun q => wide_cell (w := w4) q hR4.lt y5
  have z6 := fun q => wide_cell (w := w4) q hR4.lt y6
  have hs3 := fun q : WB => (hsend (wide w4 q)).mono (R' := fun e w' => e = .returned (.agg #[.int .i64 f, .int .i64 u]) ∧ Below (wide w4 q).heap.size (wide w4 q) w') (fun e w' h => ⟨h.1, h.2.below⟩)
  clear y0 y1 y2 y3 y4 y5 y6 hR4 hh4 hnext hcall ha4 hsend
  refine wp_region_wide_tail 8 (by kernel_rfl) (by kernel_rfl) ?_
  simp only [List.take_succ_cons, List.take_zero, List.drop_succ_cons, List.drop_zero]
  repeat (quiet_step (exact Calls.wide_of (hs3 _)))
  refine wpQuiet_nil ?_
  refine wide_all fun W5 hb5 => ?_
  clear e1 z0 z1 z2 z3 z4 z5 z6 hs3
  obtain ⟨hK5, hlast⟩ := hnext'.out W5 hb5
  have hlast' := Lib.hid hlast
  have ev : Value.agg #[.int .i64 t, .int .i64 f, .int .i64 s] = m1.k.val := hkv.out.1.symm
  have ex : Value.agg #[.int .i64 f, .int .i64 u] = .agg #[.int .i64 m1.k.f, .int .i64 m1.u] := by rw [hkv.out.2.1, hkv.out.2.2]
  clear hlast hb5
  go_upto_region 9 with ((refine wpList_store_keysC rfl _ _ _ rfl m1 rfl ex ev hK5 hmf.out hs'.out hfit'.out (by have := hTl'.out; omega) hperm'.out ?_; intro w6 hK6 hk6; have hQ6 := Lib.hid (hlast'.out w6 hK6.out hk6.out); clear hK6 hk6))
  clear hK5 hlast'
  go_wp2
  go_ret
  exact ⟨rfl, hQ6.out⟩

/-- Any Push. -/
theorem hPush_anyC {w : World} {hb : Nat} {S : Nat → Prop} {T : List M} (h : CalAtC w hb S T) (m : M) (hm : m.fits) :
    Calls Tryz.prog 91 #[.pointer (some ⟨hb, 0, none⟩), m.val] w fun e w' => e = .returned (.int .i64 (pushC T m)) ∧ ∃ S', CalAtC w' hb S' (pushT T m) ∧ CStep w w' S S' := by
  by_cases h1 : hasS T m.k.f m.u = true
  · refine (hPush_stayC h m hm (.inl h1)).mono ?_
    rintro e w' ⟨he, hb'⟩
    have e1 : pushT T m = T := by unfold pushT; rw [if_pos h1]
    rw [e1]
    exact ⟨he, S, h.below hb', .of_below hb'⟩
  · by_cases h2 : 16384 ≤ T.length
    · refine (hPush_stayC h m hm (.inr h2)).mono ?_
      rintro e w' ⟨he, hb'⟩
      have e1 : pushT T m = T := by unfold pushT; rw [if_neg h1, if_pos h2]
      rw [e1]
      exact ⟨he, S, h.below hb', .of_below hb'⟩
    · have e1 : pushT T m = mg ltM T [m] := by unfold pushT; rw [if_neg h1, if_neg h2]
      have e2 : pushC T m = 0 := by unfold pushC; rw [if_neg h1, if_neg h2]
      rw [e1, e2]
      exact hPush_takesC h m hm (by simpa using h1) (by omega)
end Go.Proofs.YtjlbkdghlijoeaaGreat
namespace Go.Proofs.YtjlbkdghlijoeaaGreat
open Go.ChangeShapes Go.WideShapes Go.ChangeAt Go.Shelf Go.RowKit Go.Lib Go.Sort Go.Deep Go.Maps
set_option linter.unusedVariables false

theorem KeptOff.of_read {S : Nat → Prop} {w w' : World} (h : Read w w') : KeptOff S w w' := .of_below h.below

set_option maxHeartbeats 2000000 in
set_option maxRecDepth 100000 in
theorem hPush_stayH {w : World} {b0 hb tb mb n : Nat} {v : Value} {T : List M} (h : QAt w b0 hb tb mb n v T) (m : M) (hm : m.fits) (hst : hasS T m.k.f m.u = true ∨ 16384 ≤ T.length) :
    Calls Tryz.prog 67 #[.pointer (some ⟨hb, 0, none⟩), m.val] w fun e w' => e = .returned (.int .i64 (pushC T m)) ∧ Below w.heap.size w w' := by
  have hB0 : Hid (Below w.heap.size w (w.alloc (.cells m.cells 34))) := (Below.refl _ w).alloc (Nat.le_refl _) _
  have hR0 := Lib.hid (BoxM.mk w m)
  have h0 := Lib.hid (h.below hB0.out)
  have hC : Hid (pushC T m = if hasS T m.k.f m.u = true then 8 else if 16384 ≤ T.length then 9 else 0) := rfl
  obtain ⟨r, hr⟩ : ∃ r, hasS T m.k.f m.u = r := ⟨_, rfl⟩
  rw [hr] at hst
  have hr' := Lib.hid hr
  have hmf := Lib.hid hm
  have hsend := fun w => sending_anyH m w
  simp only [M.val, sendV] at hsend
  have hhas : ∀ w1, Read (w.alloc (.cells m.cells 34)) w1 → Calls Tryz.prog 71 #[.pointer (some ⟨hb, 0, none⟩), .agg #[.int .i64 m.k.f, .int .i64 m.u]] w1 fun e w' => e = .returned (.bool r) ∧ Read w1 w' := by
    intro w1 hw1
    have h1 := h0.out.below hw1.below
    have := has_anyH h1.h h1.s (f := m.k.f) (u := m.u) hmf.out.1.2.1 hmf.out.2.2.2
    rwa [hr'.out] at this
  have hsz : ∀ w1, Read (w.alloc (.cells m.cells 34)) w1 → w1.cell? ⟨hb, 0, none⟩ = some (.pointer (some ⟨tb, 0, none⟩)) ∧ Calls Tryz.prog 69 #[.pointer (some ⟨tb, 0, none⟩)] w1 fun e w' => e = .returned (.int .i64 T.length) ∧ w1 = w' := by
    intro w1 hw1
    have h1 := h0.out.below hw1.below
    obtain ⟨a, cap, ht, _⟩ := h1.size
    exact ⟨h1.h.c0, tsize_any tlay tb a T.length cap w1 ht.c0⟩
  have hmd := made_okH h0.out.h
  obtain ⟨-, x0, x1, x2, x3, x4, x5, x6⟩ := hR0.out.at
  simp only [Nat.zero_add] at x0 x1 x2 x3 x4 x5 x6
  have hlt : tb < w.heap.size + 1 := by obtain ⟨l, hl, _⟩ := h0.out.t; have := hl.t.lt; simpa using this
  clear h h0 hr hm
  obtain ⟨W0, hW0⟩ : ∃ W0, W0 = w.alloc (.cells m.cells 34) := ⟨_, rfl⟩
  rw [← hW0] at hmd hB0 hR0 hhas hsz x0 x1 x2 x3 x4 x5 x6
  have hW0' := Lib.hid hW0
  clear hW0
  obtain ⟨c, hc⟩ : ∃ c, pushC T m = c := ⟨_, rfl⟩
  rw [hc] at hC ⊢
  clear hc
  obtain ⟨⟨t, f, s⟩, tt, vv, u, an⟩ := m
  simp only [M.val, M.cells] at hW0' hsend hhas x0 x1 x2 x3 x4 x5 x6 ⊢
  cases r with
  | true =>
    obtain rfl : c = 8 := by rw [hC.out, hr'.out]; simp
    go_enter Tryz.func67, Tryz.ntmps67
    go_upto_region 1 with (fail)
    rw [← hW0'.out]
    go_wp2_with (first
      | (go_at_call 68; refine hmd.mono ?_; rintro e w' ⟨rfl, rfl⟩)
      | (go_at_call 73; refine (hsend _).mono ?_; rintro e w1 ⟨rfl, hr1⟩; have hh1 := hhas w1 hr1; have hr1' := Lib.hid hr1; clear hr1)
      | (go_at_call 71; refine hh1.mono ?_; rintro e w2 ⟨rfl, hr2⟩; have hr2' := Lib.hid hr2; clear hr2))
    go_ret
    exact ⟨rfl, hB0.out.trans ((hr1'.out.trans hr2'.out).below.mono hB0.out.size)⟩
  | false =>
    have hk : 16384 ≤ T.length := by
      rcases hst with e | e
      · cases e
      · exact e
    obtain rfl : c = 9 := by rw [hC.out, hr'.out]; simp [hk]
    have hk' : (16384 : Int) ≤ (T.length : Int) := by omega
    generalize T.length = N at *
    clear hk hst
    go_enter Tryz.func67, Tryz.ntmps67
    go_upto_region 1 with (fail)
    rw [← hW0'.out]
    go_wp2_with (first
      | (go_at_call 68; refine hmd.mono ?_; rintro e w' ⟨rfl, rfl⟩)
      | (go_at_call 73; refine (hsend _).mono ?_; rintro e w1 ⟨rfl, hr1⟩; have hh1 := hhas w1 hr1; have hr1' := Lib.hid hr1; clear hr1)
      | (go_at_call 71; refine hh1.mono ?_; rintro e w2 ⟨rfl, hr2⟩; have hs2 := hsz w2 (hr1'.out.trans hr2); have hr2' := Lib.hid hr2; clear hr2; obtain ⟨c2, hs2⟩ := hs2)
      | (go_at_call 69; refine hs2.mono ?_; rintro e w' ⟨rfl, rfl⟩))
    go_ret
    exact ⟨rfl, hB0.out.trans ((hr1'.out.trans hr2'.out).below.mono hB0.out.size)⟩
end Go.Proofs.YtjlbkdghlijoeaaGreat
namespace Go.Proofs.YtjlbkdghlijoeaaGreat
open Go.ChangeShapes Go.WideShapes Go.ChangeAt Go.Shelf Go.RowKit Go.Lib Go.Sort Go.Deep Go.Maps
set_option linter.unusedVariables false

set_option maxHeartbeats 4000000 in
set_option maxRecDepth 100000 in
theorem hPush_takesH {w : World} {b0 hb tb mb n : Nat} {v : Value} {T : List M} (h : QAt w b0 hb tb mb n v T) (m : M) (hm : m.fits) (hs : hasS T m.k.f m.u = false) (hT : T.length < 16384) (hn : n < maxLen) :
    Calls Tryz.prog 67 #[.pointer (some ⟨hb, 0, none⟩), m.val] w fun e w' => e = .returned (.int .i64 0) ∧ ∃ v', QAt w' b0 hb tb mb (n + 1) v' (mg ltM T [m]) ∧ QStep w w' tb mb v v' := by
  have mixed := mixed
  have hB0 : Hid (Below w.heap.size w (w.alloc (.cells m.cells 34))) := (Below.refl _ w).alloc (Nat.le_refl _) _
  have hR0 := Lib.hid (BoxM.mk w m)
  have h0 := Lib.hid (h.below hB0.out)
  have hs' := Lib.hid hs
  have hmf := Lib.hid hm
  have hn' := Lib.hid hn
  have hput := Lib.hid (put_list h.o h.u hs)
  have hlh := h.lh
  have hlm := h.lm
  have hdt := h.dt
  have hrow : Hid (∀ k, v.ownBlock = some k → b0 ≤ k ∧ k < w.heap.size) := by
    obtain ⟨l, hl, _⟩ := h.t
    exact fun k hk => hl.own.lt k hk
  have hbd : tb < b0 ∧ b0 ≤ w.heap.size := by
    obtain ⟨l, hl, _⟩ := h.t
    exact ⟨hl.lt, hl.bd⟩
  obtain ⟨htb, hbd⟩ := hbd
  have hsend := fun w => sending_anyH m w
  simp only [M.val, sendV] at hsend
  have hhas : ∀ w1, Read (w.alloc (.cells m.cells 34)) w1 → Calls Tryz.prog 71 #[.pointer (some ⟨hb, 0, none⟩), .agg #[.int .i64 m.k.f, .int .i64 m.u]] w1 fun e w' => e = .returned (.bool false) ∧ Read w1 w' := by
    intro w1 hw1
    have h1 := h0.out.below hw1.below
    have := has_anyH h1.h h1.s (f := m.k.f) (u := m.u) hmf.out.1.2.1 hmf.out.2.2.2
    rwa [hs'.out] at this
  have hsz : ∀ w1, Read (w.alloc (.cells m.cells 34)) w1 → w1.cell? ⟨hb, 0, none⟩ = some (.pointer (some ⟨tb, 0, none⟩)) ∧ Calls Tryz.prog 69 #[.pointer (some ⟨tb, 0, none⟩)] w1 fun e w' => e = .returned (.int .i64 T.length) ∧ w1 = w' := by
    intro w1 hw1
    have h1 := h0.out.below hw1.below
    obtain ⟨a, cap, ht, _⟩ := h1.size
    exact ⟨h1.h.c0, tsize_any tlay tb a T.length cap w1 ht.c0⟩
  have hmd := made_okH h0.out.h
  obtain ⟨-, x0, x1, x2, x3, x4, x5, x6⟩ := hR0.out.at
  simp only [Nat.zero_add] at x0 x1 x2 x3 x4 x5 x6
  -- what the add leaves, and what the store into the map does then
  have hkey : Hid (keyOf Tryz.prog 130 (.agg #[.int .i64 m.k.f, .int .i64 m.u]) = some (sendL m.k.f m.u)) := keyOf_sendH hm.1.2.1 hm.2.2.2
  have hadd : Hid (∀ W, Below (w.alloc (.cells m.cells 34)).heap.size (w.alloc (.cells m.cells 34)) W → BoxM W w.heap.size m ∧ HeapOf W hb tb mb ∧
      Calls Tryz.prog 77 #[.pointer (some ⟨tb, 0, none⟩), m.val] W fun e w' => e = .returned (.tuple #[]) ∧ (BoxM w' w.heap.size m ∧ HeapOf w' hb tb mb ∧ ∀ W5, Below w'.heap.size w' W5 →
        BoxM W5 w.heap.size m ∧ HeapOf W5 hb tb mb ∧ ∃ D : DataW Unit, W5.ownsMap Tryz.prog 130 unitElem mb n D ∧ ∀ W6, W6.ownsMap Tryz.prog 130 unitElem mb (n + 1) (D.put (sendL m.k.f m.u) (.agg [])) → W5.mapTurned W6 mb →
          ∃ v', QAt W6 b0 hb tb mb (n + 1) v' (mg ltM T [m]) ∧ QStep w W6 tb mb v v')) := by
    intro W hW
    have hk1 : KeptOff (fun _ => False) (w.alloc (.cells m.cells 34)) W := .of_below hW
    have h1 := h0.out.below hW
    have hR1 := hR0.out.kept hk1 (fun e => e)
    obtain ⟨l, hl, hlp⟩ := h1.t
    refine ⟨hR1, h1.h, (tadd_any hl (by rw [hlp.length_eq]; exact hT) m hmf.out).mono ?_⟩
    rintro e w' ⟨he, v', l', t1, t2, t3, t4⟩
    have hszW : w.heap.size < W.heap.size := hR1.lt
    have no0 : ¬ (w.heap.size = tb ∨ v.ownBlock = some w.heap.size) := fun e => e.elim (fun e => by omega) (fun e => by have := (hrow.out _ e).2; omega)
    have noX : ∀ x, x < b0 → x ≠ tb → ¬ (x = tb ∨ v.ownBlock = some x) := fun x hx hne e => e.elim hne (fun e => by have := (hrow.out _ e).1; omega)
    have hR2 := hR1.kept t3 no0
    have hh2 := h1.h.kept t3 (noX hb hlh hdt.1)
    have hs2 := h1.s.kept t3 (noX mb hlm (Ne.symm hdt.2.2))
    refine ⟨he, hR2, hh2, ?_⟩
    intro W5 hW5
    have hk5 : KeptOff (fun _ => False) w' W5 := .of_below hW5
    obtain ⟨D, d1, d2⟩ := hs2.kept hk5 (fun e => e)
    refine ⟨hR2.kept hk5 (fun e => e), hh2.kept hk5 (fun e => e), D, d1, ?_⟩
    intro W6 hown6 hturn6
    have hk6 := KeptOff.turned hturn6
    obtain ⟨p1, p2, p3, p4⟩ := hput.out
    have hs6 : SendsAt W6 mb (n + 1) (T ++ [m]) := sends_put d1.isMap m hmf.out d2 hown6
    have hrow' : ∀ k, v'.ownBlock = some k → b0 ≤ k := fun k hk => (t1.own.lt k hk).1
    refine ⟨v', ⟨(hh2.kept hk5 (fun e => e)).kept hk6 hdt.2.1, ⟨l', (t1.kept hk5 (fun e => e) (fun _ _ e => e)).kept hk6 hdt.2.2 (fun k hk e => by have := hrow' k hk; omega), ?_⟩, hs6.congr (fun f u => hasS_perm p3.symm f u), p1, p2, hlh, hlm, hdt⟩, ?_, ?_⟩
    · exact t2.trans ((hlp.append_right [m]).trans p3.symm)
    · exact ((((KeptOff.of_below hB0.out).trans (hk1.mono (fun _ _ e => e.elim))).trans (t3.mono (fun k _ e => e.elim .inl (fun e => .inr (.inr e))))).trans (hk5.mono (fun _ _ e => e.elim))).trans (hk6.mono (fun k _ e => .inr (.inl e)))
    · intro g hg
      rcases t4 g hg with e | e
      · exact .inl e
      · exact .inr (by omega)
  have hTI : ¬ (16384 : Int) ≤ (T.length : Int) := by omega
  have hfinal : Hid (∀ W6, (∃ v', QAt W6 b0 hb tb mb (n + 1) v' (mg ltM T [m]) ∧ QStep w W6 tb mb v v') ↔ (∃ v', QAt W6 b0 hb tb mb (n + 1) v' (mg ltM T [m]) ∧ QStep w W6 tb mb v v')) := fun _ => Iff.rfl
  obtain ⟨Fin, hFin⟩ : ∃ Fin : World → Prop, Fin = fun W6 => ∃ v', QAt W6 b0 hb tb mb (n + 1) v' (mg ltM T [m]) ∧ QStep w W6 tb mb v v' := ⟨_, rfl⟩
  have hF1 : ∀ W6, (∃ v', QAt W6 b0 hb tb mb (n + 1) v' (mg ltM T [m]) ∧ QStep w W6 tb mb v v') = Fin W6 := fun W6 => by rw [hFin]
  simp only [hF1] at hadd ⊢
  clear h h0 hs hm hn hput hfinal hF1 hFin hrow
  obtain ⟨W0, hW0⟩ : ∃ W0, W0 = w.alloc (.cells m.cells 34) := ⟨_, rfl⟩
  rw [← hW0] at hmd hB0 hR0 hhas hsz hadd x0 x1 x2 x3 x4 x5 x6
  have hW0' := Lib.hid hW0
  clear hW0
  obtain ⟨kl, hkl⟩ : ∃ kl, kl = sendL m.k.f m.u := ⟨_, rfl⟩
  rw [← hkl] at hadd hkey
  clear hkl
  generalize T.length = N at *
  obtain ⟨m1, hm1⟩ : ∃ m1, m1 = m := ⟨_, rfl⟩
  rw [← hm1] at hR0 hadd
  have hm1' := Lib.hid hm1
  clear hm1 hs'
  obtain ⟨⟨t, f, s⟩, tt, vv, u, an⟩ := m
  have hmv : Hid (m1.val = .agg #[.int .i64 t, .int .i64 f, .int .i64 s, .int .i64 tt, .int .i64 vv, .int .i64 u, .bool an]) := by show _ = _; rw [hm1'.out]; rfl
  simp only [M.val, M.cells] at hW0' hsend hhas hkey x0 x1 x2 x3 x4 x5 x6 ⊢
  have hboxc : Hid (∀ W, BoxM W w.heap.size m1 → MsgAt W w.heap.size 0 ⟨⟨t, f, s⟩, tt, vv, u, an⟩) := by intro W hW; have := hW.at; rwa [hm1'.out] at this
  go_enter Tryz.func67, Tryz.ntmps67
  go_upto_region 1 with (fail)
  rw [← hW0'.out]
  go_upto_region 7 with (first
      | (go_at_call 68; refine hmd.mono ?_; rintro e w' ⟨rfl, rfl⟩)
      | (go_at_call 73; refine (hsend _).mono ?_; rintro e w1 ⟨rfl, hr1⟩; have hh1 := hhas w1 hr1; have hr1' := Lib.hid hr1; clear hr1)
      | (go_at_call 71; refine hh1.mono ?_; rintro e w2 ⟨rfl, hr2⟩; have hs2 := hsz w2 (hr1'.out.trans hr2); have hr2' := Lib.hid hr2; clear hr2; obtain ⟨c2, hs2⟩ := hs2)
      | (go_at_call 69; refine hs2.mono ?_; rintro e w' ⟨rfl, rfl⟩))
  have hb2 := (hr1'.out.trans hr2'.out).below
  obtain ⟨hR2, hh2, _⟩ := hadd.out w2 hb2
  have hb2' := Lib.hid hb2
  have e0 := fun q => wide_cell (w := w2) q hh2.lt hh2.c0
  obtain ⟨-, y0, y1, y2, y3, y4, y5, y6⟩ := hboxc.out w2 hR2
  simp only [Nat.zero_add] at y0 y1 y2 y3 y4 y5 y6
  have z0 := fun q => wide_cell (w := w2) q hR2.lt y0
  have z1 := fun q => wide_cell (w := w2) q hR2.lt y1
  have z2 := fun q => wide_cell (w := w2) q hR2.lt y2
  have z3 := fun q => wide_cell (w := w2) q hR2.lt y3
  have z4 := fun q => wide_cell (w := w2) q hR2.lt y4
  have z5 := fun q => wide_cell (w := w2) q hR2.lt y5
  have z6 := fun q => wide_cell (w := w2) q hR2.lt y6
  clear x0 x1 x2 x3 x4 x5 x6 y0 y1 y2 y3 y4 y5 y6 hmd hhas hsz hh1 hs2 c2 hb2 hh2 hR2
  refine wp_region_wide_tail 5 (by kernel_rfl) (by kernel_rfl) ?_
  simp only [List.take_succ_cons, List.take_zero, List.drop_succ_cons, List.drop_zero]
  repeat (quiet_step (fail))
  refine wpQuiet_nil ?_
  refine wide_all fun W3 hb3 => ?_
  clear e0 z0 z1 z2 z3 z4 z5 z6
  obtain ⟨-, -, hcall⟩ := hadd.out W3 (hb2'.out.trans (hb3.mono hb2'.out.size))
  rw [hmv.out] at hcall
  go_upto_region 8 with (go_at_call 77; refine hcall.mono ?_; rintro e w4 ⟨rfl, ha4⟩; have ha4' := Lib.hid ha4; clear ha4)
  obtain ⟨hR4, hh4, hnext⟩ := ha4'.out
  have hnext' := Lib.hid hnext
  have e1 := fun q => wide_cell (w := w4) q hh4.lt hh4.c1
  obtain ⟨-, y0, y1, y2, y3, y4, y5, y6⟩ := hboxc.out w4 hR4
  simp only [Nat.zero_add] at y0 y1 y2 y3 y4 y5 y6
  have z0 := fun q => wide_cell (w := w4) q hR4.lt y0
  have z1 := fun q => wide_cell (w := w4) q hR4.lt y1
  have z2 := fun q => wide_cell (w := w4) q hR4.lt y2
  have z3 := fun q => wide_cell (w := w4) q hR4.lt y3
  have z4 := fun q => wide_cell (w := w4) q hR4.lt y4
  have z5 := fun q => wide_cell (w := w4) q hR4.lt y5
  have z6 := fun q => wide_cell (w := w4) q hR4.lt y6
  have hs3 := fun q : WB => (hsend (wide w4 q)).mono (R' := fun e w' => e = .returned (.agg #[.int .i64 f, .int .i64 u]) ∧ Below (wide w4 q).heap.size (wide w4 q) w') (fun e w' h => ⟨h.1, h.2.below⟩)
  clear y0 y1 y2 y3 y4 y5 y6 hR4 hh4 hnext hcall ha4' hsend
  refine wp_region_wide_tail 7 (by kernel_rfl) (by kernel_rfl) ?_
  simp only [List.take_succ_cons, List.take_zero, List.drop_succ_cons, List.drop_zero]
  repeat (quiet_step (exact Calls.wide_of (hs3 _)))
  refine wpQuiet_nil ?_
  refine wide_all fun W5 hb5 => ?_
  clear e1 z0 z1 z2 z3 z4 z5 z6 hs3
  obtain ⟨-, -, D, hown, hlast⟩ := hnext'.out W5 hb5
  have hlast' := Lib.hid hlast
  have hkey' := hkey.out
  clear hlast hb5
  go_upto_region 9 with ((at_mapUpdate; refine wpList_mapUpdate_in _ rfl _ _ _ 84 rfl 130 140 sendLawH Tryz.underlying84 unitElem mb n D rfl hown hn'.out _ _ _ rfl rfl hkey' (.agg []) [] unitElem_mk ?_; intro w6 hown6 hturn6; have hQ6 := Lib.hid (hlast'.out w6 hown6 hturn6); clear hown6 hturn6))
  clear hown hlast' hkey'
  go_wp2
  go_ret
  exact ⟨rfl, hQ6.out⟩
end Go.Proofs.YtjlbkdghlijoeaaGreat
namespace Go.Proofs.YtjlbkdghlijoeaaGreat
open Go.ChangeShapes Go.WideShapes Go.ChangeAt Go.Shelf Go.RowKit Go.Lib Go.Sort Go.Deep Go.Maps
set_option linter.unusedVariables false

theorem hPush_anyH {w : World} {b0 hb tb mb n : Nat} {v : Value} {T : List M} (h : QAt w b0 hb tb mb n v T) (m : M) (hm : m.fits) (hn : n < maxLen) :
    Calls Tryz.prog 67 #[.pointer (some ⟨hb, 0, none⟩), m.val] w fun e w' => e = .returned (.int .i64 (pushC T m)) ∧ ∃ v', QAt w' b0 hb tb mb (n + 1) v' (pushT T m) ∧ QStep w w' tb mb v v' := by
  by_cases h1 : hasS T m.k.f m.u = true
  · refine (hPush_stayH h m hm (.inl h1)).mono ?_
    rintro e w' ⟨he, hb'⟩
    have e1 : pushT T m = T := by unfold pushT; rw [if_pos h1]
    rw [e1]
    exact ⟨he, v, (h.below hb').mono (Nat.le_succ n), .of_below hb'⟩
  · by_cases h2 : 16384 ≤ T.length
    · refine (hPush_stayH h m hm (.inr h2)).mono ?_
      rintro e w' ⟨he, hb'⟩
      have e1 : pushT T m = T := by unfold pushT; rw [if_neg h1, if_pos h2]
      rw [e1]
      exact ⟨he, v, (h.below hb').mono (Nat.le_succ n), .of_below hb'⟩
    · have e1 : pushT T m = mg ltM T [m] := by unfold pushT; rw [if_neg h1, if_neg h2]
      have e2 : pushC T m = 0 := by unfold pushC; rw [if_neg h1, if_neg h2]
      rw [e1, e2]
      exact hPush_takesH h m hm (by simpa using h1) (by omega) hn

theorem made_notH {w : World} {q : Value} (h : NotMade w q) : Calls Tryz.prog 68 #[q] w fun e w' => e = .returned (.bool false) ∧ w = w' := by
  rcases h with rfl | ⟨b, rfl, _, h2⟩
  · exact made_nilH w
  · exact made_zeroH h2
theorem refusal_notH {w : World} {q : Value} (h : NotMade w q) : Calls Tryz.prog 75 #[q] w fun e w' => e = .returned (.int .i64 7) ∧ w = w' := by
  have hm := made_notH h
  clear h
  go_enter Tryz.func75, Tryz.ntmps75
  go_wp2_with (go_at_call 68; refine hm.mono ?_; rintro e w' ⟨rfl, rfl⟩)
  go_ret
  exact ⟨rfl, rfl⟩
theorem hLen_notH {w : World} {q : Value} (h : NotMade w q) : Calls Tryz.prog 65 #[q] w fun e w' => e = .returned (.int .i64 0) ∧ w = w' := by
  have hm := made_notH h
  clear h
  go_enter Tryz.func65, Tryz.ntmps65
  go_wp2_with (go_at_call 68; refine hm.mono ?_; rintro e w' ⟨rfl, rfl⟩)
  go_ret
  exact ⟨rfl, rfl⟩
theorem hAll_notH {w : World} {q : Value} (h : NotMade w q) : Calls Tryz.prog 62 #[q] w fun e w' => e = .returned (.slice none 0 0) ∧ w = w' := by
  have hm := made_notH h
  clear h
  go_enter Tryz.func62, Tryz.ntmps62
  go_wp2_with (go_at_call 68; refine hm.mono ?_; rintro e w' ⟨rfl, rfl⟩)
  go_ret
  exact ⟨rfl, rfl⟩
theorem hPush_notH {w : World} {q : Value} (h : NotMade w q) (m : M) : Calls Tryz.prog 67 #[q, m.val] w fun e w' => e = .returned (.int .i64 7) ∧ Below w.heap.size w w' := by
  have hm := fun o => made_notH (h.below ((Below.refl _ w).alloc (Nat.le_refl _) o))
  clear h
  obtain ⟨⟨t, f, s⟩, tt, vv, u, an⟩ := m
  simp only [M.val]
  go_enter Tryz.func67, Tryz.ntmps67
  go_wp2_with (go_at_call 68; refine (hm _).mono ?_; rintro e w' ⟨rfl, rfl⟩)
  go_ret
  exact ⟨rfl, (Below.refl _ w).alloc (Nat.le_refl _) _⟩
set_option maxHeartbeats 1000000 in
theorem hFirst_notH {w : World} {q : Value} (h : NotMade w q) : Calls Tryz.prog 64 #[q] w fun e w' => e = .returned (.tuple #[zeroM.val, .int .i64 7]) ∧ Below w.heap.size w w' := by
  have hm := fun o => refusal_notH (h.below ((Below.refl _ w).alloc (Nat.le_refl _) o))
  clear h
  go_enter Tryz.func64, Tryz.ntmps64
  go_wp2_with (go_at_call 75; refine (hm _).mono ?_; rintro e w' ⟨rfl, rfl⟩)
  refine bodyPost_ret (v := .tuple #[.agg #[.int .i64 0, .int .i64 0, .int .i64 0, .int .i64 0, .int .i64 0, .int .i64 0, .bool false], .int .i64 7]) (by simp [results, Tryz.results64, go_sem]) rfl ⟨rfl, ?_⟩
  repeat (refine Below.setCell ?_ (by simp) _)
  exact (Below.refl _ w).alloc (Nat.le_refl _) _
set_option maxHeartbeats 1000000 in
theorem hPop_notH {w : World} {q : Value} (h : NotMade w q) : Calls Tryz.prog 66 #[q] w fun e w' => e = .returned (.tuple #[zeroM.val, .int .i64 7]) ∧ Below w.heap.size w w' := by
  have hm := fun o => refusal_notH (h.below ((Below.refl _ w).alloc (Nat.le_refl _) o))
  clear h
  go_enter Tryz.func66, Tryz.ntmps66
  go_wp2_with (go_at_call 75; refine (hm _).mono ?_; rintro e w' ⟨rfl, rfl⟩)
  refine bodyPost_ret (v := .tuple #[.agg #[.int .i64 0, .int .i64 0, .int .i64 0, .int .i64 0, .int .i64 0, .int .i64 0, .bool false], .int .i64 7]) (by simp [results, Tryz.results66, go_sem]) rfl ⟨rfl, ?_⟩
  repeat (refine Below.setCell ?_ (by simp) _)
  exact (Below.refl _ w).alloc (Nat.le_refl _) _
set_option maxHeartbeats 1000000 in
theorem hCut_notH {w : World} {q : Value} (h : NotMade w q) (f u : Int) : Calls Tryz.prog 63 #[q, .int .i64 f, .int .i64 u] w fun e w' => e = .returned (.tuple #[zeroM.val, .int .i64 7]) ∧ Below w.heap.size w w' := by
  have hm : ∀ w', Below w.heap.size w w' → Calls Tryz.prog 68 #[q] w' fun e w'' => e = .returned (.bool false) ∧ w' = w'' := fun w' hb => made_notH (h.below hb)
  have hB1 : Hid (Below w.heap.size w (((w.alloc (.cells #[q] 70)).alloc (.cells #[.int .i64 0, .int .i64 0, .int .i64 0, .int .i64 0, .int .i64 0, .int .i64 0, .bool false] 34)).alloc (.cells #[.int .i64 0] 24))) := (((Below.refl _ w).alloc (Nat.le_refl _) _).alloc (by simp) _).alloc (by simp; omega) _
  have hm1 := hm _ hB1.out
  have hq : ∃ a, q = .pointer a := by rcases h with rfl | ⟨b, rfl, _⟩ <;> exact ⟨_, rfl⟩
  clear h hm
  obtain ⟨a, rfl⟩ := hq
  go_enter Tryz.func63, Tryz.ntmps63
  go_wp2_with (go_at_call 68; refine hm1.mono ?_; rintro e w' ⟨rfl, rfl⟩)
  refine bodyPost_ret (v := .tuple #[.agg #[.int .i64 0, .int .i64 0, .int .i64 0, .int .i64 0, .int .i64 0, .int .i64 0, .bool false], .int .i64 7]) (by simp [results, Tryz.results63, go_sem]) rfl ⟨rfl, ?_⟩
  repeat (refine Below.setCell ?_ (by simp; try omega) _)
  exact (((Below.refl _ w).alloc (Nat.le_refl _) _).alloc (by simp) _).alloc (by simp; omega) _
end Go.Proofs.YtjlbkdghlijoeaaGreat
namespace Go.Proofs.YtjlbkdghlijoeaaGreat
open Go.ChangeShapes Go.WideShapes Go.ChangeAt Go.Shelf Go.RowKit Go.Lib Go.Sort Go.Deep Go.Maps
set_option linter.unusedVariables false

theorem zeroM_val : zeroM.val = .agg #[.int .i64 0, .int .i64 0, .int .i64 0, .int .i64 0, .int .i64 0, .int .i64 0, .bool false] := rfl
end Go.Proofs.YtjlbkdghlijoeaaGreat
