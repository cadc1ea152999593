/-
  A ladder: Cut.
  A ladder: Push.
-/
import Derived.Test.YtjlbkdghlijoeaaGreatLDYB
import Derived.Test.YtjlbkdghlijoeaaGreatLDQG
import Derived.Test.YtjlbkdghlijoeaaGreatHQ
namespace Go.Proofs.YtjlbkdghlijoeaaGreat
open Go.ChangeShapes Go.WideShapes Go.ChangeAt Go.Shelf Go.RowKit Go.Lib Go.Sort Go.Deep Go.Maps
set_option linter.unusedVariables false

/-- .. and the result's store, at any of the call's blocks. -/
theorem CalAt.of_gone_at {w W0 w3 : World} {hb rb mb A : Nat} {most : Int} {bv av bv' av' : Value} {B' : List M} {us us' : List Up} {T' : List M} {S : Nat → Prop} (hS : ∀ k, LOwn hb rb mb bv av us k → S k) (hSl : ∀ k, S k → k < w.heap.size) (hb0 : Below w.heap.size w W0) (hA : w.heap.size ≤ A) (hlt : A < W0.heap.size)
    (h : LadOf w3 hb rb mb most bv' av' B' us' T') (hk : KeptOff (LOwn hb rb mb bv av us) W0 w3) (ho : ∀ k, LOwn hb rb mb bv' av' us' k → LOwn hb rb mb bv av us k ∨ W0.heap.size ≤ k) (cs : Array Value) :
    ∃ S', CalAt (w3.setRow A cs) hb S' T' ∧ CStep w (w3.setRow A cs) S S' := by
  have k := KeptOff.row w3 A cs
  have hsz := hb0.size
  refine ⟨fun k => S k ∨ (W0.heap.size ≤ k ∧ k < w3.heap.size), ⟨rb, mb, most, bv', av', B', us', h.kept k (fun k hk e => ?_), fun k hk => ?_, fun j hj => ?_⟩, ((KeptOff.of_below hb0).trans (hk.mono (fun k _ e => hS k e))).then_new k (fun k hk e => by omega), fun k e => e.imp id (fun e => by omega)⟩
  · rcases ho k hk with e2 | e2
    · have := hSl k (hS k e2); omega
    · omega
  · exact (ho k hk).imp (fun e => hS k e) (fun e => ⟨e, h.own_lt hk⟩)
  · have h3 := k.size
    have h2 := hk.size
    rcases hj with e | e
    · have := hSl j e; omega
    · omega

set_option maxHeartbeats 2000000 in
theorem hCut_none {w : World} {hb : Nat} {S : Nat → Prop} {T : List M} (h : CalAt w hb S T) {f u : Int} (hf : (Lit.int .i64 f).wf = true) (hu : (Lit.int .i64 u).wf = true) (hs : hasS T f u = false) :
    Calls Tryz.prog 114 #[.pointer (some ⟨hb, 0, none⟩), .int .i64 f, .int .i64 u] w fun e w' => e = .returned (.tuple #[zeroM.val, .int .i64 6]) ∧ Below w.heap.size w w' := by
  obtain ⟨W0, hW0⟩ : ∃ W0, W0 = (w.alloc (.cells #[.int .i64 0, .int .i64 0, .int .i64 0, .int .i64 0, .int .i64 0, .int .i64 0, .bool false] 34)).alloc (.cells #[.int .i64 f, .int .i64 u] 169) := ⟨_, rfl⟩
  have hB0 : Hid (Below w.heap.size w W0) := by rw [hW0]; exact ((Below.refl _ w).alloc (Nat.le_refl _) _).alloc (by simp) _
  have hz : BoxM W0 w.heap.size zeroM := by rw [hW0]; exact (BoxM.mk w zeroM).below ((Below.refl _ _).alloc (Nat.le_refl _) _)
  have hsb : W0.heap[w.heap.size + 1]? = some (.cells #[.int .i64 f, .int .i64 u] 169 (0, 0)) := by
    have e := heap_alloc_new (w.alloc (.cells #[.int .i64 0, .int .i64 0, .int .i64 0, .int .i64 0, .int .i64 0, .int .i64 0, .bool false] 34)) (.cells #[.int .i64 f, .int .i64 u] 169)
    have e1 : (w.alloc (.cells #[.int .i64 0, .int .i64 0, .int .i64 0, .int .i64 0, .int .i64 0, .int .i64 0, .bool false] 34)).heap.size = w.heap.size + 1 := by simp
    rw [e1] at e
    rw [hW0]
    exact e
  have b0 : W0.cell? ⟨w.heap.size + 1, 0, none⟩ = some (.int .i64 f) := by simp [World.cell?, hsb]
  have b1 : W0.cell? ⟨w.heap.size + 1, 1, none⟩ = some (.int .i64 u) := by simp [World.cell?, hsb]
  obtain ⟨rb, mb, most, bv, av, B, us, h1, -, -⟩ := h
  have h0 := h1.below hB0.out
  have hmd := made_ok h0.row
  have hhs := (has_any h0.row h0.keys hf hu).mono (fun e w' h => (⟨h.1, h.2.below⟩ : _ ∧ Below W0.heap.size W0 w'))
  rw [hs] at hhs
  have hfin : Hid (∀ w2, Below W0.heap.size W0 w2 → BoxM w2 w.heap.size zeroM) := fun w2 hb2 => hz.below hb2
  have hhs' := Lib.hid hhs
  clear h1 h0 hhs hs hf hu hsb hz
  go_enter Tryz.func114, Tryz.ntmps114
  go_upto_region 2 with (fail)
  rw [← hW0]
  clear hW0
  go_upto_region 5 with (first
    | (go_at_call 120; refine hmd.mono ?_; rintro e w' ⟨rfl, rfl⟩)
    | (go_at_call 122; refine hhs'.out.mono ?_; rintro e w2 ⟨rfl, hb2⟩; have hz2 := Lib.hid (hfin.out w2 hb2); have hb2' := Lib.hid hb2; clear hb2))
  go_wp2_with (refine wpList_store_row rfl 34 (.tmp 6) (.tmp 22) rfl w.heap.size zeroM.cells rfl rfl 34 zeroM.cells hz2.out infoS rfl (M.cells_one zeroM) ?_)
  obtain ⟨-, s0, s1, s2, s3, s4, s5, s6⟩ := (hz2.out.row zeroM).at
  simp only [Nat.zero_add] at s0 s1 s2 s3 s4 s5 s6
  refine bodyPost_ret (v := .tuple #[zeroM.val, .int .i64 6]) (by simp [results, Tryz.results114, go_sem, s0, s1, s2, s3, s4, s5, s6, M.val]) rfl ⟨rfl, ?_⟩
  exact below_setRow (hB0.out.trans (hb2'.out.mono hB0.out.size)) (Nat.le_refl _) _
set_option maxHeartbeats 2000000 in
theorem hCut_some {w : World} {hb : Nat} {S : Nat → Prop} {T T' : List M} {x : M} (h : CalAt w hb S T) (hp : (x :: T').Perm T) (hO : InOrder ltM T') :
    Calls Tryz.prog 114 #[.pointer (some ⟨hb, 0, none⟩), .int .i64 x.k.f, .int .i64 x.u] w fun e w' => e = .returned (.tuple #[x.val, .int .i64 0]) ∧ ∃ S', CalAt w' hb S' T' ∧ CStep w w' S S' := by
  obtain ⟨W0, hW0⟩ : ∃ W0, W0 = (w.alloc (.cells #[.int .i64 0, .int .i64 0, .int .i64 0, .int .i64 0, .int .i64 0, .int .i64 0, .bool false] 34)).alloc (.cells #[.int .i64 x.k.f, .int .i64 x.u] 169) := ⟨_, rfl⟩
  have hB0 : Hid (Below w.heap.size w W0) := by rw [hW0]; exact ((Below.refl _ w).alloc (Nat.le_refl _) _).alloc (by simp) _
  have hz : BoxM W0 w.heap.size zeroM := by rw [hW0]; exact (BoxM.mk w zeroM).below ((Below.refl _ _).alloc (Nat.le_refl _) _)
  have hsb : W0.heap[w.heap.size + 1]? = some (.cells #[.int .i64 x.k.f, .int .i64 x.u] 169 (0, 0)) := by
    have e := heap_alloc_new (w.alloc (.cells #[.int .i64 0, .int .i64 0, .int .i64 0, .int .i64 0, .int .i64 0, .int .i64 0, .bool false] 34)) (.cells #[.int .i64 x.k.f, .int .i64 x.u] 169)
    have e1 : (w.alloc (.cells #[.int .i64 0, .int .i64 0, .int .i64 0, .int .i64 0, .int .i64 0, .int .i64 0, .bool false] 34)).heap.size = w.heap.size + 1 := by simp
    rw [e1] at e
    rw [hW0]
    exact e
  have b0 : W0.cell? ⟨w.heap.size + 1, 0, none⟩ = some (.int .i64 x.k.f) := by simp [World.cell?, hsb]
  have b1 : W0.cell? ⟨w.heap.size + 1, 1, none⟩ = some (.int .i64 x.u) := by simp [World.cell?, hsb]
  have hbl : w.heap.size + 1 < W0.heap.size := (Array.getElem?_eq_some_iff.1 hsb).1
  have hxT : x ∈ T := hp.mem_iff.1 (List.mem_cons_self ..)
  have hxf := h.fits x hxT
  have hin : hasS T x.k.f x.u = true := hasS_iff.2 ⟨x, hxT, rfl, rfl⟩
  obtain ⟨rb, mb, most, bv, av, B, us, h1, hS, hSl⟩ := h
  have h0 := h1.below hB0.out
  have hmd := made_ok h0.row
  have hhs := (has_any h0.row h0.keys hxf.1.2.1 hxf.2.2.2).mono (fun e w' h => (⟨h.1, h.2.below⟩ : _ ∧ Below W0.heap.size W0 w'))
  rw [hin] at hhs
  have hst : ∀ (V : World), BoxM V w.heap.size zeroM → (storeCells ⟨w.heap.size, 0, none⟩ x.cells.toList).run Tryz.prog V = .ok () (V.setRow w.heap.size x.cells) := fun V hz => by
    have := run_storeCells_at Tryz.prog w.heap.size 0 34 x.cells.toList 0 zeroM.cells V hz (by rw [Array.length_toList]; exact Nat.le_refl _) (fun v hv => encM_one x v hv)
    simpa [M.cells, zeroM] using this
  have hcs : x.cells.size = 7 := rfl
  have htk : Hid (∀ w', Below W0.heap.size W0 w' → w'.cell? ⟨hb, 0, none⟩ = some (.pointer (some ⟨rb, 0, none⟩)) ∧ w'.cell? ⟨w.heap.size + 1, 0, none⟩ = some (.int .i64 x.k.f) ∧ w'.cell? ⟨w.heap.size + 1, 1, none⟩ = some (.int .i64 x.u) ∧
      Hid (Calls Tryz.prog 124 #[.pointer (some ⟨rb, 0, none⟩), .agg #[.int .i64 x.k.f, .int .i64 x.u]] w' fun e w2 => e = .returned (.agg x.cells) ∧ Hid (Calls Tryz.prog 123 #[.pointer (some ⟨hb, 0, none⟩), .agg x.cells] w2 fun e w3 => e = .returned (.agg x.cells) ∧
        Hid (BoxM w3 w.heap.size zeroM ∧ (∃ S', CalAt (w3.setRow w.heap.size x.cells) hb S' T' ∧ CStep w (w3.setRow w.heap.size x.cells) S S'))))) := by
    intro w' hb'
    have hbw := hB0.out.trans (hb'.mono hB0.out.size)
    have h2 := h0.below hb'
    refine ⟨h2.row.c0, (hb'.cell (p := ⟨w.heap.size + 1, 0, none⟩) hbl).trans b0, (hb'.cell (p := ⟨w.heap.size + 1, 1, none⟩) hbl).trans b1, (drop_any h2 hxT).mono ?_⟩
    rintro e w2 ⟨he, ht⟩
    obtain ⟨r2, k2, o2, hnext⟩ := h2.gone hp hO ht
    refine ⟨he, (forget_any r2 k2 x hxf hp h2.u).mono ?_⟩
    rintro e w3 ⟨he, hq⟩
    obtain ⟨k3, o3⟩ := hq.out
    obtain ⟨bv', av', B'', us', h3, hk3, ho3⟩ := hnext w3 k3 o3
    have hz3 : BoxM w3 w.heap.size zeroM := (hz.below hb').kept hk3 (fun e => by have := h1.own_lt e; omega)
    have hsz := hb'.size
    exact ⟨he, hz3, CalAt.of_gone_at hS hSl hbw (Nat.le_refl _) (by omega) h3 hk3 ho3 _⟩
  have hhs' := Lib.hid hhs
  rw [show x.val = .agg x.cells from rfl]
  have hst' := Lib.hid hst
  clear h0 h1 hhs hp hO hxT hxf hin hsb hz hbl hS hSl hst
  go_enter Tryz.func114, Tryz.ntmps114
  go_upto_region 2 with (fail)
  rw [← hW0]
  clear hW0
  go_upto_region 6 with (first
    | (go_at_call 120; refine hmd.mono ?_; rintro e w' ⟨rfl, rfl⟩)
    | (go_at_call 122; refine hhs'.out.mono ?_; rintro e w2 ⟨rfl, hb2⟩; have hb2' := Lib.hid hb2; clear hb2))
  obtain ⟨d2, d0, d1, htk2⟩ := htk.out w2.drew hb2'.out.drew
  have d2 : w2.cell? ⟨hb, 0, none⟩ = some (.pointer (some ⟨rb, 0, none⟩)) := d2
  have d0 : w2.cell? ⟨w.heap.size + 1, 0, none⟩ = some (.int .i64 x.k.f) := d0
  have d1 : w2.cell? ⟨w.heap.size + 1, 1, none⟩ = some (.int .i64 x.u) := d1
  clear htk b0 b1 hmd hhs'
  go_region_with (first
    | (go_at_call 124; refine htk2.out.mono ?_; rintro e w3 ⟨rfl, hfg⟩)
    | (go_at_call 123; refine hfg.out.mono ?_; rintro e w4 ⟨rfl, hQ3⟩; have hrun := hst'.out w4 hQ3.out.1))
  all_goals
    have hz4 := hQ3.out.1.row x
    have hR := Lib.hid hQ3.out.2
    obtain ⟨-, s0, s1, s2, s3, s4, s5, s6⟩ := hz4.at
    simp only [Nat.zero_add, M.cells] at s0 s1 s2 s3 s4 s5 s6
    clear hrun hfg htk2 hst' hQ3 hz4
    go_wp2
    exact bodyPost_ret (v := .tuple #[.agg x.cells, .int .i64 0]) (by simp [results, Tryz.results114, go_sem, s0, s1, s2, s3, s4, s5, s6, M.cells]) rfl ⟨rfl, hR.out⟩
end Go.Proofs.YtjlbkdghlijoeaaGreat
namespace Go.Proofs.YtjlbkdghlijoeaaGreat
open Go.ChangeShapes Go.WideShapes Go.ChangeAt Go.Shelf Go.RowKit Go.Lib Go.Sort Go.Deep Go.Maps
set_option linter.unusedVariables false

/-- What a Push answers. -/
def pushC (T : List M) (m : M) : Int := if hasS T m.k.f m.u = true then 8 else if 16384 ≤ T.length then 9 else 0
/-- What a Push makes of the messages. -/
def pushT (T : List M) (m : M) : List M := if hasS T m.k.f m.u = true then T else if 16384 ≤ T.length then T else mg ltM T [m]
/-- What a Push of a message that is taken leaves. -/
def PushPost (w : World) (hb : Nat) (S : Nat → Prop) (T : List M) (m : M) (w' : World) : Prop := ∃ S', CalAt w' hb S' (mg ltM T [m]) ∧ CStep w w' S S'

set_option maxHeartbeats 2000000 in
set_option maxRecDepth 100000 in
theorem hPush_stay {w : World} {hb : Nat} {S : Nat → Prop} {T : List M} (h : CalAt w hb S T) (m : M) (hm : m.fits) (hst : hasS T m.k.f m.u = true ∨ 16384 ≤ T.length) :
    Calls Tryz.prog 118 #[.pointer (some ⟨hb, 0, none⟩), m.val] w fun e w' => e = .returned (.int .i64 (pushC T m)) ∧ Below w.heap.size w w' := by
  obtain ⟨W0, hW0⟩ : ∃ W0, W0 = w.alloc (.cells m.cells 34) := ⟨_, rfl⟩
  have hB0 : Hid (Below w.heap.size w W0) := by rw [hW0]; exact (Below.refl _ w).alloc (Nat.le_refl _) _
  have hR0 : Hid (BoxM W0 w.heap.size m) := by rw [hW0]; exact BoxM.mk w m
  have hC : Hid (pushC T m = if hasS T m.k.f m.u = true then 8 else if 16384 ≤ T.length then 9 else 0) := rfl
  obtain ⟨r, hr⟩ : ∃ r, hasS T m.k.f m.u = r := ⟨_, rfl⟩
  rw [hr] at hst
  have hr' := Lib.hid hr
  have h0 := h.below hB0.out
  obtain ⟨rb, mb, most, bv, av, B, us, h1, -, -⟩ := h0
  have hsend := fun w => sending_any m w
  simp only [M.val, sendV] at hsend
  have hhas : Hid (∀ w1, Below W0.heap.size W0 w1 → Calls Tryz.prog 122 #[.pointer (some ⟨hb, 0, none⟩), .agg #[.int .i64 m.k.f, .int .i64 m.u]] w1 fun e w' => e = .returned (.bool r) ∧ Below w1.heap.size w1 w') := by
    intro w1 hw1
    have h2 := h1.below hw1
    have := (has_any h2.row h2.keys (f := m.k.f) (u := m.u) hm.1.2.1 hm.2.2.2).mono (fun e w' h => (⟨h.1, h.2.below⟩ : _ ∧ Below w1.heap.size w1 w'))
    rwa [hr'.out] at this
  have hsz : Hid (∀ w1, Below W0.heap.size W0 w1 → w1.cell? ⟨hb, 1, none⟩ = some (.map (some mb)) ∧ ∀ ty, (Builtin.len_ #[94] ty #[.map (some mb)]).run Tryz.prog w1 = .ok (.int .i64 T.length) w1) := by
    intro w1 hw1
    have h2 := h1.below hw1
    exact ⟨h2.row.c1, fun ty => h2.keys.len ty⟩
  have hmd := made_ok h1.row
  obtain ⟨-, x0, x1, x2, x3, x4, x5, x6⟩ := hR0.out.at
  simp only [Nat.zero_add] at x0 x1 x2 x3 x4 x5 x6
  clear h h1 hr hm
  have hW0' := Lib.hid hW0
  clear hW0
  obtain ⟨c, hc⟩ : ∃ c, pushC T m = c := ⟨_, rfl⟩
  rw [hc] at hC ⊢
  clear hc
  obtain ⟨⟨t, f, s⟩, tt, vv, u, an⟩ := m
  simp only [M.val, M.cells] at hW0' hsend hhas x0 x1 x2 x3 x4 x5 x6 ⊢
  cases r with
  | true =>
    obtain rfl : c = 8 := by rw [hC.out, hr'.out]; simp
    clear hst
    go_enter Tryz.func118, Tryz.ntmps118
    go_upto_region 1 with (fail)
    rw [← hW0'.out]
    go_wp2_with (first
      | (go_at_call 120; refine hmd.mono ?_; rintro e w' ⟨rfl, rfl⟩)
      | (go_at_call 128; refine (hsend _).mono ?_; rintro e w1 ⟨rfl, hr1⟩; have hh1 := hhas.out w1 hr1.below; have hr1' := Lib.hid hr1; clear hr1)
      | (go_at_call 122; refine hh1.mono ?_; rintro e w2 ⟨rfl, hb2⟩; have hb2' := Lib.hid hb2; clear hb2))
    go_ret
    exact ⟨rfl, hB0.out.trans ((hr1'.out.below.trans (hb2'.out.mono hr1'.out.below.size)).mono hB0.out.size)⟩
  | false =>
    have hk : 16384 ≤ T.length := by
      rcases hst with e | e
      · cases e
      · exact e
    obtain rfl : c = 9 := by rw [hC.out, hr'.out]; simp [hk]
    have hk' : (16384 : Int) ≤ (T.length : Int) := by omega
    generalize T.length = N at *
    clear hk hst
    go_enter Tryz.func118, Tryz.ntmps118
    go_upto_region 1 with (fail)
    rw [← hW0'.out]
    go_wp2_with (first
      | (go_at_call 120; refine hmd.mono ?_; rintro e w' ⟨rfl, rfl⟩)
      | (go_at_call 128; refine (hsend _).mono ?_; rintro e w1 ⟨rfl, hr1⟩; have hh1 := hhas.out w1 hr1.below; have hr1' := Lib.hid hr1; clear hr1)
      | (go_at_call 122; refine hh1.mono ?_; rintro e w2 ⟨rfl, hb2⟩; have hb12 := hr1'.out.below.trans (hb2.mono hr1'.out.below.size); obtain ⟨c2, hln⟩ := hsz.out w2 hb12; have hb2' := Lib.hid hb12; clear hb2 hb12))
    go_ret
    exact ⟨rfl, hB0.out.trans (hb2'.out.mono hB0.out.size)⟩

set_option maxHeartbeats 4000000 in
set_option maxRecDepth 100000 in
theorem hPush_takes {w : World} {hb : Nat} {S : Nat → Prop} {T : List M} (h : CalAt w hb S T) (m : M) (hm : m.fits) (hs : hasS T m.k.f m.u = false) (hTl : T.length < 16384) :
    Calls Tryz.prog 118 #[.pointer (some ⟨hb, 0, none⟩), m.val] w fun e w' => e = .returned (.int .i64 0) ∧ PushPost w hb S T m w' := by
  have mixed := mixed
  obtain ⟨W0, hW0⟩ : ∃ W0, W0 = w.alloc (.cells m.cells 34) := ⟨_, rfl⟩
  have hB0 : Hid (Below w.heap.size w W0) := by rw [hW0]; exact (Below.refl _ w).alloc (Nat.le_refl _) _
  have hR0 : Hid (BoxM W0 w.heap.size m) := by rw [hW0]; exact BoxM.mk w m
  have hput := put_list h.o h.u hs
  have hfit := h.fits
  have hperm : (mg ltM T [m]).Perm (m :: T) := hput.2.2.1.trans (List.perm_append_comm (l₁ := T) (l₂ := [m]))
  obtain ⟨rb, mb, most, bv, av, B, us, h1, hS, hSl⟩ := h
  have h0 := h1.below hB0.out
  have hsend := fun w => sending_any m w
  simp only [M.val, sendV] at hsend
  have hhas : Hid (∀ w1, Below W0.heap.size W0 w1 → Calls Tryz.prog 122 #[.pointer (some ⟨hb, 0, none⟩), .agg #[.int .i64 m.k.f, .int .i64 m.u]] w1 fun e w' => e = .returned (.bool false) ∧ Below w1.heap.size w1 w') := by
    intro w1 hw1
    have h2 := h0.below hw1
    have := (has_any h2.row h2.keys (f := m.k.f) (u := m.u) hm.1.2.1 hm.2.2.2).mono (fun e w' h => (⟨h.1, h.2.below⟩ : _ ∧ Below w1.heap.size w1 w'))
    rwa [hs] at this
  have hsz : Hid (∀ w1, Below W0.heap.size W0 w1 → w1.cell? ⟨hb, 1, none⟩ = some (.map (some mb)) ∧ ∀ ty, (Builtin.len_ #[94] ty #[.map (some mb)]).run Tryz.prog w1 = .ok (.int .i64 T.length) w1) := by
    intro w1 hw1
    have h2 := h0.below hw1
    exact ⟨h2.row.c1, fun ty => h2.keys.len ty⟩
  have hadd : Hid (∀ W', Below W0.heap.size W0 W' → BoxM W' w.heap.size m ∧ LadRow W' hb rb mb ∧ Calls Tryz.prog 129 #[.pointer (some ⟨rb, 0, none⟩), m.val] W' fun e w4 => e = .returned (.tuple #[]) ∧ Hid (BoxM w4 w.heap.size m ∧ LadRow w4 hb rb mb ∧
      ∀ W5, Below w4.heap.size w4 W5 → KeysAt W5 mb T ∧ ∀ W6, KeysAt W6 mb (mg ltM T [m]) → KeptOff (fun k => k = mb) W5 W6 → PushPost w hb S T m W6)) := by
    intro W' hW'
    have h2 := h0.below hW'
    have hR2 := hR0.out.below hW'
    have hpm : (mg ltM T [m]).Perm (m :: held B us) := hperm.trans (h1.same.symm.cons m)
    have hlen := h1.hlen
    refine ⟨hR2, h2.row, (put_any h2.rungs h2.stairs m (hput.2.1.perm hpm) h2.most1 (by omega)).mono ?_⟩
    rintro e w4 ⟨he, B', us', bv', av', hr, hst, hp4⟩
    have hnew : ∀ k, w.heap.size ≤ k → ¬ ROwn rb bv av us k := fun k hk e => by have := h1.own_lt (.inr (.inr e)); omega
    have hr4 : LadRow w4 hb rb mb := (hr.2.1.block hb h2.row.lt (fun e => (h1.off e).1 rfl)).trans h2.row
    have hK4 := h2.keys.kept hr.2.1 (fun e => (h1.off e).2 rfl)
    refine ⟨he, hR2.kept hr.2.1 (hnew _ (Nat.le_refl _)), hr4, fun W5 hb5 => ⟨hK4.below' hb5, fun W6 hK6 hk6 => ?_⟩⟩
    have hmb4 : ∀ k, ROwn rb bv' av' us' k → ¬ k = mb := fun k e e2 => by
      obtain ⟨cur, t, g1, -⟩ := hr.1.tags e
      obtain ⟨es, c, hm⟩ := hK4.tag
      rw [e2, hm] at g1
      cases g1
    have hR6 := (hr.1.below hb5).kept hk6 hmb4
    have hr5 : LadRow W5 hb rb mb := (hb5.block hb hr4.lt).trans hr4
    have hr6 : LadRow W6 hb rb mb := (hk6.block hb hr5.lt h1.hb_mb).trans hr5
    have kall : KeptOff S w W6 := by
      have k1 : KeptOff S w W' := .of_below (hB0.out.trans (hW'.mono hB0.out.size))
      refine ((k1.trans (hr.2.1.mono (fun k _ e => hS k (.inr (.inr e))))).then_new (S' := fun _ => False) (.of_below hb5) (fun k _ e => e.elim)).trans (hk6.mono (fun k _ e => hS k (.inr (.inl e))))
    have hfit6 : ∀ x ∈ mg ltM T [m], x.fits := fun x hx => (List.mem_cons.1 (hperm.mem_iff.1 hx)).elim (fun e => e ▸ hm) (fun hx => hfit x hx)
    have hL6 : LadOf W6 hb rb mb most bv' av' B' us' (mg ltM T [m]) := { row := hr6, rungs := hR6, stairs := hst, same := hp4.trans hpm.symm, o := hput.1, u := hput.2.1, fits := hfit6, small := (by rw [hput.2.2.2]; omega), most1 := h1.most1, keys := hK6 }
    refine ⟨fun k => S k ∨ (w.heap.size ≤ k ∧ k < W6.heap.size), ⟨rb, mb, most, bv', av', B', us', hL6, ?_, ?_⟩, kall, fun k e => e.imp id (fun e => e.1)⟩
    · rintro k (e | e | e)
      · exact .inl (hS k (.inl e))
      · exact .inl (hS k (.inr (.inl e)))
      · rcases hr.2.2 k e with e2 | e2
        · exact .inl (hS k (.inr (.inr e2)))
        · exact .inr ⟨by have := hB0.out.size; have := hW'.size; omega, hL6.own_lt (.inr (.inr e))⟩
    · rintro k (e | e)
      · exact Nat.lt_of_lt_of_le (hSl k e) kall.size
      · exact e.2
  have hmd := made_ok h0.row
  obtain ⟨-, x0, x1, x2, x3, x4, x5, x6⟩ := hR0.out.at
  simp only [Nat.zero_add] at x0 x1 x2 x3 x4 x5 x6
  have hW0' := Lib.hid hW0
  have hmf := Lib.hid hm
  have hs' := Lib.hid hs
  have hfit' := Lib.hid hfit
  have hperm' := Lib.hid hperm
  have hTl' := Lib.hid hTl
  have hk' : ¬ (16384 : Int) ≤ (T.length : Int) := by omega
  generalize PushPost w hb S T m = R at hadd ⊢
  obtain ⟨m1, hm1⟩ : ∃ m1, m1 = m := ⟨_, rfl⟩
  have hm1' := Lib.hid hm1
  rw [← hm1] at hmf hs' hperm' hadd hR0
  clear h1 h0 hm hs hfit hput hperm hS hSl hW0 hm1 hTl
  obtain ⟨⟨t, f, s⟩, tt, vv, u, an⟩ := m
  have hmv : Hid (m1.val = .agg #[.int .i64 t, .int .i64 f, .int .i64 s, .int .i64 tt, .int .i64 vv, .int .i64 u, .bool an]) := by show _ = _; rw [hm1'.out]; rfl
  have hkv : Hid (m1.k.val = .agg #[.int .i64 t, .int .i64 f, .int .i64 s] ∧ m1.k.f = f ∧ m1.u = u) := by show _ ∧ _; rw [hm1'.out]; exact ⟨rfl, rfl, rfl⟩
  simp only [M.val, M.cells] at hW0' hsend hhas x0 x1 x2 x3 x4 x5 x6 ⊢
  have hboxc : Hid (∀ W, BoxM W w.heap.size m1 → MsgAt W w.heap.size 0 ⟨⟨t, f, s⟩, tt, vv, u, an⟩) := by intro W hW; have := hW.at; rwa [hm1'.out] at this
  go_enter Tryz.func118, Tryz.ntmps118
  go_upto_region 1 with (fail)
  rw [← hW0'.out]
  go_upto_region 7 with (first
      | (go_at_call 120; refine hmd.mono ?_; rintro e w' ⟨rfl, rfl⟩)
      | (go_at_call 128; refine (hsend _).mono ?_; rintro e w1 ⟨rfl, hr1⟩; have hh1 := hhas.out w1 hr1.below; have hr1' := Lib.hid hr1; clear hr1)
      | (go_at_call 122; refine hh1.mono ?_; rintro e w2 ⟨rfl, hb2⟩; have hb12 := hr1'.out.below.trans (hb2.mono hr1'.out.below.size); obtain ⟨c2, hln⟩ := hsz.out w2 hb12; have hb2' := Lib.hid hb12; clear hb2 hb12))
  obtain ⟨hR2, hh2, _⟩ := hadd.out w2 hb2'.out
  have e0 := fun q => wide_cell (w := w2) (a := ⟨hb, 0, none⟩) q hh2.lt hh2.c0
  obtain ⟨-, y0, y1, y2, y3, y4, y5, y6⟩ := hboxc.out w2 hR2
  simp only [Nat.zero_add] at y0 y1 y2 y3 y4 y5 y6
  have z0 := fun q => wide_cell (w := w2) q hR2.lt y0
  have z1 := fun q => wide_cell (w := w2) q hR2.lt y1
  have z2 := fun q => wide_cell (w := w2) q hR2.lt y2
  have z3 := fun q => wide_cell (w := w2) q hR2.lt y3
  have z4 := fun q => wide_cell (w := w2) q hR2.lt y4
  have z5 := fun q => wide_cell (w := w2) q hR2.lt y5
  have z6 := fun q => wide_cell (w := w2) q hR2.lt y6
  clear x0 x1 x2 x3 x4 x5 x6 y0 y1 y2 y3 y4 y5 y6 hmd hhas hsz hh1 hln c2 hh2 hR2
  refine wp_region_wide_tail 5 (by kernel_rfl) (by kernel_rfl) ?_
  simp only [List.take_succ_cons, List.take_zero, List.drop_succ_cons, List.drop_zero]
  repeat (quiet_step (fail))
  refine wpQuiet_nil ?_
  refine wide_all fun W3 hb3 => ?_
  clear e0 z0 z1 z2 z3 z4 z5 z6
  obtain ⟨-, -, hcall⟩ := hadd.out W3 (hb2'.out.trans (hb3.mono hb2'.out.size))
  rw [hmv.out] at hcall
  go_upto_region 8 with (go_at_call 129; refine hcall.mono ?_; rintro e w4 ⟨rfl, ha4⟩)
  obtain ⟨hR4, hh4, hnext⟩ := ha4.out
  have hnext' := Lib.hid hnext
  have e1 := fun q => wide_cell (w := w4) (a := ⟨hb, 1, none⟩) q hh4.lt hh4.c1
  obtain ⟨-, y0, y1, y2, y3, y4, y5, y6⟩ := hboxc.out w4 hR4
  simp only [Nat.zero_add] at y0 y1 y2 y3 y4 y5 y6
  have z0 := fun q => wide_cell (w := w4) q hR4.lt y0
  have z1 := fun q => wide_cell (w := w4) q hR4.lt y1
  have z2 := fun q => wide_cell (w := w4) q hR4.lt y2
  have z3 := fun q => wide_cell (w := w4) q hR4.lt y3
  have z4 := fun q => wide_cell (w := w4) q hR4.lt y4
  have z5 := fun q => wide_cell (w := w4) q hR4.lt y5
  have z6 := fun q => wide_cell (w := w4) q hR4.lt y6
  have hs3 := fun q : WB => (hsend (wide w4 q)).mono (R' := fun e w' => e = .returned (.agg #[.int .i64 f, .int .i64 u]) ∧ Below (wide w4 q).heap.size (wide w4 q) w') (fun e w' h => ⟨h.1, h.2.below⟩)
  clear y0 y1 y2 y3 y4 y5 y6 hR4 hh4 hnext hcall ha4 hsend
  refine wp_region_wide_tail 7 (by kernel_rfl) (by kernel_rfl) ?_
  simp only [List.take_succ_cons, List.take_zero, List.drop_succ_cons, List.drop_zero]
  repeat (quiet_step (exact Calls.wide_of (hs3 _)))
  refine wpQuiet_nil ?_
  refine wide_all fun W5 hb5 => ?_
  clear e1 z0 z1 z2 z3 z4 z5 z6 hs3
  obtain ⟨hK5, hlast⟩ := hnext'.out W5 hb5
  have hlast' := Lib.hid hlast
  have ex : Value.agg #[.int .i64 f, .int .i64 u] = .agg #[.int .i64 m1.k.f, .int .i64 m1.u] := by rw [hkv.out.2.1, hkv.out.2.2]
  clear hlast hb5
  go_upto_region 9 with ((refine wpList_store_keys rfl _ _ _ rfl m1 rfl ex rfl hK5 hmf.out hs'.out (by have := hTl'.out; omega) hperm'.out ?_; intro w6 hK6 hk6; have hQ6 := Lib.hid (hlast'.out w6 hK6.out hk6.out); clear hK6 hk6))
  clear hK5 hlast'
  go_wp2
  go_ret
  exact ⟨rfl, hQ6.out⟩

/-- Any Push. -/
theorem hPush_any {w : World} {hb : Nat} {S : Nat → Prop} {T : List M} (h : CalAt w hb S T) (m : M) (hm : m.fits) :
    Calls Tryz.prog 118 #[.pointer (some ⟨hb, 0, none⟩), m.val] w fun e w' => e = .returned (.int .i64 (pushC T m)) ∧ ∃ S', CalAt w' hb S' (pushT T m) ∧ CStep w w' S S' := by
  by_cases h1 : hasS T m.k.f m.u = true
  · refine (hPush_stay h m hm (.inl h1)).mono ?_
    rintro e w' ⟨he, hb'⟩
    have e1 : pushT T m = T := by unfold pushT; rw [if_pos h1]
    rw [e1]
    exact ⟨he, S, h.below hb', .of_below hb'⟩
  · by_cases h2 : 16384 ≤ T.length
    · refine (hPush_stay h m hm (.inr h2)).mono ?_
      rintro e w' ⟨he, hb'⟩
      have e1 : pushT T m = T := by unfold pushT; rw [if_neg h1, if_pos h2]
      rw [e1]
      exact ⟨he, S, h.below hb', .of_below hb'⟩
    · have e1 : pushT T m = mg ltM T [m] := by unfold pushT; rw [if_neg h1, if_neg h2]
      have e2 : pushC T m = 0 := by unfold pushC; rw [if_neg h1, if_neg h2]
      rw [e1, e2]
      exact hPush_takes h m hm (by simpa using h1) (by omega)
end Go.Proofs.YtjlbkdghlijoeaaGreat
