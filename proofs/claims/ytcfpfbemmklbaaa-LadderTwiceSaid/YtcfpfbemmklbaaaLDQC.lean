/-
  A ladder: Cut.
-/
import Derived.Test.YtcfpfbemmklbaaaLDYB
import Derived.Test.YtcfpfbemmklbaaaLDQG
namespace Go.Proofs.Ytcfpfbemmklbaaa
open Go.ChangeShapes Go.WideShapes Go.ChangeAt Go.Shelf Go.RowKit Go.Lib Go.Sort Go.Deep Go.Maps
set_option linter.unusedVariables false

/-- .. and the result's store, at any of the call's blocks. -/
theorem CalAt.of_gone_at {w W0 w3 : World} {hb rb mb A : Nat} {most : Int} {bv av bv' av' : Value} {B' : List M} {us us' : List Up} {T' : List M} {S : Nat → Prop} (hS : ∀ k, LOwn hb rb mb bv av us k → S k) (hSl : ∀ k, S k → k < w.heap.size) (hb0 : Below w.heap.size w W0) (hA : w.heap.size ≤ A) (hlt : A < W0.heap.size)
    (h : LadOf w3 hb rb mb most bv' av' B' us' T') (hk : KeptOff (LOwn hb rb mb bv av us) W0 w3) (ho : ∀ k, LOwn hb rb mb bv' av' us' k → LOwn hb rb mb bv av us k ∨ W0.heap.size ≤ k) (cs : Array Value) :
    ∃ S', CalAt (w3.setRow A cs) hb S' T' ∧ CStep w (w3.setRow A cs) S S' := by
  have k := KeptOff.row w3 A cs
  have hsz := hb0.size
  refine ⟨fun k => S k ∨ (W0.heap.size ≤ k ∧ k < w3.heap.size), ⟨rb, mb, most, bv', av', B', us', h.kept k (fun k hk e => ?_), fun k hk => ?_, fun j hj => ?_⟩, ((KeptOff.of_below hb0).trans (hk.mono (fun k _ e => hS k e))).then_new k (fun k hk e => by omega), fun k e => e.imp id (fun e => by omega)⟩
  · rcases ho k hk with e2 | e2
    · have := hSl k (hS k e2); omega
    · omega
  · exact (ho k hk).imp (fun e => hS k e) (fun e => ⟨e, h.own_lt hk⟩)
  · have h3 := k.size
    have h2 := hk.size
    rcases hj with e | e
    · have := hSl j e; omega
    · omega

set_option maxHeartbeats 2000000 in
theorem hCut_none {w : World} {hb : Nat} {S : Nat → Prop} {T : List M} (h : CalAt w hb S T) {f u : Int} (hf : (Lit.int .i64 f).wf = true) (hu : (Lit.int .i64 u).wf = true) (hs : hasS T f u = false) :
    Calls Try.prog 18 #[.pointer (some ⟨hb, 0, none⟩), .int .i64 f, .int .i64 u] w fun e w' => e = .returned (.tuple #[zeroM.val, .int .i64 6]) ∧ Below w.heap.size w w' := by
  obtain ⟨W0, hW0⟩ : ∃ W0, W0 = (w.alloc (.cells #[.int .i64 0, .int .i64 0, .int .i64 0, .int .i64 0, .int .i64 0, .int .i64 0, .bool false] 34)).alloc (.cells #[.int .i64 f, .int .i64 u] 65) := ⟨_, rfl⟩
  have hB0 : Hid (Below w.heap.size w W0) := by rw [hW0]; exact ((Below.refl _ w).alloc (Nat.le_refl _) _).alloc (by simp) _
  have hz : BoxM W0 w.heap.size zeroM := by rw [hW0]; exact (BoxM.mk w zeroM).below ((Below.refl _ _).alloc (Nat.le_refl _) _)
  have hsb : W0.heap[w.heap.size + 1]? = some (.cells #[.int .i64 f, .int .i64 u] 65 (0, 0)) := by
    have e := heap_alloc_new (w.alloc (.cells #[.int .i64 0, .int .i64 0, .int .i64 0, .int .i64 0, .int .i64 0, .int .i64 0, .bool false] 34)) (.cells #[.int .i64 f, .int .i64 u] 65)
    have e1 : (w.alloc (.cells #[.int .i64 0, .int .i64 0, .int .i64 0, .int .i64 0, .int .i64 0, .int .i64 0, .bool false] 34)).heap.size = w.heap.size + 1 := by simp
    rw [e1] at e
    rw [hW0]
    exact e
  have b0 : W0.cell? ⟨w.heap.size + 1, 0, none⟩ = some (.int .i64 f) := by simp [World.cell?, hsb]
  have b1 : W0.cell? ⟨w.heap.size + 1, 1, none⟩ = some (.int .i64 u) := by simp [World.cell?, hsb]
  obtain ⟨rb, mb, most, bv, av, B, us, h1, -, -⟩ := h
  have h0 := h1.below hB0.out
  have hmd := made_ok h0.row
  have hhs := (has_any h0.row h0.keys hf hu).mono (fun e w' h => (⟨h.1, h.2.below⟩ : _ ∧ Below W0.heap.size W0 w'))
  rw [hs] at hhs
  have hfin : Hid (∀ w2, Below W0.heap.size W0 w2 → BoxM w2 w.heap.size zeroM) := fun w2 hb2 => hz.below hb2
  have hhs' := Lib.hid hhs
  clear h1 h0 hhs hs hf hu hsb hz
  go_enter Try.func18, Try.ntmps18
  go_upto_region 2 with (fail)
  rw [← hW0]
  clear hW0
  go_upto_region 5 with (first
    | (go_at_call 25; refine hmd.mono ?_; rintro e w' ⟨rfl, rfl⟩)
    | (go_at_call 27; refine hhs'.out.mono ?_; rintro e w2 ⟨rfl, hb2⟩; have hz2 := Lib.hid (hfin.out w2 hb2); have hb2' := Lib.hid hb2; clear hb2))
  go_wp2_with (refine wpList_store_row rfl 34 (.tmp 6) (.tmp 22) rfl w.heap.size zeroM.cells rfl rfl 34 zeroM.cells hz2.out infoS rfl (M.cells_one zeroM) ?_)
  obtain ⟨-, s0, s1, s2, s3, s4, s5, s6⟩ := (hz2.out.row zeroM).at
  simp only [Nat.zero_add] at s0 s1 s2 s3 s4 s5 s6
  refine bodyPost_ret (v := .tuple #[zeroM.val, .int .i64 6]) (by simp [results, Try.results18, go_sem, s0, s1, s2, s3, s4, s5, s6, M.val]) rfl ⟨rfl, ?_⟩
  exact below_setRow (hB0.out.trans (hb2'.out.mono hB0.out.size)) (Nat.le_refl _) _
set_option maxHeartbeats 2000000 in
theorem hCut_some {w : World} {hb : Nat} {S : Nat → Prop} {T T' : List M} {x : M} (h : CalAt w hb S T) (hp : (x :: T').Perm T) (hO : InOrder ltM T') :
    Calls Try.prog 18 #[.pointer (some ⟨hb, 0, none⟩), .int .i64 x.k.f, .int .i64 x.u] w fun e w' => e = .returned (.tuple #[x.val, .int .i64 0]) ∧ ∃ S', CalAt w' hb S' T' ∧ CStep w w' S S' := by
  obtain ⟨W0, hW0⟩ : ∃ W0, W0 = (w.alloc (.cells #[.int .i64 0, .int .i64 0, .int .i64 0, .int .i64 0, .int .i64 0, .int .i64 0, .bool false] 34)).alloc (.cells #[.int .i64 x.k.f, .int .i64 x.u] 65) := ⟨_, rfl⟩
  have hB0 : Hid (Below w.heap.size w W0) := by rw [hW0]; exact ((Below.refl _ w).alloc (Nat.le_refl _) _).alloc (by simp) _
  have hz : BoxM W0 w.heap.size zeroM := by rw [hW0]; exact (BoxM.mk w zeroM).below ((Below.refl _ _).alloc (Nat.le_refl _) _)
  have hsb : W0.heap[w.heap.size + 1]? = some (.cells #[.int .i64 x.k.f, .int .i64 x.u] 65 (0, 0)) := by
    have e := heap_alloc_new (w.alloc (.cells #[.int .i64 0, .int .i64 0, .int .i64 0, .int .i64 0, .int .i64 0, .int .i64 0, .bool false] 34)) (.cells #[.int .i64 x.k.f, .int .i64 x.u] 65)
    have e1 : (w.alloc (.cells #[.int .i64 0, .int .i64 0, .int .i64 0, .int .i64 0, .int .i64 0, .int .i64 0, .bool false] 34)).heap.size = w.heap.size + 1 := by simp
    rw [e1] at e
    rw [hW0]
    exact e
  have b0 : W0.cell? ⟨w.heap.size + 1, 0, none⟩ = some (.int .i64 x.k.f) := by simp [World.cell?, hsb]
  have b1 : W0.cell? ⟨w.heap.size + 1, 1, none⟩ = some (.int .i64 x.u) := by simp [World.cell?, hsb]
  have hbl : w.heap.size + 1 < W0.heap.size := (Array.getElem?_eq_some_iff.1 hsb).1
  have hxT : x ∈ T := hp.mem_iff.1 (List.mem_cons_self ..)
  have hxf := h.fits x hxT
  have hin : hasS T x.k.f x.u = true := hasS_iff.2 ⟨x, hxT, rfl, rfl⟩
  obtain ⟨rb, mb, most, bv, av, B, us, h1, hS, hSl⟩ := h
  have h0 := h1.below hB0.out
  have hmd := made_ok h0.row
  have hhs := (has_any h0.row h0.keys hxf.1.2.1 hxf.2.2.2).mono (fun e w' h => (⟨h.1, h.2.below⟩ : _ ∧ Below W0.heap.size W0 w'))
  rw [hin] at hhs
  have hst : ∀ (V : World), BoxM V w.heap.size zeroM → (storeCells ⟨w.heap.size, 0, none⟩ x.cells.toList).run Try.prog V = .ok () (V.setRow w.heap.size x.cells) := fun V hz => by
    have := run_storeCells_at Try.prog w.heap.size 0 34 x.cells.toList 0 zeroM.cells V hz (by rw [Array.length_toList]; exact Nat.le_refl _) (fun v hv => encM_one x v hv)
    simpa [M.cells, zeroM] using this
  have hcs : x.cells.size = 7 := rfl
  have htk : Hid (∀ w', Below W0.heap.size W0 w' → w'.cell? ⟨hb, 0, none⟩ = some (.pointer (some ⟨rb, 0, none⟩)) ∧ w'.cell? ⟨w.heap.size + 1, 0, none⟩ = some (.int .i64 x.k.f) ∧ w'.cell? ⟨w.heap.size + 1, 1, none⟩ = some (.int .i64 x.u) ∧
      Hid (Calls Try.prog 36 #[.pointer (some ⟨rb, 0, none⟩), .agg #[.int .i64 x.k.f, .int .i64 x.u]] w' fun e w2 => e = .returned (.agg x.cells) ∧ Hid (Calls Try.prog 34 #[.pointer (some ⟨hb, 0, none⟩), .agg x.cells] w2 fun e w3 => e = .returned (.agg x.cells) ∧
        Hid (BoxM w3 w.heap.size zeroM ∧ (∃ S', CalAt (w3.setRow w.heap.size x.cells) hb S' T' ∧ CStep w (w3.setRow w.heap.size x.cells) S S'))))) := by
    intro w' hb'
    have hbw := hB0.out.trans (hb'.mono hB0.out.size)
    have h2 := h0.below hb'
    refine ⟨h2.row.c0, (hb'.cell (p := ⟨w.heap.size + 1, 0, none⟩) hbl).trans b0, (hb'.cell (p := ⟨w.heap.size + 1, 1, none⟩) hbl).trans b1, (drop_any h2 hxT).mono ?_⟩
    rintro e w2 ⟨he, ht⟩
    obtain ⟨r2, k2, o2, hnext⟩ := h2.gone hp hO ht
    refine ⟨he, (forget_any r2 k2 x hxf hp h2.u).mono ?_⟩
    rintro e w3 ⟨he, hq⟩
    obtain ⟨k3, o3⟩ := hq.out
    obtain ⟨bv', av', B'', us', h3, hk3, ho3⟩ := hnext w3 k3 o3
    have hz3 : BoxM w3 w.heap.size zeroM := (hz.below hb').kept hk3 (fun e => by have := h1.own_lt e; omega)
    have hsz := hb'.size
    exact ⟨he, hz3, CalAt.of_gone_at hS hSl hbw (Nat.le_refl _) (by omega) h3 hk3 ho3 _⟩
  have hhs' := Lib.hid hhs
  rw [show x.val = .agg x.cells from rfl]
  have hst' := Lib.hid hst
  clear h0 h1 hhs hp hO hxT hxf hin hsb hz hbl hS hSl hst
  go_enter Try.func18, Try.ntmps18
  go_upto_region 2 with (fail)
  rw [← hW0]
  clear hW0
  go_upto_region 6 with (first
    | (go_at_call 25; refine hmd.mono ?_; rintro e w' ⟨rfl, rfl⟩)
    | (go_at_call 27; refine hhs'.out.mono ?_; rintro e w2 ⟨rfl, hb2⟩; have hb2' := Lib.hid hb2; clear hb2))
  obtain ⟨d2, d0, d1, htk2⟩ := htk.out w2.drew hb2'.out.drew
  have d2 : w2.cell? ⟨hb, 0, none⟩ = some (.pointer (some ⟨rb, 0, none⟩)) := d2
  have d0 : w2.cell? ⟨w.heap.size + 1, 0, none⟩ = some (.int .i64 x.k.f) := d0
  have d1 : w2.cell? ⟨w.heap.size + 1, 1, none⟩ = some (.int .i64 x.u) := d1
  clear htk b0 b1 hmd hhs'
  go_region_with (first
    | (go_at_call 36; refine htk2.out.mono ?_; rintro e w3 ⟨rfl, hfg⟩)
    | (go_at_call 34; refine hfg.out.mono ?_; rintro e w4 ⟨rfl, hQ3⟩; have hrun := hst'.out w4 hQ3.out.1))
  all_goals
    have hz4 := hQ3.out.1.row x
    have hR := Lib.hid hQ3.out.2
    obtain ⟨-, s0, s1, s2, s3, s4, s5, s6⟩ := hz4.at
    simp only [Nat.zero_add, M.cells] at s0 s1 s2 s3 s4 s5 s6
    clear hrun hfg htk2 hst' hQ3 hz4
    go_wp2
    exact bodyPost_ret (v := .tuple #[.agg x.cells, .int .i64 0]) (by simp [results, Try.results18, go_sem, s0, s1, s2, s3, s4, s5, s6, M.cells]) rfl ⟨rfl, hR.out⟩
end Go.Proofs.Ytcfpfbemmklbaaa
