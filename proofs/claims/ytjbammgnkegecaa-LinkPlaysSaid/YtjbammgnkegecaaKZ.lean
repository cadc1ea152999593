/-
  The law that a way plays as the document's under any script of calls.
-/
import Derived.Test.YtjbammgnkegecaaKY
import Derived.Deep.CutBlock
namespace Go.Proofs.Ytjbammgnkegecaa
open Go.ChangeShapes Go.WideShapes Go.ChangeAt Go.Shelf Go.RowKit Go.Lib Go.Sort Go.Deep
set_option linter.unusedVariables false
set_option linter.unusedSimpArgs false
set_option maxRecDepth 4000

/-- Both ways have just been made. -/
theorem Mix.start {w W0 w1 w2 : World} {hb rb : Nat} {y : Wy} (h0 : Below w.heap.size w W0) (h1 : Made W0 y hb w1) (h2 : MadeD w1 y rb w2) : Mix w w2 hb rb (fun _ => False) y [] [] := by
  obtain ⟨a1, a2, a3⟩ := h1
  obtain ⟨b1, b2, b3⟩ := h2
  have hl := a2.lt a2.own
  have hs := h0.size
  have hs1 := a3.size
  exact ⟨fun k => k = hb, fun k => k = rb, ⟨⟨a2.below b3, (h0.trans (a3.mono hs)).trans (b3.mono (by omega)), fun k e => by omega⟩, b2, fun k e => by omega, fun k e e2 => by omega, fun k e => e.elim⟩⟩

set_option maxHeartbeats 40000000 in
set_option maxRecDepth 100000 in
theorem lawLinkPlays {w : World} (l : Lk) (most : Int) (hmw : (Lit.int .i64 most).wf = true) {a : Option Addr} {len cap : Nat} (h : Ops w a len cap) (hreach : len * 80 ≤ 140737488351232) :
    Calls Try.prog 3 #[l.val, .int .i64 most, .slice a len cap] w fun e w' => e = .returned (.bool true) ∧ Below w.heap.size w w' := by
  have mixed := mixed
  obtain ⟨hcap1, hcap2, hops⟩ := h
  have hmx : len ≤ 9223372036854775807 ∧ cap ≤ 9223372036854775807 := by unfold maxLen at hcap2; omega
  obtain ⟨hmx, hcm⟩ := hmx
  have hops' := Lib.hid hops
  obtain ⟨f, t, k, b⟩ := l
  have hb0 : Hid (Below w.heap.size w (w.alloc (.cells #[.int .i64 f, .int .i64 t, .int .i64 k, .bool b] 23))) := (Below.refl _ w).alloc (Nat.le_refl _) _
  have hbl : Hid ((w.alloc (.cells #[.int .i64 f, .int .i64 t, .int .i64 k, .bool b] 23)).heap[w.heap.size]? = some (.cells #[.int .i64 f, .int .i64 t, .int .i64 k, .bool b] 23 (0, 0))) := heap_alloc_new w _
  have hcl : Hid (∀ w', Below (w.alloc (.cells #[.int .i64 f, .int .i64 t, .int .i64 k, .bool b] 23)).heap.size (w.alloc (.cells #[.int .i64 f, .int .i64 t, .int .i64 k, .bool b] 23)) w' → w'.cell? ⟨w.heap.size, 0, none⟩ = some (.int .i64 f) ∧ w'.cell? ⟨w.heap.size, 1, none⟩ = some (.int .i64 t) ∧ w'.cell? ⟨w.heap.size, 2, none⟩ = some (.int .i64 k) ∧ w'.cell? ⟨w.heap.size, 3, none⟩ = some (.bool b)) := Lib.hid (fun w' h => by
    have hr := (h.block _ (Array.getElem?_eq_some_iff.1 hbl.out).1).trans hbl.out
    exact ⟨cell_of_block hr rfl, cell_of_block hr rfl, cell_of_block hr rfl, cell_of_block hr rfl⟩)
  clear hops hcap1 hcap2 hmw hbl
  unfold Lk.val
  by_cases hok : okW f t most
  · have hn1 := Lib.hid (lkNew_yes (f := f) (t := t) (k := k) (b := b) (most := most) hok (w.alloc (.cells #[.int .i64 f, .int .i64 t, .int .i64 k, .bool b] 23)))
    have hn2 : Hid (∀ w1, _) := Lib.hid (fun w1 => rlNew_yes (f := f) (t := t) (k := k) (b := b) (most := most) hok w1)
    unfold lkV at hn1 hn2
    dsimp only
    go_enter Try.func3, Try.ntmps3
    go_upto_region 1 with (fail)
    generalize w.alloc (.cells #[.int .i64 f, .int .i64 t, .int .i64 k, .bool b] 23) = W0 at *
    obtain ⟨z0, z1, z2, z3⟩ := hcl.out W0 (Below.refl _ _)
    go_upto_region 2 with (go_at_call 9; refine hn1.out.mono ?_; rintro e w1 ⟨hb, rfl, hM1⟩)
    clear z0 z1 z2 z3
    obtain ⟨z0, z1, z2, z3⟩ := hcl.out w1 hM1.out.2.2
    have hn3 := Lib.hid (hn2.out w1)
    go_upto_region 3 with (go_at_call 10; refine hn3.out.mono ?_; rintro e w2 ⟨rb, rfl, hM2⟩)
    have hM0 : Hid (∃ L, L.length ≤ 0 ∧ Mix w w2 hb rb (fun _ => False) ⟨f, t, most, b⟩ L L) := ⟨[], by simp, Mix.start hb0.out hM1.out hM2.out⟩
    clear z0 z1 z2 z3 hn1 hn2 hn3 hcl hb0 hM1 hM2
    generalize (⟨f, t, most, b⟩ : Wy) = y at *
    go_wp2_with fail
    go_loopw [11] (fun s11 wr => ∃ i : Nat, i ≤ len ∧ s11 = .int .i64 i ∧ Hid (∃ L, L.length ≤ i ∧ Mix w wr hb rb (fun _ => False) y L L)) (fun s11 _ => len - (intOf s11).toNat)
    case atStart => exact ⟨0, Nat.zero_le _, rfl, hM0⟩
    case round =>
      obtain ⟨i, hi, rfl, hM⟩ := hrel
      clear hM0
      by_cases hil : i < len
      · have hz : (i : Int) < (len : Int) := by omega
        obtain ⟨bb, off, rfl, hbw, hop⟩ : ∃ b off, a = some ⟨b, off, none⟩ ∧ b < w.heap.size ∧ ∀ i, i < len → ∃ (what n : Int) (p : Pc), p.fits ∧ OpC w b (off + i * 10) what n p := by
          rcases hops'.out with h0 | hx
          · omega
          · exact hx
        obtain ⟨what, n, p, hf, hc⟩ := hop i hil
        obtain ⟨L, hL, hT⟩ := hM.out
        have hB := hT.b
        obtain ⟨k0, k1, k2, k3, k4, k5, k6, k7, k8, k9⟩ := hc
        have hcell : ∀ {o : Nat} {v : Value}, w.cell? ⟨bb, o, none⟩ = some v → wr.cell? ⟨bb, o, none⟩ = some v := fun h => (hB.cell (p := ⟨bb, _, none⟩) hbw).trans h
        have x0 : wr.cell? ⟨bb, off + i * 10, none⟩ = some (.int .i64 what) := hcell k0
        have x1 : wr.cell? ⟨bb, off + i * 10 + 1, none⟩ = some (.int .i64 n) := hcell k1
        have x2 : wr.cell? ⟨bb, off + i * 10 + 2, none⟩ = some (.int .i64 p.m.k.t) := hcell k2
        have x3 : wr.cell? ⟨bb, off + i * 10 + 3, none⟩ = some (.int .i64 p.m.k.f) := hcell k3
        have x4 : wr.cell? ⟨bb, off + i * 10 + 4, none⟩ = some (.int .i64 p.m.k.s) := hcell k4
        have x5 : wr.cell? ⟨bb, off + i * 10 + 5, none⟩ = some (.int .i64 p.m.to) := hcell k5
        have x6 : wr.cell? ⟨bb, off + i * 10 + 6, none⟩ = some (.int .i64 p.m.v) := hcell k6
        have x7 : wr.cell? ⟨bb, off + i * 10 + 7, none⟩ = some (.int .i64 p.m.u) := hcell k7
        have x8 : wr.cell? ⟨bb, off + i * 10 + 8, none⟩ = some (.bool p.m.anti) := hcell k8
        have x9 : wr.cell? ⟨bb, off + i * 10 + 9, none⟩ = some (.int .i64 p.c) := hcell k9
        have hbo : Hid (BoxO (wr.alloc (.cells (opCs what n p).toArray 39)) wr.heap.size what n p) := heap_alloc_new wr _
        have hMo := Lib.hid (hT.others (X' := fun k => k = wr.heap.size) ((Below.refl _ wr).alloc (Nat.le_refl _) (.cells (opCs what n p).toArray 39)) (fun k e => .inr ⟨by omega, by simp; omega⟩))
        clear k0 k1 k2 k3 k4 k5 k6 k7 k8 k9 hcell hop hM hT hB hf
        have hil' := Lib.hid hil
        have hbd1 : Hid ((L.length + 1) * 64 ≤ 140737488351232) := by show _ ≤ _; omega
        clear hil
        have hw1 : IntKind.i64.wrap ((i : Int) + 1) = (i : Int) + 1 := IntWalk.i64_in _ (by omega)
        go_upto_region 9 with fail
        rw [show wr.alloc (.cells #[.int .i64 what, .int .i64 n, .int .i64 p.m.k.t, .int .i64 p.m.k.f, .int .i64 p.m.k.s, .int .i64 p.m.to, .int .i64 p.m.v, .int .i64 p.m.u, .bool p.m.anti, .int .i64 p.c] 39) = wr.alloc (.cells (opCs what n p).toArray 39) from rfl]
        generalize wr.heap.size = Bo at *
        generalize wr.alloc (.cells (opCs what n p).toArray 39) = W1 at *
        have c0 := hbo.out.c0
        have c1 := hbo.out.c1
        clear x0 x1 x2 x3 x4 x5 x6 x7 x8 x9
        go_upto_block 2 with fail
        go_cut [12, 13, 14, 15, 16, 17, 18, 19, 20] from 43 to 151 (fun s12 s13 s14 s15 s16 s17 s18 s19 s20 wx => Hid (∃ L', L'.length ≤ i + 1 ∧ Mix w wx hb rb (fun _ => False) y L' L'))
        case first =>
          by_cases hwh0 : what = 0
          · subst hwh0
            have hput := Lib.hid (hMo.out.below ((Below.refl _ W1).drew))
            have hbo0 : BoxO W1.drew Bo 0 n p := hbo.out
            have hpP : Hid (Calls Try.prog 11 #[.pointer (some ⟨hb, 0, none⟩), .agg (encP p).toArray] W1.drew fun e w' => e = .returned (.int .i64 (putC y L.length p)) ∧ Hid (Mix w w' hb rb (fun k => k = Bo) y (putL y L p) L ∧ Stay (fun k => k = Bo) W1.drew w')) := Lib.hid (hput.out.putP p (by have := hbd1.out; omega))
            have hpD : Hid (∀ w5, Mix w w5 hb rb (fun k => k = Bo) y (putL y L p) L → Calls Try.prog 12 #[.pointer (some ⟨rb, 0, none⟩), .agg (encP p).toArray] w5 fun e w' => e = .returned (.int .i64 (putC y L.length p)) ∧ Hid (Mix w w' hb rb (fun k => k = Bo) y (putL y L p) (putL y L p) ∧ Stay (fun k => k = Bo) w5 w')) := Lib.hid (fun w5 h => h.putD p (by have := hbd1.out; omega))
            have hlp := Lib.hid (putL_len y L p)
            generalize putC y L.length p = pc at *
            generalize putL y L p = L2 at *
            clear hput hMo c0 c1 hbo
            go_upto_region 15 with fail
            refine wp_region_held_drew (S := fun w' => BoxO w' Bo 0 n p) (by kernel_rfl) hbo0 (fun hHeld => ?_)
            clear hHeld
            refine wpAnyH_take (i := 0) (oi := { dst := some 83, op := Op.move (Operand.tmp 7), type := 25, pos := "law.go:48", after := #[], guard := none }) (v := ?vv0_1) rfl (by kernel_rfl) (by kernel_rfl) (by kernel_rfl) (fun _ _ _ h => h) (Or.inl ⟨by rfl, ?hy0_1⟩) hbo0 ?rest0_1
            case hy0_1 =>
              intro w hSw
              go_simp
              try with_reducible rfl
            try simp only [Act.put, List.setIfInBounds_toArray, List.set_cons_zero, List.set_cons_succ]
            refine wpAnyH_take (i := 1) (oi := { dst := some 84, op := Op.fieldAddr 39 (Operand.tmp 12) 2, type := 0, pos := "law.go:48", after := #[], guard := none }) (v := ?vv1_2) rfl (by kernel_rfl) (by kernel_rfl) (by kernel_rfl) (fun _ _ _ h => h) (Or.inl ⟨by rfl, ?hy1_2⟩) hbo0 ?rest1_2
            case hy1_2 =>
              intro w hSw
              go_simp
              try with_reducible rfl
            try simp only [Act.put, List.setIfInBounds_toArray, List.set_cons_zero, List.set_cons_succ]
            refine wpAnyH_take (i := 2) (oi := { dst := some 85, op := Op.load 37 (Operand.tmp 84), type := 37, pos := "law.go:48", after := #[{ on := 1, ground := Ground.data }], guard := none }) (v := .agg (encP p).toArray) rfl (by kernel_rfl) (by kernel_rfl) (by kernel_rfl) (fun _ _ _ h => h) (yieldsIf_load_mid (by rfl) 37 (.tmp 84) (by rfl) Bo 2 (by rfl) (encP p) _ (fun w' h => BoxO.range h) Try.underlying37 rfl infoPs) hbo0 ?_
            try simp only [Act.put, List.setIfInBounds_toArray, List.set_cons_zero, List.set_cons_succ]
            refine wpAnyH_take (i := 4) (oi := { dst := some 87, op := Op.move (Operand.tmp 9), type := 29, pos := "law.go:48", after := #[], guard := none }) (v := ?vv4_3) rfl (by kernel_rfl) (by kernel_rfl) (by kernel_rfl) (fun _ _ _ h => h) (Or.inl ⟨by rfl, ?hy4_3⟩) hbo0 ?rest4_3
            case hy4_3 =>
              intro w hSw
              go_simp
              try with_reducible rfl
            try simp only [Act.put, List.setIfInBounds_toArray, List.set_cons_zero, List.set_cons_succ]
            refine wpAnyH_take (i := 5) (oi := { dst := some 88, op := Op.fieldAddr 39 (Operand.tmp 12) 2, type := 0, pos := "law.go:48", after := #[], guard := none }) (v := ?vv5_4) rfl (by kernel_rfl) (by kernel_rfl) (by kernel_rfl) (fun _ _ _ h => h) (Or.inl ⟨by rfl, ?hy5_4⟩) hbo0 ?rest5_4
            case hy5_4 =>
              intro w hSw
              go_simp
              try with_reducible rfl
            try simp only [Act.put, List.setIfInBounds_toArray, List.set_cons_zero, List.set_cons_succ]
            refine wpAnyH_take (i := 6) (oi := { dst := some 89, op := Op.load 37 (Operand.tmp 88), type := 37, pos := "law.go:48", after := #[{ on := 5, ground := Ground.data }], guard := none }) (v := .agg (encP p).toArray) rfl (by kernel_rfl) (by kernel_rfl) (by kernel_rfl) (fun _ _ _ h => h) (yieldsIf_load_mid (by rfl) 37 (.tmp 88) (by rfl) Bo 2 (by rfl) (encP p) _ (fun w' h => BoxO.range h) Try.underlying37 rfl infoPs) hbo0 ?_
            try simp only [Act.put, List.setIfInBounds_toArray, List.set_cons_zero, List.set_cons_succ]
            refine wpAnyH_ready (rs := [3]) (by kernel_rfl) (by simp) ?_
            refine AllReadyH.cons (o := { dst := some 86, op := Op.call { callee := Callee.value (Operand.func 11), args := #[Operand.tmp 83, Operand.tmp 85], argTypes := #[25, 37] }, type := 26, pos := "law.go:48", after := #[{ on := 0, ground := Ground.data }, { on := 2, ground := Ground.data }], guard := none }) rfl (fun K hK => ?_) AllReadyH.nil
            go_simp
            refine hpP.out.mono ?_
            rintro x w5 ⟨rfl, hq5⟩
            have hbo5 : BoxO w5 Bo 0 n p := (hq5.out.2 Bo rfl).trans hbo0
            have hpD5 := Lib.hid (hpD.out w5 hq5.out.1)
            refine hK.out _ _ hbo5 (fun hHeld => ?_)
            clear hHeld hK K
            try simp only [Act.put, List.setIfInBounds_toArray, List.set_cons_zero, List.set_cons_succ]
            refine wpAnyH_ready (rs := [7]) (by kernel_rfl) (by simp) ?_
            refine AllReadyH.cons (o := { dst := some 90, op := Op.call { callee := Callee.value (Operand.func 12), args := #[Operand.tmp 87, Operand.tmp 89], argTypes := #[29, 37] }, type := 3, pos := "law.go:48", after := #[{ on := 4, ground := Ground.data }, { on := 6, ground := Ground.data }, { on := 3, ground := Ground.chain }], guard := none }) rfl (fun K hK => ?_) AllReadyH.nil
            go_simp
            refine hpD5.out.mono ?_
            rintro x w6 ⟨rfl, hq6⟩
            have hbo6 : BoxO w6 Bo 0 n p := (hq6.out.2 Bo rfl).trans hbo5
            refine hK.out _ _ hbo6 (fun hHeld => ?_)
            clear hHeld hK K
            try simp only [Act.put, List.setIfInBounds_toArray, List.set_cons_zero, List.set_cons_succ]
            refine wpAnyH_take (i := 8) (oi := { dst := some 91, op := Op.binOp BinOp.neq 3 (Operand.tmp 86) (Operand.tmp 90) 3, type := 4, pos := "law.go:48", after := #[{ on := 3, ground := Ground.data }, { on := 7, ground := Ground.data }], guard := none }) (v := ?vv8_5) rfl (by kernel_rfl) (by kernel_rfl) (by kernel_rfl) (fun _ _ _ h => h) (Or.inl ⟨by rfl, ?hy8_5⟩) hbo6 ?rest8_5
            case hy8_5 =>
              intro w hSw
              go_simp
              try with_reducible rfl
            try simp only [Act.put, List.setIfInBounds_toArray, List.set_cons_zero, List.set_cons_succ]
            refine wpAnyH_done (by kernel_rfl) ?_ _
            have hrel2 : Hid (∃ L', L'.length ≤ i + 1 ∧ Mix w w6 hb rb (fun _ => False) y L' L') := ⟨L2, by have := hlp.out; omega, hq6.out.1.others (Below.refl _ _) (fun k e => e.elim)⟩
            clear hbo0 hbo5 hbo6 hq5 hq6 hpP hpD hpD5 hbd1
            go_wp2_with fail
            go_meet
            case rel => exact hrel2
          · by_cases hwh1 : what = 1
            · subst hwh1
              have hpP := Lib.hid (hMo.out.peekP n (by have := hbd1.out; omega))
              have hpD : Hid (∀ w5, Mix w w5 hb rb (fun k => k = Bo) y (L) L → ∀ w6, Below w5.heap.size w5 w6 → BoxO w5 Bo 1 n p → BoxP w6 w5.heap.size (peekP y L n) → w5.heap.size < w6.heap.size → w6.cell? ⟨Bo, 1, none⟩ = some (.int .i64 n) ∧ Calls Try.prog 14 #[.pointer (some ⟨rb, 0, none⟩), .int .i64 n] w6 fun e w' => e = .returned (.tuple #[(peekP y L n).val, .int .i64 (peekC L)]) ∧ Hid (Mix w w' hb rb (fun _ => False) y (L) (L) ∧ BoxP w' w5.heap.size (peekP y L n))) := Lib.hid (fun w5 h w6 hb6 hbo5 hbx6 hlt6 => by
                have h6 := h.others (X' := fun k => k = Bo ∨ k = w5.heap.size) hb6 (fun k e => e.imp id (fun e => ⟨by omega, by omega⟩))
                have hbl := (Array.getElem?_eq_some_iff.1 hbo5).1
                refine ⟨BoxO.c1 ((hb6.block Bo hbl).trans hbo5), (h6.peekD n (by have := hbd1.out; omega)).mono ?_⟩
                rintro e w' ⟨he, hq⟩
                exact ⟨he, hq.out.1.others (Below.refl _ _) (fun k e => e.elim), (hq.out.2 w5.heap.size (.inr rfl)).trans hbx6⟩)
              have hxv : Hid ((peekP y L n).val = .agg #[.int .i64 (peekP y L n).m.k.t, .int .i64 (peekP y L n).m.k.f, .int .i64 (peekP y L n).m.k.s, .int .i64 (peekP y L n).m.to, .int .i64 (peekP y L n).m.v, .int .i64 (peekP y L n).m.u, .bool (peekP y L n).m.anti, .int .i64 (peekP y L n).c]) := rfl
              have hxc : Hid ((peekP y L n).cells = #[.int .i64 (peekP y L n).m.k.t, .int .i64 (peekP y L n).m.k.f, .int .i64 (peekP y L n).m.k.s, .int .i64 (peekP y L n).m.to, .int .i64 (peekP y L n).m.v, .int .i64 (peekP y L n).m.u, .bool (peekP y L n).m.anti, .int .i64 (peekP y L n).c]) := rfl
              rw [hxv.out] at hpP hpD
              have hlp : Hid ((L).length ≤ i + 1) := by show _ ≤ _; have := Nat.le_refl L.length; omega
              have heq := fun w => neqP (peekP y L n) (peekP y L n) w
              rw [hxv.out] at heq
              simp only [decide_true, Bool.not_true] at heq
              generalize peekP y L n = x at *
              generalize peekC L = cc at *
              clear c0
              go_upto_region 19 with (go_at_call 13; refine hpP.out.mono ?_; rintro e w5 ⟨rfl, hq5⟩)
              have hbo5 : Hid (BoxO w5 Bo 1 n p) := (hq5.out.2 Bo rfl).trans hbo.out
              have hD5 := hpD.out w5 hq5.out.1 (w5.alloc (.cells x.cells 37)) ((Below.refl _ w5).alloc (Nat.le_refl _) _) hbo5.out (BoxP.mk w5 x) (by simp)
              rw [hxc.out] at hD5
              clear c1 hpP hpD hq5 hMo hbo hbo5
              generalize w5.heap.size = Ba at *
              generalize w5.alloc (.cells #[.int .i64 x.m.k.t, .int .i64 x.m.k.f, .int .i64 x.m.k.s, .int .i64 x.m.to, .int .i64 x.m.v, .int .i64 x.m.u, .bool x.m.anti, .int .i64 x.c] 37) = W5 at *
              obtain ⟨c1, hD6⟩ := hD5
              have hD6' := Lib.hid hD6
              clear hD6
              go_upto_region 20 with (go_at_call 14; refine hD6'.out.mono ?_; rintro e w6 ⟨rfl, hq6⟩)
              have hby : Hid (BoxP (w6.alloc (.cells x.cells 37)) w6.heap.size x) := BoxP.mk w6 x
              have hbx : Hid (BoxP (w6.alloc (.cells x.cells 37)) Ba x) := hq6.out.2.below ((Below.refl _ w6).alloc (Nat.le_refl _) _)
              have hrel2 : Hid (∃ L', L'.length ≤ i + 1 ∧ Mix w (w6.alloc (.cells x.cells 37)) hb rb (fun _ => False) y L' L') := ⟨L, hlp.out, hq6.out.1.below ((Below.refl _ w6).alloc (Nat.le_refl _) _)⟩
              rw [hxc.out] at hby hbx hrel2
              clear c1 hD6' hq6 hlp
              generalize w6.heap.size = Bb at *
              generalize w6.alloc (.cells #[.int .i64 x.m.k.t, .int .i64 x.m.k.f, .int .i64 x.m.k.s, .int .i64 x.m.to, .int .i64 x.m.v, .int .i64 x.m.u, .bool x.m.anti, .int .i64 x.c] 37) = W6 at *
              obtain ⟨x0, x1, x2, x3, x4, x5, x6, x7⟩ := hbx.out.at
              obtain ⟨y0, y1, y2, y3, y4, y5, y6, y7⟩ := hby.out.at
              simp only [Nat.zero_add] at x0 x1 x2 x3 x4 x5 x6 x7 y0 y1 y2 y3 y4 y5 y6 y7
              clear hbx hby hxv hxc hbd1
              go_wp2_with fail
              go_meet
              case rel => exact hrel2
            · skip
              have hpP := Lib.hid (hMo.out.takeP n (by have := hbd1.out; omega))
              have hpD : Hid (∀ w5, Mix w w5 hb rb (fun k => k = Bo) y (takeL y L n) L → ∀ w6, Below w5.heap.size w5 w6 → BoxO w5 Bo what n p → BoxP w6 w5.heap.size (peekP y L n) → w5.heap.size < w6.heap.size → w6.cell? ⟨Bo, 1, none⟩ = some (.int .i64 n) ∧ Calls Try.prog 16 #[.pointer (some ⟨rb, 0, none⟩), .int .i64 n] w6 fun e w' => e = .returned (.tuple #[(peekP y L n).val, .int .i64 (peekC L)]) ∧ Hid (Mix w w' hb rb (fun _ => False) y (takeL y L n) (takeL y L n) ∧ BoxP w' w5.heap.size (peekP y L n))) := Lib.hid (fun w5 h w6 hb6 hbo5 hbx6 hlt6 => by
                have h6 := h.others (X' := fun k => k = Bo ∨ k = w5.heap.size) hb6 (fun k e => e.imp id (fun e => ⟨by omega, by omega⟩))
                have hbl := (Array.getElem?_eq_some_iff.1 hbo5).1
                refine ⟨BoxO.c1 ((hb6.block Bo hbl).trans hbo5), (h6.takeD n (by have := hbd1.out; omega)).mono ?_⟩
                rintro e w' ⟨he, hq⟩
                exact ⟨he, hq.out.1.others (Below.refl _ _) (fun k e => e.elim), (hq.out.2 w5.heap.size (.inr rfl)).trans hbx6⟩)
              have hxv : Hid ((peekP y L n).val = .agg #[.int .i64 (peekP y L n).m.k.t, .int .i64 (peekP y L n).m.k.f, .int .i64 (peekP y L n).m.k.s, .int .i64 (peekP y L n).m.to, .int .i64 (peekP y L n).m.v, .int .i64 (peekP y L n).m.u, .bool (peekP y L n).m.anti, .int .i64 (peekP y L n).c]) := rfl
              have hxc : Hid ((peekP y L n).cells = #[.int .i64 (peekP y L n).m.k.t, .int .i64 (peekP y L n).m.k.f, .int .i64 (peekP y L n).m.k.s, .int .i64 (peekP y L n).m.to, .int .i64 (peekP y L n).m.v, .int .i64 (peekP y L n).m.u, .bool (peekP y L n).m.anti, .int .i64 (peekP y L n).c]) := rfl
              rw [hxv.out] at hpP hpD
              have hlp : Hid ((takeL y L n).length ≤ i + 1) := by show _ ≤ _; have := takeL_len y L n; omega
              have heq := fun w => neqP (peekP y L n) (peekP y L n) w
              rw [hxv.out] at heq
              simp only [decide_true, Bool.not_true] at heq
              generalize takeL y L n = L2 at *
              generalize peekP y L n = x at *
              generalize peekC L = cc at *
              clear c0
              go_upto_region 11 with (go_at_call 15; refine hpP.out.mono ?_; rintro e w5 ⟨rfl, hq5⟩)
              have hbo5 : Hid (BoxO w5 Bo what n p) := (hq5.out.2 Bo rfl).trans hbo.out
              have hD5 := hpD.out w5 hq5.out.1 (w5.alloc (.cells x.cells 37)) ((Below.refl _ w5).alloc (Nat.le_refl _) _) hbo5.out (BoxP.mk w5 x) (by simp)
              rw [hxc.out] at hD5
              clear c1 hpP hpD hq5 hMo hbo hbo5
              generalize w5.heap.size = Ba at *
              generalize w5.alloc (.cells #[.int .i64 x.m.k.t, .int .i64 x.m.k.f, .int .i64 x.m.k.s, .int .i64 x.m.to, .int .i64 x.m.v, .int .i64 x.m.u, .bool x.m.anti, .int .i64 x.c] 37) = W5 at *
              obtain ⟨c1, hD6⟩ := hD5
              have hD6' := Lib.hid hD6
              clear hD6
              go_upto_region 12 with (go_at_call 16; refine hD6'.out.mono ?_; rintro e w6 ⟨rfl, hq6⟩)
              have hby : Hid (BoxP (w6.alloc (.cells x.cells 37)) w6.heap.size x) := BoxP.mk w6 x
              have hbx : Hid (BoxP (w6.alloc (.cells x.cells 37)) Ba x) := hq6.out.2.below ((Below.refl _ w6).alloc (Nat.le_refl _) _)
              have hrel2 : Hid (∃ L', L'.length ≤ i + 1 ∧ Mix w (w6.alloc (.cells x.cells 37)) hb rb (fun _ => False) y L' L') := ⟨L2, hlp.out, hq6.out.1.below ((Below.refl _ w6).alloc (Nat.le_refl _) _)⟩
              rw [hxc.out] at hby hbx hrel2
              clear c1 hD6' hq6 hlp
              generalize w6.heap.size = Bb at *
              generalize w6.alloc (.cells #[.int .i64 x.m.k.t, .int .i64 x.m.k.f, .int .i64 x.m.k.s, .int .i64 x.m.to, .int .i64 x.m.v, .int .i64 x.m.u, .bool x.m.anti, .int .i64 x.c] 37) = W6 at *
              obtain ⟨x0, x1, x2, x3, x4, x5, x6, x7⟩ := hbx.out.at
              obtain ⟨y0, y1, y2, y3, y4, y5, y6, y7⟩ := hby.out.at
              simp only [Nat.zero_add] at x0 x1 x2 x3 x4 x5 x6 x7 y0 y1 y2 y3 y4 y5 y6 y7
              clear hbx hby hxv hxc hbd1
              go_wp2_with fail
              go_meet
              case rel => exact hrel2
        case rest =>
          clear hMo hbo c0 c1 hbd1
          obtain ⟨L', hL', hM2⟩ := hcut.out
          have hM' := Lib.hid hM2
          have hbd2 : Hid (L'.length * 64 ≤ 140737488351232) := by show _ ≤ _; have := hil'.out; omega
          obtain ⟨va, vc, hlk⟩ := hM2.looks hbd2.out
          have hlook := Lib.hid hlk
          clear hM2 hlk hcut
          generalize roomN y L'.length = rn at *
          generalize leastT L' = ls at *
          go_upto_region 22 with fail
          by_cases h1 : i < 100
          · have hz1 : (i : Int) < 100 := by omega
            refine wp_region_held_drew (S := fun w' => Below wc.heap.size wc w') (by kernel_rfl) ((Below.refl _ wc).drew) (fun hHeld => ?_)
            clear hHeld
            have hHd : Below wc.heap.size wc wc.drew := (Below.refl _ wc).drew
            refine wpAnyH_take (i := 0) (oi := { dst := some 116, op := Op.move (Operand.tmp 7), type := 25, pos := "law.go:64", after := #[], guard := none }) (v := ?vv0_6) rfl (by kernel_rfl) (by kernel_rfl) (by kernel_rfl) (fun _ _ _ h => h) (Or.inl ⟨by rfl, ?hy0_6⟩) hHd ?rest0_6
            case hy0_6 =>
              intro w hSw
              go_simp
              try with_reducible rfl
            try simp only [Act.put, List.setIfInBounds_toArray, List.set_cons_zero, List.set_cons_succ]
            refine wpAnyH_take (i := 2) (oi := { dst := some 118, op := Op.move (Operand.tmp 9), type := 29, pos := "law.go:64", after := #[], guard := none }) (v := ?vv2_7) rfl (by kernel_rfl) (by kernel_rfl) (by kernel_rfl) (fun _ _ _ h => h) (Or.inl ⟨by rfl, ?hy2_7⟩) hHd ?rest2_7
            case hy2_7 =>
              intro w hSw
              go_simp
              try with_reducible rfl
            try simp only [Act.put, List.setIfInBounds_toArray, List.set_cons_zero, List.set_cons_succ]
            refine wpAnyH_ready (rs := [1]) (by kernel_rfl) (by simp) ?_
            refine AllReadyH.cons (o := { dst := some 117, op := Op.call { callee := Callee.value (Operand.func 17), args := #[Operand.tmp 116], argTypes := #[25] }, type := 3, pos := "law.go:64", after := #[{ on := 0, ground := Ground.data }], guard := none }) rfl (fun K hK => ?_) AllReadyH.nil
            go_simp
            refine (hlook.out _ hHd).2.2.1.mono ?_
            rintro x w1 ⟨rfl, hb1⟩
            have hH1 := hHd.trans (hb1.mono hHd.size)
            refine hK.out _ _ hH1 (fun hHeld => ?_)
            clear hHeld hK K
            try simp only [Act.put, List.setIfInBounds_toArray, List.set_cons_zero, List.set_cons_succ]
            refine wpAnyH_ready (rs := [3]) (by kernel_rfl) (by simp) ?_
            refine AllReadyH.cons (o := { dst := some 119, op := Op.call { callee := Callee.value (Operand.func 18), args := #[Operand.tmp 118], argTypes := #[29] }, type := 3, pos := "law.go:64", after := #[{ on := 2, ground := Ground.data }, { on := 1, ground := Ground.chain }], guard := none }) rfl (fun K hK => ?_) AllReadyH.nil
            go_simp
            refine (hlook.out _ hH1).2.2.2.1.mono ?_
            rintro x w2 ⟨rfl, hb2⟩
            have hH2 := hH1.trans (hb2.mono hH1.size)
            refine hK.out _ _ hH2 (fun hHeld => ?_)
            clear hHeld hK K
            try simp only [Act.put, List.setIfInBounds_toArray, List.set_cons_zero, List.set_cons_succ]
            refine wpAnyH_take (i := 4) (oi := { dst := some 120, op := Op.binOp BinOp.neq 3 (Operand.tmp 117) (Operand.tmp 119) 3, type := 4, pos := "law.go:64", after := #[{ on := 1, ground := Ground.data }, { on := 3, ground := Ground.data }], guard := none }) (v := ?vv4_8) rfl (by kernel_rfl) (by kernel_rfl) (by kernel_rfl) (fun _ _ _ h => h) (Or.inl ⟨by rfl, ?hy4_8⟩) hH2 ?rest4_8
            case hy4_8 =>
              intro w hSw
              go_simp
              try with_reducible rfl
            try simp only [Act.put, List.setIfInBounds_toArray, List.set_cons_zero, List.set_cons_succ]
            refine wpAnyH_take (i := 5) (oi := { dst := some 121, op := Op.move (Operand.tmp 120), type := 4, pos := "law.go:64", after := #[{ on := 4, ground := Ground.data }, { on := 3, ground := Ground.chain }], guard := none }) (v := ?vv5_9) rfl (by kernel_rfl) (by kernel_rfl) (by kernel_rfl) (fun _ _ _ h => h) (Or.inl ⟨by rfl, ?hy5_9⟩) hH2 ?rest5_9
            case hy5_9 =>
              intro w hSw
              go_simp
              try with_reducible rfl
            try simp only [Act.put, List.setIfInBounds_toArray, List.set_cons_zero, List.set_cons_succ]
            refine wpAnyH_take (i := 6) (oi := { dst := some 122, op := Op.move (Operand.tmp 7), type := 25, pos := "law.go:64", after := #[{ on := 5, ground := Ground.guard }], guard := some (5, false) }) (v := ?vv6_10) rfl (by kernel_rfl) (by kernel_rfl) (by kernel_rfl) (fun _ _ _ h => h) (Or.inl ⟨by rfl, ?hy6_10⟩) hH2 ?rest6_10
            case hy6_10 =>
              intro w hSw
              go_simp
              try with_reducible rfl
            try simp only [Act.put, List.setIfInBounds_toArray, List.set_cons_zero, List.set_cons_succ]
            refine wpAnyH_take (i := 8) (oi := { dst := some 124, op := Op.move (Operand.tmp 9), type := 29, pos := "law.go:64", after := #[{ on := 5, ground := Ground.guard }], guard := some (5, false) }) (v := ?vv8_11) rfl (by kernel_rfl) (by kernel_rfl) (by kernel_rfl) (fun _ _ _ h => h) (Or.inl ⟨by rfl, ?hy8_11⟩) hH2 ?rest8_11
            case hy8_11 =>
              intro w hSw
              go_simp
              try with_reducible rfl
            try simp only [Act.put, List.setIfInBounds_toArray, List.set_cons_zero, List.set_cons_succ]
            refine wpAnyH_ready (rs := [7]) (by kernel_rfl) (by simp) ?_
            refine AllReadyH.cons (o := { dst := some 123, op := Op.call { callee := Callee.value (Operand.func 19), args := #[Operand.tmp 122], argTypes := #[25] }, type := 2, pos := "law.go:64", after := #[{ on := 6, ground := Ground.data }, { on := 5, ground := Ground.chain }, { on := 5, ground := Ground.guard }], guard := some (5, false) }) rfl (fun K hK => ?_) AllReadyH.nil
            go_simp
            refine (hlook.out _ hH2).2.2.2.2.1.mono ?_
            rintro x w3 ⟨rfl, hb3⟩
            have hH3 := hH2.trans (hb3.mono hH2.size)
            refine hK.out _ _ hH3 (fun hHeld => ?_)
            clear hHeld hK K
            try simp only [Act.put, List.setIfInBounds_toArray, List.set_cons_zero, List.set_cons_succ]
            refine wpAnyH_ready (rs := [9]) (by kernel_rfl) (by simp) ?_
            refine AllReadyH.cons (o := { dst := some 125, op := Op.call { callee := Callee.value (Operand.func 20), args := #[Operand.tmp 124], argTypes := #[29] }, type := 2, pos := "law.go:64", after := #[{ on := 8, ground := Ground.data }, { on := 7, ground := Ground.chain }, { on := 5, ground := Ground.guard }], guard := some (5, false) }) rfl (fun K hK => ?_) AllReadyH.nil
            go_simp
            refine (hlook.out _ hH3).2.2.2.2.2.1.mono ?_
            rintro x w4 ⟨rfl, rfl⟩
            refine hK.out _ _ hH3 (fun hHeld => ?_)
            clear hHeld hK K
            try simp only [Act.put, List.setIfInBounds_toArray, List.set_cons_zero, List.set_cons_succ]
            refine wpAnyH_take (i := 10) (oi := { dst := some 126, op := Op.binOp BinOp.neq 2 (Operand.tmp 123) (Operand.tmp 125) 2, type := 4, pos := "law.go:64", after := #[{ on := 7, ground := Ground.data }, { on := 9, ground := Ground.data }, { on := 5, ground := Ground.guard }], guard := some (5, false) }) (v := ?vv10_12) rfl (by kernel_rfl) (by kernel_rfl) (by kernel_rfl) (fun _ _ _ h => h) (Or.inl ⟨by rfl, ?hy10_12⟩) hH3 ?rest10_12
            case hy10_12 =>
              intro w hSw
              go_simp
              try with_reducible rfl
            try simp only [Act.put, List.setIfInBounds_toArray, List.set_cons_zero, List.set_cons_succ]
            refine wpAnyH_take (i := 11) (oi := { dst := some 127, op := Op.pick (Operand.tmp 121) (Operand.const (Value.bool true)) (Operand.tmp 126), type := 4, pos := "law.go:64", after := #[{ on := 5, ground := Ground.data }, { on := 10, ground := Ground.data }], guard := none }) (v := ?vv11_13) rfl (by kernel_rfl) (by kernel_rfl) (by kernel_rfl) (fun _ _ _ h => h) (Or.inl ⟨by rfl, ?hy11_13⟩) hH3 ?rest11_13
            case hy11_13 =>
              intro w hSw
              go_simp
              try with_reducible rfl
            try simp only [Act.put, List.setIfInBounds_toArray, List.set_cons_zero, List.set_cons_succ]
            refine wpAnyH_take (i := 12) (oi := { dst := some 128, op := Op.move (Operand.tmp 127), type := 4, pos := "law.go:64", after := #[{ on := 11, ground := Ground.data }, { on := 9, ground := Ground.chain }], guard := none }) (v := ?vv12_14) rfl (by kernel_rfl) (by kernel_rfl) (by kernel_rfl) (fun _ _ _ h => h) (Or.inl ⟨by rfl, ?hy12_14⟩) hH3 ?rest12_14
            case hy12_14 =>
              intro w hSw
              go_simp
              try with_reducible rfl
            try simp only [Act.put, List.setIfInBounds_toArray, List.set_cons_zero, List.set_cons_succ]
            refine wpAnyH_take (i := 13) (oi := { dst := some 129, op := Op.move (Operand.tmp 7), type := 25, pos := "law.go:64", after := #[{ on := 12, ground := Ground.guard }], guard := some (12, false) }) (v := ?vv13_15) rfl (by kernel_rfl) (by kernel_rfl) (by kernel_rfl) (fun _ _ _ h => h) (Or.inl ⟨by rfl, ?hy13_15⟩) hH3 ?rest13_15
            case hy13_15 =>
              intro w hSw
              go_simp
              try with_reducible rfl
            try simp only [Act.put, List.setIfInBounds_toArray, List.set_cons_zero, List.set_cons_succ]
            refine wpAnyH_take (i := 15) (oi := { dst := some 131, op := Op.move (Operand.tmp 9), type := 29, pos := "law.go:64", after := #[{ on := 12, ground := Ground.guard }], guard := some (12, false) }) (v := ?vv15_16) rfl (by kernel_rfl) (by kernel_rfl) (by kernel_rfl) (fun _ _ _ h => h) (Or.inl ⟨by rfl, ?hy15_16⟩) hH3 ?rest15_16
            case hy15_16 =>
              intro w hSw
              go_simp
              try with_reducible rfl
            try simp only [Act.put, List.setIfInBounds_toArray, List.set_cons_zero, List.set_cons_succ]
            refine wpAnyH_take (i := 16) (oi := { dst := some 132, op := Op.nilCheck (Operand.tmp 131), type := 0, pos := "law.go:64", after := #[{ on := 15, ground := Ground.data }, { on := 12, ground := Ground.guard }], guard := some (12, false) }) (v := ?vv16_17) rfl (by kernel_rfl) (by kernel_rfl) (by kernel_rfl) (fun _ _ _ h => h) (Or.inl ⟨by rfl, ?hy16_17⟩) hH3 ?rest16_17
            case hy16_17 =>
              intro w hSw
              go_simp
              try with_reducible rfl
            try simp only [Act.put, List.setIfInBounds_toArray, List.set_cons_zero, List.set_cons_succ]
            refine wpAnyH_take (i := 17) (oi := { dst := some 133, op := Op.fieldAddr 50 (Operand.tmp 132) 2, type := 0, pos := "law.go:64", after := #[{ on := 16, ground := Ground.data }, { on := 12, ground := Ground.guard }], guard := some (12, false) }) (v := ?vv17_18) rfl (by kernel_rfl) (by kernel_rfl) (by kernel_rfl) (fun _ _ _ h => h) (Or.inl ⟨by rfl, ?hy17_18⟩) hH3 ?rest17_18
            case hy17_18 =>
              intro w hSw
              go_simp
              try with_reducible rfl
            try simp only [Act.put, List.setIfInBounds_toArray, List.set_cons_zero, List.set_cons_succ]
            refine wpAnyH_take (i := 18) (oi := { dst := some 134, op := Op.load 48 (Operand.tmp 133), type := 48, pos := "law.go:64", after := #[{ on := 17, ground := Ground.data }, { on := 12, ground := Ground.guard }], guard := some (12, false) }) (v := ?vv18_19) rfl (by kernel_rfl) (by kernel_rfl) (by kernel_rfl) (fun _ _ _ h => h) (Or.inl ⟨by rfl, ?hy18_19⟩) hH3 ?rest18_19
            case hy18_19 =>
              intro w hSw
              have c := (hlook.out w hSw).1
              go_simp
              try with_reducible rfl
            try simp only [Act.put, List.setIfInBounds_toArray, List.set_cons_zero, List.set_cons_succ]
            refine wpAnyH_take (i := 19) (oi := { dst := some 135, op := Op.call { callee := Callee.builtin Builtin.len, args := #[Operand.tmp 134], argTypes := #[48] }, type := 3, pos := "law.go:64", after := #[{ on := 18, ground := Ground.data }, { on := 12, ground := Ground.guard }], guard := some (12, false) }) (v := ?vv19_20) rfl (by kernel_rfl) (by kernel_rfl) (by kernel_rfl) (fun _ _ _ h => h) (Or.inl ⟨by rfl, ?hy19_20⟩) hH3 ?rest19_20
            case hy19_20 =>
              intro w hSw
              go_simp
              try with_reducible rfl
            try simp only [Act.put, List.setIfInBounds_toArray, List.set_cons_zero, List.set_cons_succ]
            refine wpAnyH_ready (rs := [14]) (by kernel_rfl) (by simp) ?_
            refine AllReadyH.cons (o := { dst := some 130, op := Op.call { callee := Callee.value (Operand.func 21), args := #[Operand.tmp 129], argTypes := #[25] }, type := 3, pos := "law.go:64", after := #[{ on := 13, ground := Ground.data }, { on := 12, ground := Ground.chain }, { on := 12, ground := Ground.guard }], guard := some (12, false) }) rfl (fun K hK => ?_) AllReadyH.nil
            go_simp
            refine (hlook.out _ hH3).2.2.2.2.2.2.1.mono ?_
            rintro x w4 ⟨rfl, rfl⟩
            refine hK.out _ _ hH3 (fun hHeld => ?_)
            clear hHeld hK K
            try simp only [Act.put, List.setIfInBounds_toArray, List.set_cons_zero, List.set_cons_succ]
            refine wpAnyH_take (i := 20) (oi := { dst := some 136, op := Op.binOp BinOp.neq 3 (Operand.tmp 130) (Operand.tmp 135) 3, type := 4, pos := "law.go:64", after := #[{ on := 14, ground := Ground.data }, { on := 19, ground := Ground.data }, { on := 12, ground := Ground.guard }], guard := some (12, false) }) (v := ?vv20_21) rfl (by kernel_rfl) (by kernel_rfl) (by kernel_rfl) (fun _ _ _ h => h) (Or.inl ⟨by rfl, ?hy20_21⟩) hH3 ?rest20_21
            case hy20_21 =>
              intro w hSw
              go_simp
              try with_reducible rfl
            try simp only [Act.put, List.setIfInBounds_toArray, List.set_cons_zero, List.set_cons_succ]
            refine wpAnyH_take (i := 21) (oi := { dst := some 137, op := Op.pick (Operand.tmp 128) (Operand.const (Value.bool true)) (Operand.tmp 136), type := 4, pos := "law.go:64", after := #[{ on := 12, ground := Ground.data }, { on := 20, ground := Ground.data }], guard := none }) (v := ?vv21_22) rfl (by kernel_rfl) (by kernel_rfl) (by kernel_rfl) (fun _ _ _ h => h) (Or.inl ⟨by rfl, ?hy21_22⟩) hH3 ?rest21_22
            case hy21_22 =>
              intro w hSw
              go_simp
              try with_reducible rfl
            try simp only [Act.put, List.setIfInBounds_toArray, List.set_cons_zero, List.set_cons_succ]
            refine wpAnyH_take (i := 22) (oi := { dst := some 138, op := Op.move (Operand.tmp 137), type := 4, pos := "law.go:64", after := #[{ on := 21, ground := Ground.data }, { on := 14, ground := Ground.chain }], guard := none }) (v := ?vv22_23) rfl (by kernel_rfl) (by kernel_rfl) (by kernel_rfl) (fun _ _ _ h => h) (Or.inl ⟨by rfl, ?hy22_23⟩) hH3 ?rest22_23
            case hy22_23 =>
              intro w hSw
              go_simp
              try with_reducible rfl
            try simp only [Act.put, List.setIfInBounds_toArray, List.set_cons_zero, List.set_cons_succ]
            refine wpAnyH_take (i := 23) (oi := { dst := some 139, op := Op.move (Operand.tmp 11), type := 3, pos := "law.go:64", after := #[{ on := 22, ground := Ground.guard }], guard := some (22, false) }) (v := ?vv23_24) rfl (by kernel_rfl) (by kernel_rfl) (by kernel_rfl) (fun _ _ _ h => h) (Or.inl ⟨by rfl, ?hy23_24⟩) hH3 ?rest23_24
            case hy23_24 =>
              intro w hSw
              go_simp
              try with_reducible rfl
            try simp only [Act.put, List.setIfInBounds_toArray, List.set_cons_zero, List.set_cons_succ]
            refine wpAnyH_take (i := 24) (oi := { dst := some 140, op := Op.binOp BinOp.lss 3 (Operand.tmp 139) (Operand.const (Value.int IntKind.i64 100)) 3, type := 4, pos := "law.go:64", after := #[{ on := 23, ground := Ground.data }, { on := 22, ground := Ground.guard }], guard := some (22, false) }) (v := ?vv24_25) rfl (by kernel_rfl) (by kernel_rfl) (by kernel_rfl) (fun _ _ _ h => h) (Or.inl ⟨by rfl, ?hy24_25⟩) hH3 ?rest24_25
            case hy24_25 =>
              intro w hSw
              go_simp
              try with_reducible rfl
            try simp only [Act.put, List.setIfInBounds_toArray, List.set_cons_zero, List.set_cons_succ]
            refine wpAnyH_take (i := 25) (oi := { dst := some 141, op := Op.move (Operand.tmp 140), type := 4, pos := "law.go:64", after := #[{ on := 24, ground := Ground.data }, { on := 22, ground := Ground.chain }, { on := 22, ground := Ground.guard }], guard := some (22, false) }) (v := ?vv25_26) rfl (by kernel_rfl) (by kernel_rfl) (by kernel_rfl) (fun _ _ _ h => h) (Or.inl ⟨by rfl, ?hy25_26⟩) hH3 ?rest25_26
            case hy25_26 =>
              intro w hSw
              go_simp
              try with_reducible rfl
            try simp only [Act.put, List.setIfInBounds_toArray, List.set_cons_zero, List.set_cons_succ]
            refine wpAnyH_take (i := 26) (oi := { dst := some 142, op := Op.move (Operand.tmp 7), type := 25, pos := "law.go:64", after := #[{ on := 25, ground := Ground.guard }], guard := some (25, true) }) (v := ?vv26_27) rfl (by kernel_rfl) (by kernel_rfl) (by kernel_rfl) (fun _ _ _ h => h) (Or.inl ⟨by rfl, ?hy26_27⟩) hH3 ?rest26_27
            case hy26_27 =>
              intro w hSw
              go_simp
              try with_reducible rfl
            try simp only [Act.put, List.setIfInBounds_toArray, List.set_cons_zero, List.set_cons_succ]
            refine wpAnyH_take (i := 28) (oi := { dst := some 144, op := Op.move (Operand.tmp 9), type := 29, pos := "law.go:64", after := #[{ on := 25, ground := Ground.guard }], guard := some (25, true) }) (v := ?vv28_28) rfl (by kernel_rfl) (by kernel_rfl) (by kernel_rfl) (fun _ _ _ h => h) (Or.inl ⟨by rfl, ?hy28_28⟩) hH3 ?rest28_28
            case hy28_28 =>
              intro w hSw
              go_simp
              try with_reducible rfl
            try simp only [Act.put, List.setIfInBounds_toArray, List.set_cons_zero, List.set_cons_succ]
            refine wpAnyH_take (i := 29) (oi := { dst := some 145, op := Op.nilCheck (Operand.tmp 144), type := 0, pos := "law.go:64", after := #[{ on := 28, ground := Ground.data }, { on := 25, ground := Ground.guard }], guard := some (25, true) }) (v := ?vv29_29) rfl (by kernel_rfl) (by kernel_rfl) (by kernel_rfl) (fun _ _ _ h => h) (Or.inl ⟨by rfl, ?hy29_29⟩) hH3 ?rest29_29
            case hy29_29 =>
              intro w hSw
              go_simp
              try with_reducible rfl
            try simp only [Act.put, List.setIfInBounds_toArray, List.set_cons_zero, List.set_cons_succ]
            refine wpAnyH_take (i := 30) (oi := { dst := some 146, op := Op.fieldAddr 50 (Operand.tmp 145) 2, type := 0, pos := "law.go:64", after := #[{ on := 29, ground := Ground.data }, { on := 25, ground := Ground.guard }], guard := some (25, true) }) (v := ?vv30_30) rfl (by kernel_rfl) (by kernel_rfl) (by kernel_rfl) (fun _ _ _ h => h) (Or.inl ⟨by rfl, ?hy30_30⟩) hH3 ?rest30_30
            case hy30_30 =>
              intro w hSw
              go_simp
              try with_reducible rfl
            try simp only [Act.put, List.setIfInBounds_toArray, List.set_cons_zero, List.set_cons_succ]
            refine wpAnyH_take (i := 31) (oi := { dst := some 147, op := Op.load 48 (Operand.tmp 146), type := 48, pos := "law.go:64", after := #[{ on := 30, ground := Ground.data }, { on := 25, ground := Ground.guard }], guard := some (25, true) }) (v := ?vv31_31) rfl (by kernel_rfl) (by kernel_rfl) (by kernel_rfl) (fun _ _ _ h => h) (Or.inl ⟨by rfl, ?hy31_31⟩) hH3 ?rest31_31
            case hy31_31 =>
              intro w hSw
              have c := (hlook.out w hSw).1
              go_simp
              try with_reducible rfl
            try simp only [Act.put, List.setIfInBounds_toArray, List.set_cons_zero, List.set_cons_succ]
            refine wpAnyH_ready (rs := [27]) (by kernel_rfl) (by simp) ?_
            refine AllReadyH.cons (o := { dst := some 143, op := Op.call { callee := Callee.value (Operand.func 23), args := #[Operand.tmp 142], argTypes := #[25] }, type := 48, pos := "law.go:64", after := #[{ on := 26, ground := Ground.data }, { on := 25, ground := Ground.chain }, { on := 25, ground := Ground.guard }], guard := some (25, true) }) rfl (fun K hK => ?_) AllReadyH.nil
            go_simp
            refine (hlook.out _ hH3).2.2.2.2.2.2.2.mono ?_
            rintro x w5 ⟨a5, c5, rfl, hq5⟩
            have hH5 := hH3.trans (hq5.out.2.mono hH3.size)
            have hs5 := Lib.hid (sameP_eq hq5.out.1 (hlook.out _ hH5).2.1 (by have := hbd2.out; omega))
            refine hK.out _ _ hH5 (fun hHeld => ?_)
            clear hHeld hK K
            try simp only [Act.put, List.setIfInBounds_toArray, List.set_cons_zero, List.set_cons_succ]
            refine wpAnyH_ready (rs := [32]) (by kernel_rfl) (by simp) ?_
            refine AllReadyH.cons (o := { dst := some 148, op := Op.call { callee := Callee.value (Operand.func 22), args := #[Operand.tmp 143, Operand.tmp 147], argTypes := #[48, 48] }, type := 4, pos := "law.go:64", after := #[{ on := 27, ground := Ground.data }, { on := 31, ground := Ground.data }, { on := 27, ground := Ground.chain }, { on := 25, ground := Ground.guard }], guard := some (25, true) }) rfl (fun K hK => ?_) AllReadyH.nil
            go_simp
            refine (hs5.out).mono ?_
            rintro x w6 ⟨rfl, hb6⟩
            have hH6 := hH5.trans (hb6.mono hH5.size)
            refine hK.out _ _ hH6 (fun hHeld => ?_)
            clear hHeld hK K
            try simp only [Act.put, List.setIfInBounds_toArray, List.set_cons_zero, List.set_cons_succ]
            refine wpAnyH_take (i := 33) (oi := { dst := some 149, op := Op.unOp UnOp.not 4 (Operand.tmp 148), type := 4, pos := "law.go:64", after := #[{ on := 32, ground := Ground.data }, { on := 25, ground := Ground.guard }], guard := some (25, true) }) (v := ?vv33_32) rfl (by kernel_rfl) (by kernel_rfl) (by kernel_rfl) (fun _ _ _ h => h) (Or.inl ⟨by rfl, ?hy33_32⟩) hH6 ?rest33_32
            case hy33_32 =>
              intro w hSw
              go_simp
              try with_reducible rfl
            try simp only [Act.put, List.setIfInBounds_toArray, List.set_cons_zero, List.set_cons_succ]
            refine wpAnyH_take (i := 34) (oi := { dst := some 150, op := Op.pick (Operand.tmp 141) (Operand.tmp 149) (Operand.const (Value.bool false)), type := 4, pos := "law.go:64", after := #[{ on := 25, ground := Ground.data }, { on := 33, ground := Ground.data }, { on := 22, ground := Ground.guard }], guard := some (22, false) }) (v := ?vv34_33) rfl (by kernel_rfl) (by kernel_rfl) (by kernel_rfl) (fun _ _ _ h => h) (Or.inl ⟨by rfl, ?hy34_33⟩) hH6 ?rest34_33
            case hy34_33 =>
              intro w hSw
              go_simp
              try with_reducible rfl
            try simp only [Act.put, List.setIfInBounds_toArray, List.set_cons_zero, List.set_cons_succ]
            refine wpAnyH_take (i := 35) (oi := { dst := some 151, op := Op.pick (Operand.tmp 138) (Operand.const (Value.bool true)) (Operand.tmp 150), type := 4, pos := "law.go:64", after := #[{ on := 22, ground := Ground.data }, { on := 34, ground := Ground.data }], guard := none }) (v := ?vv35_34) rfl (by kernel_rfl) (by kernel_rfl) (by kernel_rfl) (fun _ _ _ h => h) (Or.inl ⟨by rfl, ?hy35_34⟩) hH6 ?rest35_34
            case hy35_34 =>
              intro w hSw
              go_simp
              try with_reducible rfl
            try simp only [Act.put, List.setIfInBounds_toArray, List.set_cons_zero, List.set_cons_succ]
            refine wpAnyH_done (by kernel_rfl) ?_ _
            have hnx : Hid (∃ L, L.length ≤ i + 1 ∧ Mix w w6 hb rb (fun _ => False) y L L) := ⟨L', hL', hM'.out.below hH6⟩
            clear hs5 hq5 hlook hHd hH1 hH2 hH3 hH5 hH6
            go_wp2_with fail
            go_roundw
            case rel => (repeat apply Exists.intro); first | exact ⟨⟨hil'.out, by go_num, hnx⟩, rfl⟩ | exact ⟨hil'.out, by go_num, hnx, rfl⟩ | exact ⟨hil'.out, by go_num, hnx⟩
            case measure => have := hil'.out; simp [intOf]; omega
          · have hz1 : ¬ (i : Int) < 100 := by omega
            have hzd : decide ((i : Int) < 100) = false := decide_eq_false hz1
            refine wp_region_held_drew (S := fun w' => Below wc.heap.size wc w') (by kernel_rfl) ((Below.refl _ wc).drew) (fun hHeld => ?_)
            clear hHeld
            have hHd : Below wc.heap.size wc wc.drew := (Below.refl _ wc).drew
            refine wpAnyH_take (i := 0) (oi := { dst := some 116, op := Op.move (Operand.tmp 7), type := 25, pos := "law.go:64", after := #[], guard := none }) (v := ?vv0_35) rfl (by kernel_rfl) (by kernel_rfl) (by kernel_rfl) (fun _ _ _ h => h) (Or.inl ⟨by rfl, ?hy0_35⟩) hHd ?rest0_35
            case hy0_35 =>
              intro w hSw
              go_simp
              try with_reducible rfl
            try simp only [Act.put, List.setIfInBounds_toArray, List.set_cons_zero, List.set_cons_succ]
            refine wpAnyH_take (i := 2) (oi := { dst := some 118, op := Op.move (Operand.tmp 9), type := 29, pos := "law.go:64", after := #[], guard := none }) (v := ?vv2_36) rfl (by kernel_rfl) (by kernel_rfl) (by kernel_rfl) (fun _ _ _ h => h) (Or.inl ⟨by rfl, ?hy2_36⟩) hHd ?rest2_36
            case hy2_36 =>
              intro w hSw
              go_simp
              try with_reducible rfl
            try simp only [Act.put, List.setIfInBounds_toArray, List.set_cons_zero, List.set_cons_succ]
            refine wpAnyH_ready (rs := [1]) (by kernel_rfl) (by simp) ?_
            refine AllReadyH.cons (o := { dst := some 117, op := Op.call { callee := Callee.value (Operand.func 17), args := #[Operand.tmp 116], argTypes := #[25] }, type := 3, pos := "law.go:64", after := #[{ on := 0, ground := Ground.data }], guard := none }) rfl (fun K hK => ?_) AllReadyH.nil
            go_simp
            refine (hlook.out _ hHd).2.2.1.mono ?_
            rintro x w1 ⟨rfl, hb1⟩
            have hH1 := hHd.trans (hb1.mono hHd.size)
            refine hK.out _ _ hH1 (fun hHeld => ?_)
            clear hHeld hK K
            try simp only [Act.put, List.setIfInBounds_toArray, List.set_cons_zero, List.set_cons_succ]
            refine wpAnyH_ready (rs := [3]) (by kernel_rfl) (by simp) ?_
            refine AllReadyH.cons (o := { dst := some 119, op := Op.call { callee := Callee.value (Operand.func 18), args := #[Operand.tmp 118], argTypes := #[29] }, type := 3, pos := "law.go:64", after := #[{ on := 2, ground := Ground.data }, { on := 1, ground := Ground.chain }], guard := none }) rfl (fun K hK => ?_) AllReadyH.nil
            go_simp
            refine (hlook.out _ hH1).2.2.2.1.mono ?_
            rintro x w2 ⟨rfl, hb2⟩
            have hH2 := hH1.trans (hb2.mono hH1.size)
            refine hK.out _ _ hH2 (fun hHeld => ?_)
            clear hHeld hK K
            try simp only [Act.put, List.setIfInBounds_toArray, List.set_cons_zero, List.set_cons_succ]
            refine wpAnyH_take (i := 4) (oi := { dst := some 120, op := Op.binOp BinOp.neq 3 (Operand.tmp 117) (Operand.tmp 119) 3, type := 4, pos := "law.go:64", after := #[{ on := 1, ground := Ground.data }, { on := 3, ground := Ground.data }], guard := none }) (v := ?vv4_37) rfl (by kernel_rfl) (by kernel_rfl) (by kernel_rfl) (fun _ _ _ h => h) (Or.inl ⟨by rfl, ?hy4_37⟩) hH2 ?rest4_37
            case hy4_37 =>
              intro w hSw
              go_simp
              try with_reducible rfl
            try simp only [Act.put, List.setIfInBounds_toArray, List.set_cons_zero, List.set_cons_succ]
            refine wpAnyH_take (i := 5) (oi := { dst := some 121, op := Op.move (Operand.tmp 120), type := 4, pos := "law.go:64", after := #[{ on := 4, ground := Ground.data }, { on := 3, ground := Ground.chain }], guard := none }) (v := ?vv5_38) rfl (by kernel_rfl) (by kernel_rfl) (by kernel_rfl) (fun _ _ _ h => h) (Or.inl ⟨by rfl, ?hy5_38⟩) hH2 ?rest5_38
            case hy5_38 =>
              intro w hSw
              go_simp
              try with_reducible rfl
            try simp only [Act.put, List.setIfInBounds_toArray, List.set_cons_zero, List.set_cons_succ]
            refine wpAnyH_take (i := 6) (oi := { dst := some 122, op := Op.move (Operand.tmp 7), type := 25, pos := "law.go:64", after := #[{ on := 5, ground := Ground.guard }], guard := some (5, false) }) (v := ?vv6_39) rfl (by kernel_rfl) (by kernel_rfl) (by kernel_rfl) (fun _ _ _ h => h) (Or.inl ⟨by rfl, ?hy6_39⟩) hH2 ?rest6_39
            case hy6_39 =>
              intro w hSw
              go_simp
              try with_reducible rfl
            try simp only [Act.put, List.setIfInBounds_toArray, List.set_cons_zero, List.set_cons_succ]
            refine wpAnyH_take (i := 8) (oi := { dst := some 124, op := Op.move (Operand.tmp 9), type := 29, pos := "law.go:64", after := #[{ on := 5, ground := Ground.guard }], guard := some (5, false) }) (v := ?vv8_40) rfl (by kernel_rfl) (by kernel_rfl) (by kernel_rfl) (fun _ _ _ h => h) (Or.inl ⟨by rfl, ?hy8_40⟩) hH2 ?rest8_40
            case hy8_40 =>
              intro w hSw
              go_simp
              try with_reducible rfl
            try simp only [Act.put, List.setIfInBounds_toArray, List.set_cons_zero, List.set_cons_succ]
            refine wpAnyH_ready (rs := [7]) (by kernel_rfl) (by simp) ?_
            refine AllReadyH.cons (o := { dst := some 123, op := Op.call { callee := Callee.value (Operand.func 19), args := #[Operand.tmp 122], argTypes := #[25] }, type := 2, pos := "law.go:64", after := #[{ on := 6, ground := Ground.data }, { on := 5, ground := Ground.chain }, { on := 5, ground := Ground.guard }], guard := some (5, false) }) rfl (fun K hK => ?_) AllReadyH.nil
            go_simp
            refine (hlook.out _ hH2).2.2.2.2.1.mono ?_
            rintro x w3 ⟨rfl, hb3⟩
            have hH3 := hH2.trans (hb3.mono hH2.size)
            refine hK.out _ _ hH3 (fun hHeld => ?_)
            clear hHeld hK K
            try simp only [Act.put, List.setIfInBounds_toArray, List.set_cons_zero, List.set_cons_succ]
            refine wpAnyH_ready (rs := [9]) (by kernel_rfl) (by simp) ?_
            refine AllReadyH.cons (o := { dst := some 125, op := Op.call { callee := Callee.value (Operand.func 20), args := #[Operand.tmp 124], argTypes := #[29] }, type := 2, pos := "law.go:64", after := #[{ on := 8, ground := Ground.data }, { on := 7, ground := Ground.chain }, { on := 5, ground := Ground.guard }], guard := some (5, false) }) rfl (fun K hK => ?_) AllReadyH.nil
            go_simp
            refine (hlook.out _ hH3).2.2.2.2.2.1.mono ?_
            rintro x w4 ⟨rfl, rfl⟩
            refine hK.out _ _ hH3 (fun hHeld => ?_)
            clear hHeld hK K
            try simp only [Act.put, List.setIfInBounds_toArray, List.set_cons_zero, List.set_cons_succ]
            refine wpAnyH_take (i := 10) (oi := { dst := some 126, op := Op.binOp BinOp.neq 2 (Operand.tmp 123) (Operand.tmp 125) 2, type := 4, pos := "law.go:64", after := #[{ on := 7, ground := Ground.data }, { on := 9, ground := Ground.data }, { on := 5, ground := Ground.guard }], guard := some (5, false) }) (v := ?vv10_41) rfl (by kernel_rfl) (by kernel_rfl) (by kernel_rfl) (fun _ _ _ h => h) (Or.inl ⟨by rfl, ?hy10_41⟩) hH3 ?rest10_41
            case hy10_41 =>
              intro w hSw
              go_simp
              try with_reducible rfl
            try simp only [Act.put, List.setIfInBounds_toArray, List.set_cons_zero, List.set_cons_succ]
            refine wpAnyH_take (i := 11) (oi := { dst := some 127, op := Op.pick (Operand.tmp 121) (Operand.const (Value.bool true)) (Operand.tmp 126), type := 4, pos := "law.go:64", after := #[{ on := 5, ground := Ground.data }, { on := 10, ground := Ground.data }], guard := none }) (v := ?vv11_42) rfl (by kernel_rfl) (by kernel_rfl) (by kernel_rfl) (fun _ _ _ h => h) (Or.inl ⟨by rfl, ?hy11_42⟩) hH3 ?rest11_42
            case hy11_42 =>
              intro w hSw
              go_simp
              try with_reducible rfl
            try simp only [Act.put, List.setIfInBounds_toArray, List.set_cons_zero, List.set_cons_succ]
            refine wpAnyH_take (i := 12) (oi := { dst := some 128, op := Op.move (Operand.tmp 127), type := 4, pos := "law.go:64", after := #[{ on := 11, ground := Ground.data }, { on := 9, ground := Ground.chain }], guard := none }) (v := ?vv12_43) rfl (by kernel_rfl) (by kernel_rfl) (by kernel_rfl) (fun _ _ _ h => h) (Or.inl ⟨by rfl, ?hy12_43⟩) hH3 ?rest12_43
            case hy12_43 =>
              intro w hSw
              go_simp
              try with_reducible rfl
            try simp only [Act.put, List.setIfInBounds_toArray, List.set_cons_zero, List.set_cons_succ]
            refine wpAnyH_take (i := 13) (oi := { dst := some 129, op := Op.move (Operand.tmp 7), type := 25, pos := "law.go:64", after := #[{ on := 12, ground := Ground.guard }], guard := some (12, false) }) (v := ?vv13_44) rfl (by kernel_rfl) (by kernel_rfl) (by kernel_rfl) (fun _ _ _ h => h) (Or.inl ⟨by rfl, ?hy13_44⟩) hH3 ?rest13_44
            case hy13_44 =>
              intro w hSw
              go_simp
              try with_reducible rfl
            try simp only [Act.put, List.setIfInBounds_toArray, List.set_cons_zero, List.set_cons_succ]
            refine wpAnyH_take (i := 15) (oi := { dst := some 131, op := Op.move (Operand.tmp 9), type := 29, pos := "law.go:64", after := #[{ on := 12, ground := Ground.guard }], guard := some (12, false) }) (v := ?vv15_45) rfl (by kernel_rfl) (by kernel_rfl) (by kernel_rfl) (fun _ _ _ h => h) (Or.inl ⟨by rfl, ?hy15_45⟩) hH3 ?rest15_45
            case hy15_45 =>
              intro w hSw
              go_simp
              try with_reducible rfl
            try simp only [Act.put, List.setIfInBounds_toArray, List.set_cons_zero, List.set_cons_succ]
            refine wpAnyH_take (i := 16) (oi := { dst := some 132, op := Op.nilCheck (Operand.tmp 131), type := 0, pos := "law.go:64", after := #[{ on := 15, ground := Ground.data }, { on := 12, ground := Ground.guard }], guard := some (12, false) }) (v := ?vv16_46) rfl (by kernel_rfl) (by kernel_rfl) (by kernel_rfl) (fun _ _ _ h => h) (Or.inl ⟨by rfl, ?hy16_46⟩) hH3 ?rest16_46
            case hy16_46 =>
              intro w hSw
              go_simp
              try with_reducible rfl
            try simp only [Act.put, List.setIfInBounds_toArray, List.set_cons_zero, List.set_cons_succ]
            refine wpAnyH_take (i := 17) (oi := { dst := some 133, op := Op.fieldAddr 50 (Operand.tmp 132) 2, type := 0, pos := "law.go:64", after := #[{ on := 16, ground := Ground.data }, { on := 12, ground := Ground.guard }], guard := some (12, false) }) (v := ?vv17_47) rfl (by kernel_rfl) (by kernel_rfl) (by kernel_rfl) (fun _ _ _ h => h) (Or.inl ⟨by rfl, ?hy17_47⟩) hH3 ?rest17_47
            case hy17_47 =>
              intro w hSw
              go_simp
              try with_reducible rfl
            try simp only [Act.put, List.setIfInBounds_toArray, List.set_cons_zero, List.set_cons_succ]
            refine wpAnyH_take (i := 18) (oi := { dst := some 134, op := Op.load 48 (Operand.tmp 133), type := 48, pos := "law.go:64", after := #[{ on := 17, ground := Ground.data }, { on := 12, ground := Ground.guard }], guard := some (12, false) }) (v := ?vv18_48) rfl (by kernel_rfl) (by kernel_rfl) (by kernel_rfl) (fun _ _ _ h => h) (Or.inl ⟨by rfl, ?hy18_48⟩) hH3 ?rest18_48
            case hy18_48 =>
              intro w hSw
              have c := (hlook.out w hSw).1
              go_simp
              try with_reducible rfl
            try simp only [Act.put, List.setIfInBounds_toArray, List.set_cons_zero, List.set_cons_succ]
            refine wpAnyH_take (i := 19) (oi := { dst := some 135, op := Op.call { callee := Callee.builtin Builtin.len, args := #[Operand.tmp 134], argTypes := #[48] }, type := 3, pos := "law.go:64", after := #[{ on := 18, ground := Ground.data }, { on := 12, ground := Ground.guard }], guard := some (12, false) }) (v := ?vv19_49) rfl (by kernel_rfl) (by kernel_rfl) (by kernel_rfl) (fun _ _ _ h => h) (Or.inl ⟨by rfl, ?hy19_49⟩) hH3 ?rest19_49
            case hy19_49 =>
              intro w hSw
              go_simp
              try with_reducible rfl
            try simp only [Act.put, List.setIfInBounds_toArray, List.set_cons_zero, List.set_cons_succ]
            refine wpAnyH_ready (rs := [14]) (by kernel_rfl) (by simp) ?_
            refine AllReadyH.cons (o := { dst := some 130, op := Op.call { callee := Callee.value (Operand.func 21), args := #[Operand.tmp 129], argTypes := #[25] }, type := 3, pos := "law.go:64", after := #[{ on := 13, ground := Ground.data }, { on := 12, ground := Ground.chain }, { on := 12, ground := Ground.guard }], guard := some (12, false) }) rfl (fun K hK => ?_) AllReadyH.nil
            go_simp
            refine (hlook.out _ hH3).2.2.2.2.2.2.1.mono ?_
            rintro x w4 ⟨rfl, rfl⟩
            refine hK.out _ _ hH3 (fun hHeld => ?_)
            clear hHeld hK K
            try simp only [Act.put, List.setIfInBounds_toArray, List.set_cons_zero, List.set_cons_succ]
            refine wpAnyH_take (i := 20) (oi := { dst := some 136, op := Op.binOp BinOp.neq 3 (Operand.tmp 130) (Operand.tmp 135) 3, type := 4, pos := "law.go:64", after := #[{ on := 14, ground := Ground.data }, { on := 19, ground := Ground.data }, { on := 12, ground := Ground.guard }], guard := some (12, false) }) (v := ?vv20_50) rfl (by kernel_rfl) (by kernel_rfl) (by kernel_rfl) (fun _ _ _ h => h) (Or.inl ⟨by rfl, ?hy20_50⟩) hH3 ?rest20_50
            case hy20_50 =>
              intro w hSw
              go_simp
              try with_reducible rfl
            try simp only [Act.put, List.setIfInBounds_toArray, List.set_cons_zero, List.set_cons_succ]
            refine wpAnyH_take (i := 21) (oi := { dst := some 137, op := Op.pick (Operand.tmp 128) (Operand.const (Value.bool true)) (Operand.tmp 136), type := 4, pos := "law.go:64", after := #[{ on := 12, ground := Ground.data }, { on := 20, ground := Ground.data }], guard := none }) (v := ?vv21_51) rfl (by kernel_rfl) (by kernel_rfl) (by kernel_rfl) (fun _ _ _ h => h) (Or.inl ⟨by rfl, ?hy21_51⟩) hH3 ?rest21_51
            case hy21_51 =>
              intro w hSw
              go_simp
              try with_reducible rfl
            try simp only [Act.put, List.setIfInBounds_toArray, List.set_cons_zero, List.set_cons_succ]
            refine wpAnyH_take (i := 22) (oi := { dst := some 138, op := Op.move (Operand.tmp 137), type := 4, pos := "law.go:64", after := #[{ on := 21, ground := Ground.data }, { on := 14, ground := Ground.chain }], guard := none }) (v := ?vv22_52) rfl (by kernel_rfl) (by kernel_rfl) (by kernel_rfl) (fun _ _ _ h => h) (Or.inl ⟨by rfl, ?hy22_52⟩) hH3 ?rest22_52
            case hy22_52 =>
              intro w hSw
              go_simp
              try with_reducible rfl
            try simp only [Act.put, List.setIfInBounds_toArray, List.set_cons_zero, List.set_cons_succ]
            refine wpAnyH_take (i := 23) (oi := { dst := some 139, op := Op.move (Operand.tmp 11), type := 3, pos := "law.go:64", after := #[{ on := 22, ground := Ground.guard }], guard := some (22, false) }) (v := ?vv23_53) rfl (by kernel_rfl) (by kernel_rfl) (by kernel_rfl) (fun _ _ _ h => h) (Or.inl ⟨by rfl, ?hy23_53⟩) hH3 ?rest23_53
            case hy23_53 =>
              intro w hSw
              go_simp
              try with_reducible rfl
            try simp only [Act.put, List.setIfInBounds_toArray, List.set_cons_zero, List.set_cons_succ]
            refine wpAnyH_take (i := 24) (oi := { dst := some 140, op := Op.binOp BinOp.lss 3 (Operand.tmp 139) (Operand.const (Value.int IntKind.i64 100)) 3, type := 4, pos := "law.go:64", after := #[{ on := 23, ground := Ground.data }, { on := 22, ground := Ground.guard }], guard := some (22, false) }) (v := ?vv24_54) rfl (by kernel_rfl) (by kernel_rfl) (by kernel_rfl) (fun _ _ _ h => h) (Or.inl ⟨by rfl, ?hy24_54⟩) hH3 ?rest24_54
            case hy24_54 =>
              intro w hSw
              go_simp
              try with_reducible rfl
            try simp only [Act.put, List.setIfInBounds_toArray, List.set_cons_zero, List.set_cons_succ]
            refine wpAnyH_take (i := 25) (oi := { dst := some 141, op := Op.move (Operand.tmp 140), type := 4, pos := "law.go:64", after := #[{ on := 24, ground := Ground.data }, { on := 22, ground := Ground.chain }, { on := 22, ground := Ground.guard }], guard := some (22, false) }) (v := ?vv25_55) rfl (by kernel_rfl) (by kernel_rfl) (by kernel_rfl) (fun _ _ _ h => h) (Or.inl ⟨by rfl, ?hy25_55⟩) hH3 ?rest25_55
            case hy25_55 =>
              intro w hSw
              go_simp
              try with_reducible rfl
            try simp only [Act.put, List.setIfInBounds_toArray, List.set_cons_zero, List.set_cons_succ]
            refine wpAnyH_take (i := 26) (oi := { dst := some 142, op := Op.move (Operand.tmp 7), type := 25, pos := "law.go:64", after := #[{ on := 25, ground := Ground.guard }], guard := some (25, true) }) (v := undef) rfl (by kernel_rfl) (by kernel_rfl) (by kernel_rfl) (fun _ _ _ h => h) (Or.inr ⟨by rfl, rfl⟩) hH3 ?_
            try simp only [Act.put, List.setIfInBounds_toArray, List.set_cons_zero, List.set_cons_succ]
            refine wpAnyH_take (i := 28) (oi := { dst := some 144, op := Op.move (Operand.tmp 9), type := 29, pos := "law.go:64", after := #[{ on := 25, ground := Ground.guard }], guard := some (25, true) }) (v := undef) rfl (by kernel_rfl) (by kernel_rfl) (by kernel_rfl) (fun _ _ _ h => h) (Or.inr ⟨by rfl, rfl⟩) hH3 ?_
            try simp only [Act.put, List.setIfInBounds_toArray, List.set_cons_zero, List.set_cons_succ]
            refine wpAnyH_take (i := 29) (oi := { dst := some 145, op := Op.nilCheck (Operand.tmp 144), type := 0, pos := "law.go:64", after := #[{ on := 28, ground := Ground.data }, { on := 25, ground := Ground.guard }], guard := some (25, true) }) (v := undef) rfl (by kernel_rfl) (by kernel_rfl) (by kernel_rfl) (fun _ _ _ h => h) (Or.inr ⟨by rfl, rfl⟩) hH3 ?_
            try simp only [Act.put, List.setIfInBounds_toArray, List.set_cons_zero, List.set_cons_succ]
            refine wpAnyH_take (i := 30) (oi := { dst := some 146, op := Op.fieldAddr 50 (Operand.tmp 145) 2, type := 0, pos := "law.go:64", after := #[{ on := 29, ground := Ground.data }, { on := 25, ground := Ground.guard }], guard := some (25, true) }) (v := undef) rfl (by kernel_rfl) (by kernel_rfl) (by kernel_rfl) (fun _ _ _ h => h) (Or.inr ⟨by rfl, rfl⟩) hH3 ?_
            try simp only [Act.put, List.setIfInBounds_toArray, List.set_cons_zero, List.set_cons_succ]
            refine wpAnyH_take (i := 31) (oi := { dst := some 147, op := Op.load 48 (Operand.tmp 146), type := 48, pos := "law.go:64", after := #[{ on := 30, ground := Ground.data }, { on := 25, ground := Ground.guard }], guard := some (25, true) }) (v := undef) rfl (by kernel_rfl) (by kernel_rfl) (by kernel_rfl) (fun _ _ _ h => h) (Or.inr ⟨by rfl, rfl⟩) hH3 ?_
            try simp only [Act.put, List.setIfInBounds_toArray, List.set_cons_zero, List.set_cons_succ]
            refine wpAnyH_ready (rs := [27]) (by kernel_rfl) (by simp) ?_
            refine AllReadyH.cons (o := { dst := some 143, op := Op.call { callee := Callee.value (Operand.func 23), args := #[Operand.tmp 142], argTypes := #[25] }, type := 48, pos := "law.go:64", after := #[{ on := 26, ground := Ground.data }, { on := 25, ground := Ground.chain }, { on := 25, ground := Ground.guard }], guard := some (25, true) }) rfl (fun K hK => ?_) AllReadyH.nil
            go_simp
            refine hK.out _ _ hH3 (fun hHeld => ?_)
            clear hHeld hK K
            try simp only [Act.put, List.setIfInBounds_toArray, List.set_cons_zero, List.set_cons_succ]
            refine wpAnyH_ready (rs := [32]) (by kernel_rfl) (by simp) ?_
            refine AllReadyH.cons (o := { dst := some 148, op := Op.call { callee := Callee.value (Operand.func 22), args := #[Operand.tmp 143, Operand.tmp 147], argTypes := #[48, 48] }, type := 4, pos := "law.go:64", after := #[{ on := 27, ground := Ground.data }, { on := 31, ground := Ground.data }, { on := 27, ground := Ground.chain }, { on := 25, ground := Ground.guard }], guard := some (25, true) }) rfl (fun K hK => ?_) AllReadyH.nil
            go_simp
            refine hK.out _ _ hH3 (fun hHeld => ?_)
            clear hHeld hK K
            try simp only [Act.put, List.setIfInBounds_toArray, List.set_cons_zero, List.set_cons_succ]
            refine wpAnyH_take (i := 33) (oi := { dst := some 149, op := Op.unOp UnOp.not 4 (Operand.tmp 148), type := 4, pos := "law.go:64", after := #[{ on := 32, ground := Ground.data }, { on := 25, ground := Ground.guard }], guard := some (25, true) }) (v := undef) rfl (by kernel_rfl) (by kernel_rfl) (by kernel_rfl) (fun _ _ _ h => h) (Or.inr ⟨by rfl, rfl⟩) hH3 ?_
            try simp only [Act.put, List.setIfInBounds_toArray, List.set_cons_zero, List.set_cons_succ]
            refine wpAnyH_take (i := 34) (oi := { dst := some 150, op := Op.pick (Operand.tmp 141) (Operand.tmp 149) (Operand.const (Value.bool false)), type := 4, pos := "law.go:64", after := #[{ on := 25, ground := Ground.data }, { on := 33, ground := Ground.data }, { on := 22, ground := Ground.guard }], guard := some (22, false) }) (v := ?vv34_56) rfl (by kernel_rfl) (by kernel_rfl) (by kernel_rfl) (fun _ _ _ h => h) (Or.inl ⟨by rfl, ?hy34_56⟩) hH3 ?rest34_56
            case hy34_56 =>
              intro w hSw
              go_simp
              try with_reducible rfl
            try simp only [Act.put, List.setIfInBounds_toArray, List.set_cons_zero, List.set_cons_succ]
            refine wpAnyH_take (i := 35) (oi := { dst := some 151, op := Op.pick (Operand.tmp 138) (Operand.const (Value.bool true)) (Operand.tmp 150), type := 4, pos := "law.go:64", after := #[{ on := 22, ground := Ground.data }, { on := 34, ground := Ground.data }], guard := none }) (v := ?vv35_57) rfl (by kernel_rfl) (by kernel_rfl) (by kernel_rfl) (fun _ _ _ h => h) (Or.inl ⟨by rfl, ?hy35_57⟩) hH3 ?rest35_57
            case hy35_57 =>
              intro w hSw
              go_simp
              try with_reducible rfl
            try simp only [Act.put, List.setIfInBounds_toArray, List.set_cons_zero, List.set_cons_succ]
            refine wpAnyH_done (by kernel_rfl) ?_ _
            have hnx : Hid (∃ L, L.length ≤ i + 1 ∧ Mix w w3 hb rb (fun _ => False) y L L) := ⟨L', hL', hM'.out.below hH3⟩
            clear hlook hHd hH1 hH2 hH3
            go_wp2_with fail
            go_roundw
            case rel => (repeat apply Exists.intro); first | exact ⟨⟨hil'.out, by go_num, hnx⟩, rfl⟩ | exact ⟨hil'.out, by go_num, hnx, rfl⟩ | exact ⟨hil'.out, by go_num, hnx⟩
            case measure => have := hil'.out; simp [intOf]; omega
      · obtain rfl : i = len := by omega
        have hz : ¬ (i : Int) < (i : Int) := by omega
        have haw : Hid (Calls Try.prog 24 #[] wr fun e w' => e = .returned (.bool true) ∧ Below w.heap.size w w') := by
          obtain ⟨L, hL, hT⟩ := hM.out
          exact (awake_any11 wr).mono fun e w' hh => ⟨hh.1, hT.b.trans (hh.2.mono hT.b.size)⟩
        clear hM
        go_wp2_with (go_at_call 24; refine haw.out.mono ?_; rintro e w' ⟨rfl, hb5⟩; have hb5' := Lib.hid hb5; clear hb5)
        go_ret
        exact ⟨rfl, hb5'.out⟩
  · have hn1 := Lib.hid (lkNew_no (f := f) (t := t) (k := k) (b := b) (most := most) hok (w.alloc (.cells #[.int .i64 f, .int .i64 t, .int .i64 k, .bool b] 23)))
    have hn2 : Hid (∀ w1, _) := Lib.hid (fun w1 => rlNew_no (f := f) (t := t) (k := k) (b := b) (most := most) hok w1)
    unfold lkV at hn1 hn2
    dsimp only
    clear hok
    go_enter Try.func3, Try.ntmps3
    go_upto_region 1 with (fail)
    generalize w.alloc (.cells #[.int .i64 f, .int .i64 t, .int .i64 k, .bool b] 23) = W0 at *
    obtain ⟨z0, z1, z2, z3⟩ := hcl.out W0 (Below.refl _ _)
    go_upto_region 2 with (go_at_call 9; refine hn1.out.mono ?_; rintro e w1 ⟨rfl, hM1⟩)
    clear z0 z1 z2 z3
    obtain ⟨z0, z1, z2, z3⟩ := hcl.out w1 hM1
    have hn3 := Lib.hid (hn2.out w1)
    have hM1' := Lib.hid hM1
    clear hM1
    go_upto_region 3 with (go_at_call 10; refine hn3.out.mono ?_; rintro e w2 ⟨rfl, hM2⟩)
    have hB2 : Hid (Below w.heap.size w w2) := (hb0.out.trans (hM1'.out.mono hb0.out.size)).trans (hM2.mono (by have := hb0.out.size; have := hM1'.out.size; omega))
    clear z0 z1 z2 z3 hn1 hn2 hn3 hcl hb0 hM1' hM2
    go_wp2_with fail
    go_loopw [11] (fun s11 wr => s11 = .int .i64 0 ∧ Hid (Below w.heap.size w wr)) (fun _ _ => 0)
    case atStart => exact ⟨rfl, hB2⟩
    case round =>
      obtain ⟨rfl, hW⟩ := hrel
      have haw : Hid (Calls Try.prog 24 #[] wr fun e w' => e = .returned (.bool true) ∧ Below w.heap.size w w') := (awake_any11 wr).mono fun e w' hh => ⟨hh.1, hW.out.trans (hh.2.mono hW.out.size)⟩
      clear hB2 hW
      go_wp2_with (go_at_call 24; refine haw.out.mono ?_; rintro e w' ⟨rfl, hb5⟩; have hb5' := Lib.hid hb5; clear hb5)
      go_ret
      exact ⟨rfl, hb5'.out⟩
end Go.Proofs.Ytjbammgnkegecaa
