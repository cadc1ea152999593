
/-
  A way's Put.
-/
import Derived.Test.YtjbammgnkegecaaKF
import Derived.Test.YtjbammgnkegecaaGZ
namespace Go.Proofs.Ytjbammgnkegecaa
open Go.ChangeShapes Go.WideShapes Go.ChangeAt Go.Shelf Go.RowKit Go.Lib Go.Sort Go.Deep
set_option linter.unusedVariables false
set_option maxRecDepth 4000

theorem lit_parcel (p : Pc) (w : World) : (Instr.buildSlice 48 1 #[(0, .agg (encP p).toArray)]).run Try.prog w = .ok (.slice (some ⟨w.heap.size, 0, none⟩) 1 1) (w.alloc (.cells (encP p).toArray 37)) := by kernel_rfl
section
variable {P : Program} {ops : Array Oper} {E : Prop} {o : Oper} {a : Act} {w w2 : World} {K : Act → World → Prop} {Q : Exit → Act → World → Prop}
theorem step_append_row (hgd : o.guard = none) (s x : Operand) (t : TypeId) (ho : o.op = .call { callee := .builtin .append, args := #[s, x], argTypes := #[t, t] })
    {e : TypeId} {sz n : Nat} {v : Value} {xs : List Value} (h : RowAt w e sz v n xs) (i : TypeInfo) (z : Value) (bytes : Nat) (ht : P.underlying t = some (.slice e)) (hi : P.info? e = some i) (hz : i.zero = some z) (hsize : i.size = sz) (hby : i.bytes = bytes)
    (hzs : z.cells.size = sz) (hsz : 0 < sz) (hs : a.eval s = v) (ad : Addr) (c : Nat) (news : List Value) (hx : a.eval x = .slice (some ad) 1 c) (hl : news.length = sz) (hnews : ∀ j u, news[j]? = some u → w.cell? (ad.add j) = some u) (h1 : ∀ u ∈ news, u.oneCell' = true)
    (h63 : n + 1 ≤ maxLen) (hbytes : (n + 1) * bytes ≤ 140737488355328)
    (hK : ∀ g off cap w', Hid (RowIn w' e sz g off (n + 1) cap (xs ++ news)) → Hid (KeptOff (fun k => v.ownBlock = some k) w w') → Hid (v.ownBlock = some g ∨ w.heap.size ≤ g) → K (a.put o.dst (.slice (some ⟨g, off, none⟩) (n + 1) cap)) w') :
    if Region.wanted o (yielded ops a.tmps) = true then Oper.wp P o a w K Q else E := by
  have hw : Region.wanted o (yielded ops a.tmps) = true := by simp [Region.wanted, hgd]
  rw [if_pos hw]
  obtain ⟨g, off, cap, w', hrun, r1, r2, r3⟩ := h.append (P := P) t o.type i z bytes ht hi hz hsize hby hzs hsz ad c news hl hnews h1 h63 hbytes
  unfold Oper.wp
  simp [execOp, ho, resolve, invoke, builtin, hs, hx, hrun, Result.andThen]
  exact hK g off cap w' r1 r2 r3
theorem step_buildSlice (hgd : o.guard = none) (t : TypeId) (n : Nat) (parts : Array (Nat × Operand)) (ho : o.op = .buildSlice t n parts) (vals : Array (Nat × Value)) (hv : parts.map (fun (i, x) => (i, a.eval x)) = vals) {u : Value}
    (hb : (Instr.buildSlice t n vals).run P w = .ok u w2) (h : K (a.put o.dst u) w2) : if Region.wanted o (yielded ops a.tmps) = true then Oper.wp P o a w K Q else E := by
  have hw : Region.wanted o (yielded ops a.tmps) = true := by simp [Region.wanted, hgd]
  rw [if_pos hw]
  unfold Oper.wp execOp
  simp only [ho, hv]
  simp [hb, Result.andThen]
  exact h
end
/-- One more at the end: the way behind it. -/
theorem WyOf.more {w1 w4 : World} {hb : Nat} {S : Nat → Prop} {y : Wy} {v : Value} {L : List Pc} {p : Pc} (h : WyOf w1 hb S y v L) {g off cap : Nat} {wa : World} (hR : RowIn w4 37 8 g off (L.length + 1) cap (flatP L ++ encP p)) (hk : KeptOff (fun k => v.ownBlock = some k) w1 w4)
    (hn : v.ownBlock = some g ∨ wa.heap.size ≤ g) (hwa : w1.heap.size ≤ wa.heap.size) : ∃ S', WyAt (w4.setCell ⟨hb, 4, none⟩ (.slice (some ⟨g, off, none⟩) (L.length + 1) cap)) hb S' y (L ++ [p]) ∧ CStep w1 (w4.setCell ⟨hb, 4, none⟩ (.slice (some ⟨g, off, none⟩) (L.length + 1) cap)) S S' := by
  have hrow4 : w4.heap[hb]? = some (.cells #[.int .i64 y.fr, .int .i64 y.to, .int .i64 y.most, kfV y.loose, v] 66 (0, 0)) := (hk.block hb (h.lt hb h.own) (fun e => h.ne e rfl)).trans h.row
  have hks := KeptOff.set w4 ⟨hb, 4, none⟩ (.slice (some ⟨g, off, none⟩) (L.length + 1) cap)
  have hkk : KeptOff S w1 (w4.setCell ⟨hb, 4, none⟩ (.slice (some ⟨g, off, none⟩) (L.length + 1) cap)) := (hk.mono (fun k _ e => h.owns k e)).trans (hks.mono (fun k _ e => by rw [e]; exact h.own))
  have hg : S g ∨ w1.heap.size ≤ g := hn.elim (fun e => .inl (h.owns g e)) (fun e => .inr (by omega))
  have hgb : g ≠ hb := by
    rcases hn with e | e
    · exact h.ne e
    · have := h.lt hb h.own; omega
  refine ⟨fun k => S k ∨ k = g, ⟨.slice (some ⟨g, off, none⟩) (L.length + 1) cap, ⟨?_, ?_, h.ok, .inl h.own, fun k (e : Value.ownBlock _ = some k) => ?_, fun k e => ?_⟩⟩, hkk, fun k e => ?_⟩
  · unfold WyRow
    simp [World.setCell, Array.getElem?_modify, hrow4]
  · refine .inr ⟨g, off, cap, by simp, ?_⟩
    rw [flatP_append, flatP_single, List.length_append]
    exact RowIn.kept hR hks hgb
  · simp [Value.ownBlock] at e
    exact .inr e.symm
  · rcases e with e | rfl
    · exact Nat.lt_of_lt_of_le (h.lt k e) hkk.size
    · exact Nat.lt_of_lt_of_le (RowIn.lt hR) hks.size
  · rcases e with e | rfl
    · exact .inl e
    · exact hg
section
variable {w : World} {hb : Nat} {S : Nat → Prop} {y : Wy} {L : List Pc}
theorem put_no (h : WyAt w hb S y L) (p : Pc) (hl : L.length < 1000000000000000) (hc : ¬ putC y L.length p = 0) : Calls Try.prog 11 #[.pointer (some ⟨hb, 0, none⟩), p.val] w fun e w' => e = .returned (.int .i64 (putC y L.length p)) ∧ Below w.heap.size w w' := by
  obtain ⟨v, h⟩ := h
  have hbx : Hid (BoxP (w.alloc (.cells p.cells 37)) w.heap.size p) := BoxP.mk w p
  have hb0 : Hid (Below w.heap.size w (w.alloc (.cells p.cells 37))) := (Below.refl _ w).alloc (Nat.le_refl _) _
  have hrf := refusal_any (h.below hb0.out) p hl
  obtain ⟨x0, x1, x2, x3, x4, x5, x6, x7⟩ := hbx.out.at
  simp only [Nat.zero_add] at x0 x1 x2 x3 x4 x5 x6 x7
  have hw0 : Hid (w.alloc (.cells #[.int .i64 p.m.k.t, .int .i64 p.m.k.f, .int .i64 p.m.k.s, .int .i64 p.m.to, .int .i64 p.m.v, .int .i64 p.m.u, .bool p.m.anti, .int .i64 p.c] 37) = w.alloc (.cells p.cells 37)) := rfl
  unfold Pc.val at hrf ⊢
  generalize putC y L.length p = c at *
  clear h hbx
  go_enter Try.func11, Try.ntmps11
  go_upto_region 1 with (fail)
  rw [hw0.out]
  clear hw0
  generalize w.alloc (.cells p.cells 37) = W0 at *
  go_wp2_with (go_at_call 28; refine hrf.mono ?_; rintro e w1 ⟨rfl, hb1⟩; have hb1' := Lib.hid (hb0.out.trans (hb1.mono hb0.out.size)); clear hb1)
  go_ret
  exact ⟨rfl, hb1'.out⟩
set_option maxHeartbeats 4000000 in
theorem put_yes (h : WyAt w hb S y L) (p : Pc) (hl : (L.length + 1) * 64 ≤ 140737488355328) (hc : putC y L.length p = 0) : Calls Try.prog 11 #[.pointer (some ⟨hb, 0, none⟩), p.val] w fun e w' => e = .returned (.int .i64 0) ∧ Hid (∃ S', WyAt w' hb S' y (L ++ [p]) ∧ CStep w w' S S') := by
  have mixed := mixed
  obtain ⟨v, h⟩ := h
  have hbx : Hid (BoxP (w.alloc (.cells p.cells 37)) w.heap.size p) := BoxP.mk w p
  have hb0 : Hid (Below w.heap.size w (w.alloc (.cells p.cells 37))) := (Below.refl _ w).alloc (Nat.le_refl _) _
  have hrf := refusal_any (h.below hb0.out) p (by omega)
  obtain ⟨x0, x1, x2, x3, x4, x5, x6, x7⟩ := hbx.out.at
  simp only [Nat.zero_add] at x0 x1 x2 x3 x4 x5 x6 x7
  have hw0 : Hid (w.alloc (.cells #[.int .i64 p.m.k.t, .int .i64 p.m.k.f, .int .i64 p.m.k.s, .int .i64 p.m.to, .int .i64 p.m.v, .int .i64 p.m.u, .bool p.m.anti, .int .i64 p.c] 37) = w.alloc (.cells p.cells 37)) := rfl
  rw [hc] at hrf
  unfold Pc.val at hrf ⊢
  have hX' := Lib.hid h
  clear hc h
  go_enter Try.func11, Try.ntmps11
  go_upto_region 1 with (fail)
  rw [hw0.out]
  clear hw0
  generalize w.alloc (.cells p.cells 37) = W0 at *
  go_upto_region 4 with (go_at_call 28; refine hrf.mono ?_; rintro e w1 ⟨rfl, hb1⟩; have hb01 := Lib.hid hb1; have hb1' := Lib.hid (hb0.out.trans (hb1.mono hb0.out.size)); clear hb1)
  have hX1 := Lib.hid (hX'.out.below hb1'.out)
  have hbx1 := Lib.hid (hbx.out.below hb01.out)
  have hBv : ∀ k, v.ownBlock = some k → k < w.heap.size := fun k e => hX'.out.lt k (hX'.out.owns k e)
  have hcv : Hid (∀ w', KeptOff (fun k => v.ownBlock = some k) w1 w' → w'.cell? ⟨hb, 4, none⟩ = some v) := Lib.hid (fun w' h => cell_of_block ((h.block hb (hX1.out.lt hb hX1.out.own) (fun e => hX1.out.ne e rfl)).trans hX1.out.row) rfl)
  have hfv : Hid (∀ w', KeptOff (fun k => v.ownBlock = some k) w1 w' → w'.frozen? ⟨hb, 4, none⟩ = false) := Lib.hid (fun w' h => frozen_of_cells ((h.block hb (hX1.out.lt hb hX1.out.own) (fun e => hX1.out.ne e rfl)).trans hX1.out.row))
  have hbr : Hid (∀ w', KeptOff (fun k => v.ownBlock = some k) w1 w' → w'.rangeAt w.heap.size 0 (encP p)) := Lib.hid (fun w' h => (hbx1.out.kept h (fun e => by have := hBv _ e; omega)).range)
  have hlv : Hid (∀ w', Below w1.heap.size w1 w' → RowAt w' 37 8 v L.length (flatP L)) := Lib.hid (fun w' h => RowAt.kept (S := fun _ => False) hX1.out.list (.of_below h) (fun _ _ e => e))
  obtain ⟨i0, hi0, hz0, hz1, hz2⟩ := info_parts infoP
  clear x0 x1 x2 x3 x4 x5 x6 x7 hrf hBv hbx hbx1
  refine wp_region_Z (fun w' => KeptOff (fun k => v.ownBlock = some k) w1 w') 10 (by kernel_rfl) ?_
  have hHd : KeptOff (fun k => v.ownBlock = some k) w1 w1.drew := ⟨rfl, rfl, rfl, Nat.le_refl _, fun _ _ _ => rfl⟩
  refine wpAnyZ_take (i := 0) (oi := { dst := some 12, op := Op.move (Operand.tmp 0), type := 25, pos := "link.go:97", after := #[], guard := none }) (v := ?zv0_1) rfl (by kernel_rfl) (by kernel_rfl) (by kernel_rfl) (fun _ _ _ h => h) (by decide) (Or.inl ⟨by rfl, ?zy0_1⟩) (fun _ => hHd) ?zrest0_1
  case zy0_1 =>
    intro w _
    go_simp
    try with_reducible rfl
  try simp only [Act.put, List.setIfInBounds_toArray, List.set_cons_zero, List.set_cons_succ]
  refine wpAnyZ_take (i := 1) (oi := { dst := some 13, op := Op.move (Operand.tmp 0), type := 25, pos := "link.go:97", after := #[], guard := none }) (v := ?zv1_2) rfl (by kernel_rfl) (by kernel_rfl) (by kernel_rfl) (fun _ _ _ h => h) (by decide) (Or.inl ⟨by rfl, ?zy1_2⟩) (fun _ => hHd) ?zrest1_2
  case zy1_2 =>
    intro w _
    go_simp
    try with_reducible rfl
  try simp only [Act.put, List.setIfInBounds_toArray, List.set_cons_zero, List.set_cons_succ]
  refine wpAnyZ_take (i := 2) (oi := { dst := some 14, op := Op.nilCheck (Operand.tmp 13), type := 0, pos := "link.go:97", after := #[{ on := 1, ground := Ground.data }], guard := none }) (v := ?zv2_3) rfl (by kernel_rfl) (by kernel_rfl) (by kernel_rfl) (fun _ _ _ h => h) (by decide) (Or.inl ⟨by rfl, ?zy2_3⟩) (fun _ => hHd) ?zrest2_3
  case zy2_3 =>
    intro w _
    go_simp
    try with_reducible rfl
  try simp only [Act.put, List.setIfInBounds_toArray, List.set_cons_zero, List.set_cons_succ]
  refine wpAnyZ_take (i := 3) (oi := { dst := some 15, op := Op.fieldAddr 66 (Operand.tmp 14) 4, type := 0, pos := "link.go:97", after := #[{ on := 2, ground := Ground.data }], guard := none }) (v := ?zv3_4) rfl (by kernel_rfl) (by kernel_rfl) (by kernel_rfl) (fun _ _ _ h => h) (by decide) (Or.inl ⟨by rfl, ?zy3_4⟩) (fun _ => hHd) ?zrest3_4
  case zy3_4 =>
    intro w _
    go_simp
    try with_reducible rfl
  try simp only [Act.put, List.setIfInBounds_toArray, List.set_cons_zero, List.set_cons_succ]
  refine wpAnyZ_load (i := 4) (oi := { dst := some 16, op := Op.load 48 (Operand.tmp 15), type := 48, pos := "link.go:97", after := #[{ on := 3, ground := Ground.data }], guard := none }) (v := ?zv4_5) rfl (by kernel_rfl) (by kernel_rfl) (by kernel_rfl) (fun _ _ _ h => h) (by decide) (by kernel_rfl) (by kernel_rfl) (Or.inl ⟨by rfl, ?zy4_5⟩) hHd ?zrest4_5
  case zy4_5 =>
    intro w hSw
    have c := hcv.out w hSw
    go_simp
    try with_reducible rfl
  try simp only [Act.put, List.setIfInBounds_toArray, List.set_cons_zero, List.set_cons_succ]
  refine wpAnyZ_load (i := 5) (oi := { dst := some 17, op := Op.load 37 (Operand.tmp 3), type := 37, pos := "link.go:97", after := #[], guard := none }) (v := .agg (encP p).toArray) rfl (by kernel_rfl) (by kernel_rfl) (by kernel_rfl) (fun _ _ _ h => h) (by decide) (by kernel_rfl) (by kernel_rfl) (yieldsIf_load_mid (by rfl) 37 (.tmp 3) (by rfl) w.heap.size 0 (by rfl) (encP p) _ (fun w' h => hbr.out w' h) Try.underlying37 rfl infoPs) hHd ?_
  try simp only [Act.put, List.setIfInBounds_toArray, List.set_cons_zero, List.set_cons_succ]
  have hHa := hHd.trans (KeptOff.of_below (S := fun k => v.ownBlock = some k) ((Below.refl _ w1.drew).alloc (Nat.le_refl _) (.cells (encP p).toArray 37)))
  have hna := heap_alloc_new w1.drew (.cells (encP p).toArray 37)
  refine wpAnyZ_ready (rs := [6]) (by kernel_rfl) (by simp) ?_
  refine AllReadyZ.cons (o := { dst := some 18, op := Op.buildSlice 48 1 #[(0, Operand.tmp 17)], type := 48, pos := "link.go:97", after := #[{ on := 5, ground := Ground.data }], guard := none }) rfl (fun K hK => ?_) AllReadyZ.nil
  refine step_buildSlice (by rfl) 48 1 #[(0, .tmp 17)] (by rfl) #[(0, .agg (encP p).toArray)] (by simp only [List.map_toArray, List.map_cons, List.map_nil]; rfl) (lit_parcel p w1.drew) ?_
  refine hK.out _ _ (fun _ => hHa) ?_
  clear hK K
  try simp only [Act.put, List.setIfInBounds_toArray, List.set_cons_zero, List.set_cons_succ]
  have hav := hlv.out _ (((Below.refl _ w1).drew).alloc (by simp) (.cells (encP p).toArray 37))
  refine wpAnyZ_ready (rs := [7]) (by kernel_rfl) (by simp) ?_
  refine AllReadyZ.cons (o := { dst := some 19, op := Op.call { callee := Callee.builtin Builtin.append, args := #[Operand.tmp 16, Operand.tmp 18], argTypes := #[48, 48] }, type := 48, pos := "link.go:97", after := #[{ on := 4, ground := Ground.data }, { on := 6, ground := Ground.data }], guard := none }) rfl (fun K hK => ?_) AllReadyZ.nil
  refine step_append_row (by rfl) (.tmp 16) (.tmp 18) 48 (by rfl) hav i0 _ 64 Try.underlying48 hi0 hz0 hz1 hz2 rfl (by omega) (by rfl) ⟨w1.drew.heap.size, 0, none⟩ 1 (encP p) (by rfl) (by rfl) (fun j u hj => news_of hna j u hj) (encP_one p) (by unfold maxLen; omega) (by omega) ?_
  intro g2 off2 cap2 w4 hR hk hn
  refine hK.out _ _ (fun _ => (hHa.trans hk.out)) ?_
  clear hK K
  try simp only [Act.put, List.setIfInBounds_toArray, List.set_cons_zero, List.set_cons_succ]
  have hHb := hHa.trans hk.out
  have hfz := hfv.out _ hHb
  have hcb := hcv.out _ hHb
  refine wpAnyZ_take (i := 8) (oi := { dst := some 20, op := Op.nilCheck (Operand.tmp 12), type := 0, pos := "link.go:97", after := #[{ on := 0, ground := Ground.data }, { on := 0, ground := Ground.phase }, { on := 1, ground := Ground.phase }, { on := 2, ground := Ground.phase }, { on := 3, ground := Ground.phase }, { on := 4, ground := Ground.phase }, { on := 5, ground := Ground.phase }, { on := 6, ground := Ground.phase }, { on := 7, ground := Ground.phase }], guard := none }) (v := ?zv8_6) rfl (by kernel_rfl) (by kernel_rfl) (by kernel_rfl) (fun _ _ _ h => h) (by decide) (Or.inl ⟨by rfl, ?zy8_6⟩) (fun _ => hHb) ?zrest8_6
  case zy8_6 =>
    intro w _
    go_simp
    try with_reducible rfl
  try simp only [Act.put, List.setIfInBounds_toArray, List.set_cons_zero, List.set_cons_succ]
  refine wpAnyZ_take (i := 9) (oi := { dst := some 21, op := Op.fieldAddr 66 (Operand.tmp 20) 4, type := 0, pos := "link.go:97", after := #[{ on := 8, ground := Ground.data }, { on := 0, ground := Ground.phase }, { on := 1, ground := Ground.phase }, { on := 2, ground := Ground.phase }, { on := 3, ground := Ground.phase }, { on := 4, ground := Ground.phase }, { on := 5, ground := Ground.phase }, { on := 6, ground := Ground.phase }, { on := 7, ground := Ground.phase }], guard := none }) (v := ?zv9_7) rfl (by kernel_rfl) (by kernel_rfl) (by kernel_rfl) (fun _ _ _ h => h) (by decide) (Or.inl ⟨by rfl, ?zy9_7⟩) (fun _ => hHb) ?zrest9_7
  case zy9_7 =>
    intro w _
    go_simp
    try with_reducible rfl
  try simp only [Act.put, List.setIfInBounds_toArray, List.set_cons_zero, List.set_cons_succ]
  refine wpAnyZ_ready (rs := [10]) (by kernel_rfl) (by simp) ?_
  refine AllReadyZ.cons (o := { dst := none, op := Op.store 48 (Operand.tmp 21) (Operand.tmp 19), type := 0, pos := "link.go:97", after := #[{ on := 9, ground := Ground.data }, { on := 7, ground := Ground.data }, { on := 7, ground := Ground.chain }, { on := 0, ground := Ground.phase }, { on := 1, ground := Ground.phase }, { on := 2, ground := Ground.phase }, { on := 3, ground := Ground.phase }, { on := 4, ground := Ground.phase }, { on := 5, ground := Ground.phase }, { on := 6, ground := Ground.phase }, { on := 7, ground := Ground.phase }], guard := none }) rfl (fun K hK => ?_) AllReadyZ.nil
  go_simp
  refine hK.out _ _ (fun h => absurd h (by decide)) ?_
  clear hK K
  try simp only [Act.put, List.setIfInBounds_toArray, List.set_cons_zero, List.set_cons_succ]
  refine wpAnyZ_done (by kernel_rfl) ?_ _
  have hfin := hX1.out.more hR.out hHb hn.out (by simp)
  have hfin' := Lib.hid hfin
  clear hfin hcb hfz hcv hfv hbr hlv hHa hna hav hHd hHb hk
  go_wp2
  go_ret
  refine ⟨rfl, ?_⟩
  obtain ⟨S', h1, h2⟩ := hfin'.out
  exact ⟨S', h1, (CStep.of_below hb1'.out).trans h2⟩
end
end Go.Proofs.Ytjbammgnkegecaa
