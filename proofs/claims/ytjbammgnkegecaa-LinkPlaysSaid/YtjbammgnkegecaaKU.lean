/-
  The document's own way: Put.
-/
import Derived.Test.YtjbammgnkegecaaKT
namespace Go.Proofs.Ytjbammgnkegecaa
open Go.ChangeShapes Go.WideShapes Go.ChangeAt Go.Shelf Go.RowKit Go.Lib Go.Sort Go.Deep
set_option linter.unusedVariables false
set_option maxRecDepth 4000
set_option linter.unusedSimpArgs false

/-- One more at the end: the document's way behind it. -/
theorem DyOf.more {w1 w4 : World} {hb : Nat} {S : Nat → Prop} {y : Wy} {lk : Int} {v : Value} {L : List Pc} {p : Pc} (h : DyOf w1 hb S y lk v L) {g off cap : Nat} {wa : World} (hR : RowIn w4 37 8 g off (L.length + 1) cap (flatP L ++ encP p)) (hk : KeptOff (fun k => v.ownBlock = some k) w1 w4)
    (hn : v.ownBlock = some g ∨ wa.heap.size ≤ g) (hwa : w1.heap.size ≤ wa.heap.size) : ∃ S', DyAt (w4.setCell ⟨hb, 5, none⟩ (.slice (some ⟨g, off, none⟩) (L.length + 1) cap)) hb S' y (L ++ [p]) ∧ CStep w1 (w4.setCell ⟨hb, 5, none⟩ (.slice (some ⟨g, off, none⟩) (L.length + 1) cap)) S S' := by
  have hrow4 : w4.heap[hb]? = some (.cells #[.int .i64 y.fr, .int .i64 y.to, .int .i64 lk, .bool y.loose, .int .i64 y.most, v] 50 (0, 0)) := (hk.block hb (h.lt hb h.own) (fun e => h.ne e rfl)).trans h.row
  have hks := KeptOff.set w4 ⟨hb, 5, none⟩ (.slice (some ⟨g, off, none⟩) (L.length + 1) cap)
  have hkk : KeptOff S w1 (w4.setCell ⟨hb, 5, none⟩ (.slice (some ⟨g, off, none⟩) (L.length + 1) cap)) := (hk.mono (fun k _ e => h.owns k e)).trans (hks.mono (fun k _ e => by rw [e]; exact h.own))
  have hg : S g ∨ w1.heap.size ≤ g := hn.elim (fun e => .inl (h.owns g e)) (fun e => .inr (by omega))
  have hgb : g ≠ hb := by
    rcases hn with e | e
    · exact h.ne e
    · have := h.lt hb h.own; omega
  refine ⟨fun k => S k ∨ k = g, ⟨lk, .slice (some ⟨g, off, none⟩) (L.length + 1) cap, ⟨?_, ?_, h.ok, .inl h.own, fun k (e : Value.ownBlock _ = some k) => ?_, fun k e => ?_⟩⟩, hkk, fun k e => ?_⟩
  · unfold DyRow
    simp [World.setCell, Array.getElem?_modify, hrow4]
  · refine .inr ⟨g, off, cap, by simp, ?_⟩
    rw [flatP_append, flatP_single, List.length_append]
    exact RowIn.kept hR hks hgb
  · simp [Value.ownBlock] at e
    exact .inr e.symm
  · rcases e with e | rfl
    · exact Nat.lt_of_lt_of_le (h.lt k e) hkk.size
    · exact Nat.lt_of_lt_of_le (RowIn.lt hR) hks.size
  · rcases e with e | rfl
    · exact .inl e
    · exact hg
section
variable {w : World} {hb : Nat} {S : Nat → Prop} {y : Wy} {L : List Pc}
set_option maxHeartbeats 16000000 in
theorem rlPut_any (h : DyAt w hb S y L) (p : Pc) (hl : (L.length + 1) * 64 ≤ 140737488355328) : Calls Try.prog 12 #[.pointer (some ⟨hb, 0, none⟩), p.val] w fun e w' => e = .returned (.int .i64 (putC y L.length p)) ∧ Hid (∃ S', DyAt w' hb S' y (putL y L p) ∧ CStep w w' S S') := by
  have mixed := mixed
  obtain ⟨lk, v, h⟩ := h
  obtain ⟨i0, hi0, hz0, hz1, hz2⟩ := info_parts infoP
  have hbx : Hid (BoxP (w.alloc (.cells p.cells 37)) w.heap.size p) := BoxP.mk w p
  have hb0 : Hid (Below w.heap.size w (w.alloc (.cells p.cells 37))) := (Below.refl _ w).alloc (Nat.le_refl _) _
  have hX' := Lib.hid h
  obtain ⟨va, vc, hv, hvc⟩ := h.shape
  have hv' := Lib.hid hv
  have hBv : Hid (∀ k, v.ownBlock = some k → k < w.heap.size) := fun k e => h.lt k (h.owns k e)
  have hck := fun w => rCheck_any p.m w
  have ho := h.ok
  obtain ⟨ho1, ho2⟩ := ho
  have hR : Hid (putC y L.length p = if chkM p.m ≠ 0 ∨ p.m.k.f ≠ y.fr ∨ p.m.to ≠ y.to then 1 else if p.m.anti = false ∧ y.most ≤ (L.length : Int) then 9 else 0) := rfl
  have hstay : Hid (∀ w', putC y L.length p ≠ 0 → Below w.heap.size w w' → ∃ S', DyAt w' hb S' y (putL y L p) ∧ CStep w w' S S') := fun w' hc hbw => ⟨S, by unfold putL; rw [if_neg hc]; exact ⟨lk, v, h.below hbw⟩, CStep.of_below hbw⟩
  have hgrow : Hid (putC y L.length p = 0 → putL y L p = L ++ [p]) := fun hc => by unfold putL; rw [if_pos hc]
  obtain ⟨r, hr⟩ : ∃ r, r = putC y L.length p := ⟨_, rfl⟩
  rw [← hr] at hR hstay hgrow ⊢
  clear hr h hv
  have hw0 : Hid (w.alloc (.cells #[.int .i64 p.m.k.t, .int .i64 p.m.k.f, .int .i64 p.m.k.s, .int .i64 p.m.to, .int .i64 p.m.v, .int .i64 p.m.u, .bool p.m.anti, .int .i64 p.c] 37) = w.alloc (.cells p.cells 37)) := rfl
  simp only [M.val] at hck
  unfold Pc.val
  obtain ⟨⟨⟨t, f, s⟩, tt, vv, u, an⟩, c⟩ := p
  obtain ⟨fr, yt, most, lo⟩ := y
  dsimp only at hck hw0 hR ho1 ho2 ⊢
  go_enter Try.func12, Try.ntmps12
  go_upto_region 1 with (fail)
  rw [hw0.out]
  clear hw0
  have hd1 : Hid (∀ w1, Below (w.alloc (.cells (Pc.cells ⟨⟨⟨t, f, s⟩, tt, vv, u, an⟩, c⟩) 37)).heap.size (w.alloc (.cells (Pc.cells ⟨⟨⟨t, f, s⟩, tt, vv, u, an⟩, c⟩) 37)) w1 → (w1.cell? ⟨w.heap.size, 0, none⟩ = some (.int .i64 t) ∧ w1.cell? ⟨w.heap.size, 1, none⟩ = some (.int .i64 f) ∧ w1.cell? ⟨w.heap.size, 2, none⟩ = some (.int .i64 s) ∧ w1.cell? ⟨w.heap.size, 3, none⟩ = some (.int .i64 tt) ∧ w1.cell? ⟨w.heap.size, 4, none⟩ = some (.int .i64 vv) ∧ w1.cell? ⟨w.heap.size, 5, none⟩ = some (.int .i64 u) ∧ w1.cell? ⟨w.heap.size, 6, none⟩ = some (.bool an) ∧ w1.cell? ⟨hb, 0, none⟩ = some (.int .i64 fr) ∧ w1.cell? ⟨hb, 1, none⟩ = some (.int .i64 yt)) ∧
      (w1.cell? ⟨w.heap.size, 6, none⟩ = some (.bool an) ∧ w1.cell? ⟨hb, 4, none⟩ = some (.int .i64 most) ∧ w1.cell? ⟨hb, 5, none⟩ = some (.slice va L.length vc)) ∧ Below w.heap.size w w1) := Lib.hid (fun w1 hb1 => by
    have hbb := hb0.out.trans (hb1.mono hb0.out.size)
    have hy := hX'.out.below hbb
    obtain ⟨q0, q1, q2, q3, q4, q5, q6, -⟩ := (hbx.out.below hb1).at
    simp only [Nat.zero_add] at q0 q1 q2 q3 q4 q5 q6
    have c5 := hy.c5
    rw [hv'.out] at c5
    exact ⟨⟨q0, q1, q2, q3, q4, q5, q6, hy.c0, hy.c1⟩, ⟨q6, hy.c4, c5⟩, hbb⟩)
  generalize hW0 : w.alloc (.cells (Pc.cells ⟨⟨⟨t, f, s⟩, tt, vv, u, an⟩, c⟩) 37) = W0 at *
  have hW0' := Lib.hid hW0
  clear hW0
  have hA := (hd1.out W0.drew (Below.refl _ W0).drew).1
  by_cases h1 : chkM ⟨⟨t, f, s⟩, tt, vv, u, an⟩ = 0
  · rw [h1] at hck hR
    by_cases h2 : f = fr
    · subst h2
      by_cases h3 : tt = yt
      · subst h3
        cases an with
        | true =>
          obtain rfl : r = 0 := by have := hR.out; simp at this; exact this
          go_region_held3 (fun w' => w'.cell? ⟨w.heap.size, 0, none⟩ = some (.int .i64 t) ∧ w'.cell? ⟨w.heap.size, 1, none⟩ = some (.int .i64 f) ∧ w'.cell? ⟨w.heap.size, 2, none⟩ = some (.int .i64 s) ∧ w'.cell? ⟨w.heap.size, 3, none⟩ = some (.int .i64 tt) ∧ w'.cell? ⟨w.heap.size, 4, none⟩ = some (.int .i64 vv) ∧ w'.cell? ⟨w.heap.size, 5, none⟩ = some (.int .i64 u) ∧ w'.cell? ⟨w.heap.size, 6, none⟩ = some (.bool true) ∧ w'.cell? ⟨hb, 0, none⟩ = some (.int .i64 f) ∧ w'.cell? ⟨hb, 1, none⟩ = some (.int .i64 tt)) (first | exact hA | exact hA1) (first | (go_at_call 29; (with_reducible refine (hck _).mono ?_); rintro e w1 ⟨rfl, hr1⟩; have hb01 := Lib.hid (((Below.refl _ W0).drew).trans (hr1.below.mono (Nat.le_refl _))); have hA1 := (hd1.out w1 hb01.out).1; clear hr1))
          have hB := (hd1.out w1.drew hb01.out.drew).2.1.1
          clear hA1
          go_upto_region 3 with (fail)
          refine wp_region_held_drew (S := fun w' => w'.cell? ⟨w.heap.size, 6, none⟩ = some (.bool true)) (by kernel_rfl) hB (fun hHeld => ?_)
          clear hHeld
          refine wpAnyH_take (i := 0) (oi := { dst := some 32, op := Op.fieldAddr 37 (Operand.tmp 3) 0, type := 0, pos := "ref.go:35", after := #[], guard := none }) (v := ?vv0_1) rfl (by kernel_rfl) (by kernel_rfl) (by kernel_rfl) (fun _ _ _ h => h) (Or.inl ⟨by rfl, ?hy0_1⟩) hB ?rest0_1
          case hy0_1 =>
            intro w hSw
            go_simp
            try with_reducible rfl
          try simp only [Act.put, List.setIfInBounds_toArray, List.set_cons_zero, List.set_cons_succ]
          refine wpAnyH_take (i := 1) (oi := { dst := some 33, op := Op.fieldAddr 35 (Operand.tmp 32) 4, type := 0, pos := "ref.go:35", after := #[{ on := 0, ground := Ground.data }], guard := none }) (v := ?vv1_2) rfl (by kernel_rfl) (by kernel_rfl) (by kernel_rfl) (fun _ _ _ h => h) (Or.inl ⟨by rfl, ?hy1_2⟩) hB ?rest1_2
          case hy1_2 =>
            intro w hSw
            go_simp
            try with_reducible rfl
          try simp only [Act.put, List.setIfInBounds_toArray, List.set_cons_zero, List.set_cons_succ]
          refine wpAnyH_take (i := 2) (oi := { dst := some 34, op := Op.load 4 (Operand.tmp 33), type := 4, pos := "ref.go:35", after := #[{ on := 1, ground := Ground.data }], guard := none }) (v := ?vv2_3) rfl (by kernel_rfl) (by kernel_rfl) (by kernel_rfl) (fun _ _ _ h => h) (Or.inl ⟨by rfl, ?hy2_3⟩) hB ?rest2_3
          case hy2_3 =>
            intro w hSw
            have c := hSw
            go_simp
            try with_reducible rfl
          try simp only [Act.put, List.setIfInBounds_toArray, List.set_cons_zero, List.set_cons_succ]
          refine wpAnyH_take (i := 3) (oi := { dst := some 35, op := Op.unOp UnOp.not 4 (Operand.tmp 34), type := 4, pos := "ref.go:35", after := #[{ on := 2, ground := Ground.data }], guard := none }) (v := ?vv3_4) rfl (by kernel_rfl) (by kernel_rfl) (by kernel_rfl) (fun _ _ _ h => h) (Or.inl ⟨by rfl, ?hy3_4⟩) hB ?rest3_4
          case hy3_4 =>
            intro w hSw
            go_simp
            try with_reducible rfl
          try simp only [Act.put, List.setIfInBounds_toArray, List.set_cons_zero, List.set_cons_succ]
          refine wpAnyH_take (i := 4) (oi := { dst := some 36, op := Op.move (Operand.tmp 35), type := 4, pos := "ref.go:35", after := #[{ on := 3, ground := Ground.data }], guard := none }) (v := ?vv4_5) rfl (by kernel_rfl) (by kernel_rfl) (by kernel_rfl) (fun _ _ _ h => h) (Or.inl ⟨by rfl, ?hy4_5⟩) hB ?rest4_5
          case hy4_5 =>
            intro w hSw
            go_simp
            try with_reducible rfl
          try simp only [Act.put, List.setIfInBounds_toArray, List.set_cons_zero, List.set_cons_succ]
          refine wpAnyH_take (i := 5) (oi := { dst := some 37, op := Op.move (Operand.tmp 0), type := 29, pos := "ref.go:35", after := #[{ on := 4, ground := Ground.guard }], guard := some (4, true) }) (v := undef) rfl (by kernel_rfl) (by kernel_rfl) (by kernel_rfl) (fun _ _ _ h => h) (Or.inr ⟨by rfl, rfl⟩) hB ?_
          try simp only [Act.put, List.setIfInBounds_toArray, List.set_cons_zero, List.set_cons_succ]
          refine wpAnyH_take (i := 6) (oi := { dst := some 38, op := Op.nilCheck (Operand.tmp 37), type := 0, pos := "ref.go:35", after := #[{ on := 5, ground := Ground.data }, { on := 4, ground := Ground.guard }], guard := some (4, true) }) (v := undef) rfl (by kernel_rfl) (by kernel_rfl) (by kernel_rfl) (fun _ _ _ h => h) (Or.inr ⟨by rfl, rfl⟩) hB ?_
          try simp only [Act.put, List.setIfInBounds_toArray, List.set_cons_zero, List.set_cons_succ]
          refine wpAnyH_take (i := 7) (oi := { dst := some 39, op := Op.fieldAddr 50 (Operand.tmp 38) 2, type := 0, pos := "ref.go:35", after := #[{ on := 6, ground := Ground.data }, { on := 4, ground := Ground.guard }], guard := some (4, true) }) (v := undef) rfl (by kernel_rfl) (by kernel_rfl) (by kernel_rfl) (fun _ _ _ h => h) (Or.inr ⟨by rfl, rfl⟩) hB ?_
          try simp only [Act.put, List.setIfInBounds_toArray, List.set_cons_zero, List.set_cons_succ]
          refine wpAnyH_take (i := 8) (oi := { dst := some 40, op := Op.load 48 (Operand.tmp 39), type := 48, pos := "ref.go:35", after := #[{ on := 7, ground := Ground.data }, { on := 4, ground := Ground.guard }], guard := some (4, true) }) (v := undef) rfl (by kernel_rfl) (by kernel_rfl) (by kernel_rfl) (fun _ _ _ h => h) (Or.inr ⟨by rfl, rfl⟩) hB ?_
          try simp only [Act.put, List.setIfInBounds_toArray, List.set_cons_zero, List.set_cons_succ]
          refine wpAnyH_take (i := 9) (oi := { dst := some 41, op := Op.call { callee := Callee.builtin Builtin.len, args := #[Operand.tmp 40], argTypes := #[48] }, type := 3, pos := "ref.go:35", after := #[{ on := 8, ground := Ground.data }, { on := 4, ground := Ground.guard }], guard := some (4, true) }) (v := undef) rfl (by kernel_rfl) (by kernel_rfl) (by kernel_rfl) (fun _ _ _ h => h) (Or.inr ⟨by rfl, rfl⟩) hB ?_
          try simp only [Act.put, List.setIfInBounds_toArray, List.set_cons_zero, List.set_cons_succ]
          refine wpAnyH_take (i := 10) (oi := { dst := some 42, op := Op.move (Operand.tmp 0), type := 29, pos := "ref.go:35", after := #[{ on := 4, ground := Ground.guard }], guard := some (4, true) }) (v := undef) rfl (by kernel_rfl) (by kernel_rfl) (by kernel_rfl) (fun _ _ _ h => h) (Or.inr ⟨by rfl, rfl⟩) hB ?_
          try simp only [Act.put, List.setIfInBounds_toArray, List.set_cons_zero, List.set_cons_succ]
          refine wpAnyH_take (i := 11) (oi := { dst := some 43, op := Op.nilCheck (Operand.tmp 42), type := 0, pos := "ref.go:35", after := #[{ on := 10, ground := Ground.data }, { on := 4, ground := Ground.guard }], guard := some (4, true) }) (v := undef) rfl (by kernel_rfl) (by kernel_rfl) (by kernel_rfl) (fun _ _ _ h => h) (Or.inr ⟨by rfl, rfl⟩) hB ?_
          try simp only [Act.put, List.setIfInBounds_toArray, List.set_cons_zero, List.set_cons_succ]
          refine wpAnyH_take (i := 12) (oi := { dst := some 44, op := Op.fieldAddr 50 (Operand.tmp 43) 1, type := 0, pos := "ref.go:35", after := #[{ on := 11, ground := Ground.data }, { on := 4, ground := Ground.guard }], guard := some (4, true) }) (v := undef) rfl (by kernel_rfl) (by kernel_rfl) (by kernel_rfl) (fun _ _ _ h => h) (Or.inr ⟨by rfl, rfl⟩) hB ?_
          try simp only [Act.put, List.setIfInBounds_toArray, List.set_cons_zero, List.set_cons_succ]
          refine wpAnyH_take (i := 13) (oi := { dst := some 45, op := Op.load 3 (Operand.tmp 44), type := 3, pos := "ref.go:35", after := #[{ on := 12, ground := Ground.data }, { on := 4, ground := Ground.guard }], guard := some (4, true) }) (v := undef) rfl (by kernel_rfl) (by kernel_rfl) (by kernel_rfl) (fun _ _ _ h => h) (Or.inr ⟨by rfl, rfl⟩) hB ?_
          try simp only [Act.put, List.setIfInBounds_toArray, List.set_cons_zero, List.set_cons_succ]
          refine wpAnyH_take (i := 14) (oi := { dst := some 46, op := Op.binOp BinOp.geq 3 (Operand.tmp 41) (Operand.tmp 45) 3, type := 4, pos := "ref.go:35", after := #[{ on := 9, ground := Ground.data }, { on := 13, ground := Ground.data }, { on := 4, ground := Ground.guard }], guard := some (4, true) }) (v := undef) rfl (by kernel_rfl) (by kernel_rfl) (by kernel_rfl) (fun _ _ _ h => h) (Or.inr ⟨by rfl, rfl⟩) hB ?_
          try simp only [Act.put, List.setIfInBounds_toArray, List.set_cons_zero, List.set_cons_succ]
          refine wpAnyH_take (i := 15) (oi := { dst := some 47, op := Op.pick (Operand.tmp 36) (Operand.tmp 46) (Operand.const (Value.bool false)), type := 4, pos := "ref.go:35", after := #[{ on := 4, ground := Ground.data }, { on := 14, ground := Ground.data }], guard := none }) (v := ?vv15_6) rfl (by kernel_rfl) (by kernel_rfl) (by kernel_rfl) (fun _ _ _ h => h) (Or.inl ⟨by rfl, ?hy15_6⟩) hB ?rest15_6
          case hy15_6 =>
            intro w hSw
            go_simp
            try with_reducible rfl
          try simp only [Act.put, List.setIfInBounds_toArray, List.set_cons_zero, List.set_cons_succ]
          refine wpAnyH_done (by kernel_rfl) ?_ _
          have hb1' := Lib.hid ((hd1.out w1.drew hb01.out.drew).2.2)
          have hX1 := Lib.hid (hX'.out.below hb1'.out)
          have hbx1 := Lib.hid (hbx.out.below hb01.out.drew)
          clear hB hd1
          generalize w1.drew = w1 at *
          have hcv : Hid (∀ w', KeptOff (fun k => v.ownBlock = some k) w1 w' → w'.cell? ⟨hb, 5, none⟩ = some v) := Lib.hid (fun w' h => cell_of_block ((h.block hb (hX1.out.lt hb hX1.out.own) (fun e => hX1.out.ne e rfl)).trans hX1.out.row) rfl)
          have hfv : Hid (∀ w', KeptOff (fun k => v.ownBlock = some k) w1 w' → w'.frozen? ⟨hb, 5, none⟩ = false) := Lib.hid (fun w' h => frozen_of_cells ((h.block hb (hX1.out.lt hb hX1.out.own) (fun e => hX1.out.ne e rfl)).trans hX1.out.row))
          have hbr : Hid (∀ w', KeptOff (fun k => v.ownBlock = some k) w1 w' → w'.rangeAt w.heap.size 0 (encP ⟨⟨⟨t, f, s⟩, tt, vv, u, true⟩, c⟩)) := Lib.hid (fun w' h => (hbx1.out.kept h (fun e => by have := hBv.out _ e; omega)).range)
          have hlv : Hid (∀ w', Below w1.heap.size w1 w' → RowAt w' 37 8 v L.length (flatP L)) := Lib.hid (fun w' h => RowAt.kept (S := fun _ => False) hX1.out.list (.of_below h) (fun _ _ e => e))
          clear hbx hbx1 hck
          go_upto_region 5 with (fail)
          refine wp_region_Z (fun w' => KeptOff (fun k => v.ownBlock = some k) w1 w') 10 (by kernel_rfl) ?_
          have hHd : KeptOff (fun k => v.ownBlock = some k) w1 w1.drew := ⟨rfl, rfl, rfl, Nat.le_refl _, fun _ _ _ => rfl⟩
          refine wpAnyZ_take (i := 0) (oi := { dst := some 48, op := Op.move (Operand.tmp 0), type := 29, pos := "ref.go:38", after := #[], guard := none }) (v := ?zv0_1) rfl (by kernel_rfl) (by kernel_rfl) (by kernel_rfl) (fun _ _ _ h => h) (by decide) (Or.inl ⟨by rfl, ?zy0_1⟩) (fun _ => hHd) ?zrest0_1
          case zy0_1 =>
            intro w _
            go_simp
            try with_reducible rfl
          try simp only [Act.put, List.setIfInBounds_toArray, List.set_cons_zero, List.set_cons_succ]
          refine wpAnyZ_take (i := 1) (oi := { dst := some 49, op := Op.move (Operand.tmp 0), type := 29, pos := "ref.go:38", after := #[], guard := none }) (v := ?zv1_2) rfl (by kernel_rfl) (by kernel_rfl) (by kernel_rfl) (fun _ _ _ h => h) (by decide) (Or.inl ⟨by rfl, ?zy1_2⟩) (fun _ => hHd) ?zrest1_2
          case zy1_2 =>
            intro w _
            go_simp
            try with_reducible rfl
          try simp only [Act.put, List.setIfInBounds_toArray, List.set_cons_zero, List.set_cons_succ]
          refine wpAnyZ_take (i := 2) (oi := { dst := some 50, op := Op.nilCheck (Operand.tmp 49), type := 0, pos := "ref.go:38", after := #[{ on := 1, ground := Ground.data }], guard := none }) (v := ?zv2_3) rfl (by kernel_rfl) (by kernel_rfl) (by kernel_rfl) (fun _ _ _ h => h) (by decide) (Or.inl ⟨by rfl, ?zy2_3⟩) (fun _ => hHd) ?zrest2_3
          case zy2_3 =>
            intro w _
            go_simp
            try with_reducible rfl
          try simp only [Act.put, List.setIfInBounds_toArray, List.set_cons_zero, List.set_cons_succ]
          refine wpAnyZ_take (i := 3) (oi := { dst := some 51, op := Op.fieldAddr 50 (Operand.tmp 50) 2, type := 0, pos := "ref.go:38", after := #[{ on := 2, ground := Ground.data }], guard := none }) (v := ?zv3_4) rfl (by kernel_rfl) (by kernel_rfl) (by kernel_rfl) (fun _ _ _ h => h) (by decide) (Or.inl ⟨by rfl, ?zy3_4⟩) (fun _ => hHd) ?zrest3_4
          case zy3_4 =>
            intro w _
            go_simp
            try with_reducible rfl
          try simp only [Act.put, List.setIfInBounds_toArray, List.set_cons_zero, List.set_cons_succ]
          refine wpAnyZ_load (i := 4) (oi := { dst := some 52, op := Op.load 48 (Operand.tmp 51), type := 48, pos := "ref.go:38", after := #[{ on := 3, ground := Ground.data }], guard := none }) (v := ?zv4_5) rfl (by kernel_rfl) (by kernel_rfl) (by kernel_rfl) (fun _ _ _ h => h) (by decide) (by kernel_rfl) (by kernel_rfl) (Or.inl ⟨by rfl, ?zy4_5⟩) hHd ?zrest4_5
          case zy4_5 =>
            intro w hSw
            have c := hcv.out w hSw
            go_simp
            try with_reducible rfl
          try simp only [Act.put, List.setIfInBounds_toArray, List.set_cons_zero, List.set_cons_succ]
          refine wpAnyZ_load (i := 5) (oi := { dst := some 53, op := Op.load 37 (Operand.tmp 3), type := 37, pos := "ref.go:38", after := #[], guard := none }) (v := .agg (encP ⟨⟨⟨t, f, s⟩, tt, vv, u, true⟩, c⟩).toArray) rfl (by kernel_rfl) (by kernel_rfl) (by kernel_rfl) (fun _ _ _ h => h) (by decide) (by kernel_rfl) (by kernel_rfl) (yieldsIf_load_mid (by rfl) 37 (.tmp 3) (by rfl) w.heap.size 0 (by rfl) (encP ⟨⟨⟨t, f, s⟩, tt, vv, u, true⟩, c⟩) _ (fun w' h => hbr.out w' h) Try.underlying37 rfl infoPs) hHd ?_
          try simp only [Act.put, List.setIfInBounds_toArray, List.set_cons_zero, List.set_cons_succ]
          have hHa := hHd.trans (KeptOff.of_below (S := fun k => v.ownBlock = some k) ((Below.refl _ w1.drew).alloc (Nat.le_refl _) (.cells (encP ⟨⟨⟨t, f, s⟩, tt, vv, u, true⟩, c⟩).toArray 37)))
          have hna := heap_alloc_new w1.drew (.cells (encP ⟨⟨⟨t, f, s⟩, tt, vv, u, true⟩, c⟩).toArray 37)
          refine wpAnyZ_ready (rs := [6]) (by kernel_rfl) (by simp) ?_
          refine AllReadyZ.cons (o := { dst := some 54, op := Op.buildSlice 48 1 #[(0, Operand.tmp 53)], type := 48, pos := "ref.go:38", after := #[{ on := 5, ground := Ground.data }], guard := none }) rfl (fun K hK => ?_) AllReadyZ.nil
          refine step_buildSlice (by rfl) 48 1 #[(0, .tmp 53)] (by rfl) #[(0, .agg (encP ⟨⟨⟨t, f, s⟩, tt, vv, u, true⟩, c⟩).toArray)] (by simp only [List.map_toArray, List.map_cons, List.map_nil]; rfl) (lit_parcel ⟨⟨⟨t, f, s⟩, tt, vv, u, true⟩, c⟩ w1.drew) ?_
          refine hK.out _ _ (fun _ => hHa) ?_
          clear hK K
          try simp only [Act.put, List.setIfInBounds_toArray, List.set_cons_zero, List.set_cons_succ]
          have hav := hlv.out _ (((Below.refl _ w1).drew).alloc (by simp) (.cells (encP ⟨⟨⟨t, f, s⟩, tt, vv, u, true⟩, c⟩).toArray 37))
          refine wpAnyZ_ready (rs := [7]) (by kernel_rfl) (by simp) ?_
          refine AllReadyZ.cons (o := { dst := some 55, op := Op.call { callee := Callee.builtin Builtin.append, args := #[Operand.tmp 52, Operand.tmp 54], argTypes := #[48, 48] }, type := 48, pos := "ref.go:38", after := #[{ on := 4, ground := Ground.data }, { on := 6, ground := Ground.data }], guard := none }) rfl (fun K hK => ?_) AllReadyZ.nil
          refine step_append_row (by rfl) (.tmp 52) (.tmp 54) 48 (by rfl) hav i0 _ 64 Try.underlying48 hi0 hz0 hz1 hz2 rfl (by omega) (by rfl) ⟨w1.drew.heap.size, 0, none⟩ 1 (encP ⟨⟨⟨t, f, s⟩, tt, vv, u, true⟩, c⟩) (by rfl) (by rfl) (fun j u hj => news_of hna j u hj) (encP_one ⟨⟨⟨t, f, s⟩, tt, vv, u, true⟩, c⟩) (by unfold maxLen; omega) (by omega) ?_
          intro g2 off2 cap2 w4 hR5 hk hn
          refine hK.out _ _ (fun _ => (hHa.trans hk.out)) ?_
          clear hK K
          try simp only [Act.put, List.setIfInBounds_toArray, List.set_cons_zero, List.set_cons_succ]
          have hHb := hHa.trans hk.out
          have hfz := hfv.out _ hHb
          have hcb := hcv.out _ hHb
          refine wpAnyZ_take (i := 8) (oi := { dst := some 56, op := Op.nilCheck (Operand.tmp 48), type := 0, pos := "ref.go:38", after := #[{ on := 0, ground := Ground.data }, { on := 0, ground := Ground.phase }, { on := 1, ground := Ground.phase }, { on := 2, ground := Ground.phase }, { on := 3, ground := Ground.phase }, { on := 4, ground := Ground.phase }, { on := 5, ground := Ground.phase }, { on := 6, ground := Ground.phase }, { on := 7, ground := Ground.phase }], guard := none }) (v := ?zv8_6) rfl (by kernel_rfl) (by kernel_rfl) (by kernel_rfl) (fun _ _ _ h => h) (by decide) (Or.inl ⟨by rfl, ?zy8_6⟩) (fun _ => hHb) ?zrest8_6
          case zy8_6 =>
            intro w _
            go_simp
            try with_reducible rfl
          try simp only [Act.put, List.setIfInBounds_toArray, List.set_cons_zero, List.set_cons_succ]
          refine wpAnyZ_take (i := 9) (oi := { dst := some 57, op := Op.fieldAddr 50 (Operand.tmp 56) 2, type := 0, pos := "ref.go:38", after := #[{ on := 8, ground := Ground.data }, { on := 0, ground := Ground.phase }, { on := 1, ground := Ground.phase }, { on := 2, ground := Ground.phase }, { on := 3, ground := Ground.phase }, { on := 4, ground := Ground.phase }, { on := 5, ground := Ground.phase }, { on := 6, ground := Ground.phase }, { on := 7, ground := Ground.phase }], guard := none }) (v := ?zv9_7) rfl (by kernel_rfl) (by kernel_rfl) (by kernel_rfl) (fun _ _ _ h => h) (by decide) (Or.inl ⟨by rfl, ?zy9_7⟩) (fun _ => hHb) ?zrest9_7
          case zy9_7 =>
            intro w _
            go_simp
            try with_reducible rfl
          try simp only [Act.put, List.setIfInBounds_toArray, List.set_cons_zero, List.set_cons_succ]
          refine wpAnyZ_ready (rs := [10]) (by kernel_rfl) (by simp) ?_
          refine AllReadyZ.cons (o := { dst := none, op := Op.store 48 (Operand.tmp 57) (Operand.tmp 55), type := 0, pos := "ref.go:38", after := #[{ on := 9, ground := Ground.data }, { on := 7, ground := Ground.data }, { on := 7, ground := Ground.chain }, { on := 0, ground := Ground.phase }, { on := 1, ground := Ground.phase }, { on := 2, ground := Ground.phase }, { on := 3, ground := Ground.phase }, { on := 4, ground := Ground.phase }, { on := 5, ground := Ground.phase }, { on := 6, ground := Ground.phase }, { on := 7, ground := Ground.phase }], guard := none }) rfl (fun K hK => ?_) AllReadyZ.nil
          go_simp
          refine hK.out _ _ (fun h => absurd h (by decide)) ?_
          clear hK K
          try simp only [Act.put, List.setIfInBounds_toArray, List.set_cons_zero, List.set_cons_succ]
          refine wpAnyZ_done (by kernel_rfl) ?_ _
          have hfin := hX1.out.more hR5.out hHb hn.out (by simp)
          have hfin' := Lib.hid hfin
          clear hfin hcb hfz hcv hfv hbr hlv hHa hna hav hHd hHb hk
          go_wp2
          go_ret
          refine ⟨rfl, ?_⟩
          obtain ⟨S', h1, h2⟩ := hfin'.out
          rw [hgrow.out (by trivial)]
          exact ⟨S', h1, (CStep.of_below hb1'.out).trans h2⟩
        | false =>
          by_cases h5 : most ≤ (L.length : Int)
          · obtain rfl : r = 9 := by have := hR.out; simp [h5] at this; exact this
            go_region_held3 (fun w' => w'.cell? ⟨w.heap.size, 0, none⟩ = some (.int .i64 t) ∧ w'.cell? ⟨w.heap.size, 1, none⟩ = some (.int .i64 f) ∧ w'.cell? ⟨w.heap.size, 2, none⟩ = some (.int .i64 s) ∧ w'.cell? ⟨w.heap.size, 3, none⟩ = some (.int .i64 tt) ∧ w'.cell? ⟨w.heap.size, 4, none⟩ = some (.int .i64 vv) ∧ w'.cell? ⟨w.heap.size, 5, none⟩ = some (.int .i64 u) ∧ w'.cell? ⟨w.heap.size, 6, none⟩ = some (.bool false) ∧ w'.cell? ⟨hb, 0, none⟩ = some (.int .i64 f) ∧ w'.cell? ⟨hb, 1, none⟩ = some (.int .i64 tt)) (first | exact hA | exact hA1) (first | (go_at_call 29; (with_reducible refine (hck _).mono ?_); rintro e w1 ⟨rfl, hr1⟩; have hb01 := Lib.hid (((Below.refl _ W0).drew).trans (hr1.below.mono (Nat.le_refl _))); have hA1 := (hd1.out w1 hb01.out).1; clear hr1))
            have hB := (hd1.out w1.drew hb01.out.drew).2.1
            clear hA1
            go_upto_region 3 with (fail)
            go_region_held3 (fun w' => w'.cell? ⟨w.heap.size, 6, none⟩ = some (.bool false) ∧ w'.cell? ⟨hb, 4, none⟩ = some (.int .i64 most) ∧ w'.cell? ⟨hb, 5, none⟩ = some (.slice va L.length vc)) (exact hB) (fail)
            have hbf := Lib.hid (hstay.out w1.drew (by decide) (hd1.out w1.drew hb01.out.drew).2.2)
            clear hd1 hB
            go_wp2
            go_ret
            exact ⟨rfl, hbf.out⟩
          · obtain rfl : r = 0 := by have := hR.out; simp [h5] at this; exact this
            go_region_held3 (fun w' => w'.cell? ⟨w.heap.size, 0, none⟩ = some (.int .i64 t) ∧ w'.cell? ⟨w.heap.size, 1, none⟩ = some (.int .i64 f) ∧ w'.cell? ⟨w.heap.size, 2, none⟩ = some (.int .i64 s) ∧ w'.cell? ⟨w.heap.size, 3, none⟩ = some (.int .i64 tt) ∧ w'.cell? ⟨w.heap.size, 4, none⟩ = some (.int .i64 vv) ∧ w'.cell? ⟨w.heap.size, 5, none⟩ = some (.int .i64 u) ∧ w'.cell? ⟨w.heap.size, 6, none⟩ = some (.bool false) ∧ w'.cell? ⟨hb, 0, none⟩ = some (.int .i64 f) ∧ w'.cell? ⟨hb, 1, none⟩ = some (.int .i64 tt)) (first | exact hA | exact hA1) (first | (go_at_call 29; (with_reducible refine (hck _).mono ?_); rintro e w1 ⟨rfl, hr1⟩; have hb01 := Lib.hid (((Below.refl _ W0).drew).trans (hr1.below.mono (Nat.le_refl _))); have hA1 := (hd1.out w1 hb01.out).1; clear hr1))
            have hB := (hd1.out w1.drew hb01.out.drew).2.1
            clear hA1
            go_upto_region 3 with (fail)
            go_region_held3 (fun w' => w'.cell? ⟨w.heap.size, 6, none⟩ = some (.bool false) ∧ w'.cell? ⟨hb, 4, none⟩ = some (.int .i64 most) ∧ w'.cell? ⟨hb, 5, none⟩ = some (.slice va L.length vc)) (exact hB) (fail)
            have hb1' := Lib.hid ((hd1.out w1.drew hb01.out.drew).2.2)
            have hX1 := Lib.hid (hX'.out.below hb1'.out)
            have hbx1 := Lib.hid (hbx.out.below hb01.out.drew)
            clear hB hd1
            generalize w1.drew = w1 at *
            have hcv : Hid (∀ w', KeptOff (fun k => v.ownBlock = some k) w1 w' → w'.cell? ⟨hb, 5, none⟩ = some v) := Lib.hid (fun w' h => cell_of_block ((h.block hb (hX1.out.lt hb hX1.out.own) (fun e => hX1.out.ne e rfl)).trans hX1.out.row) rfl)
            have hfv : Hid (∀ w', KeptOff (fun k => v.ownBlock = some k) w1 w' → w'.frozen? ⟨hb, 5, none⟩ = false) := Lib.hid (fun w' h => frozen_of_cells ((h.block hb (hX1.out.lt hb hX1.out.own) (fun e => hX1.out.ne e rfl)).trans hX1.out.row))
            have hbr : Hid (∀ w', KeptOff (fun k => v.ownBlock = some k) w1 w' → w'.rangeAt w.heap.size 0 (encP ⟨⟨⟨t, f, s⟩, tt, vv, u, false⟩, c⟩)) := Lib.hid (fun w' h => (hbx1.out.kept h (fun e => by have := hBv.out _ e; omega)).range)
            have hlv : Hid (∀ w', Below w1.heap.size w1 w' → RowAt w' 37 8 v L.length (flatP L)) := Lib.hid (fun w' h => RowAt.kept (S := fun _ => False) hX1.out.list (.of_below h) (fun _ _ e => e))
            clear hbx hbx1 hck
            go_upto_region 5 with (fail)
            refine wp_region_Z (fun w' => KeptOff (fun k => v.ownBlock = some k) w1 w') 10 (by kernel_rfl) ?_
            have hHd : KeptOff (fun k => v.ownBlock = some k) w1 w1.drew := ⟨rfl, rfl, rfl, Nat.le_refl _, fun _ _ _ => rfl⟩
            refine wpAnyZ_take (i := 0) (oi := { dst := some 48, op := Op.move (Operand.tmp 0), type := 29, pos := "ref.go:38", after := #[], guard := none }) (v := ?zv0_8) rfl (by kernel_rfl) (by kernel_rfl) (by kernel_rfl) (fun _ _ _ h => h) (by decide) (Or.inl ⟨by rfl, ?zy0_8⟩) (fun _ => hHd) ?zrest0_8
            case zy0_8 =>
              intro w _
              go_simp
              try with_reducible rfl
            try simp only [Act.put, List.setIfInBounds_toArray, List.set_cons_zero, List.set_cons_succ]
            refine wpAnyZ_take (i := 1) (oi := { dst := some 49, op := Op.move (Operand.tmp 0), type := 29, pos := "ref.go:38", after := #[], guard := none }) (v := ?zv1_9) rfl (by kernel_rfl) (by kernel_rfl) (by kernel_rfl) (fun _ _ _ h => h) (by decide) (Or.inl ⟨by rfl, ?zy1_9⟩) (fun _ => hHd) ?zrest1_9
            case zy1_9 =>
              intro w _
              go_simp
              try with_reducible rfl
            try simp only [Act.put, List.setIfInBounds_toArray, List.set_cons_zero, List.set_cons_succ]
            refine wpAnyZ_take (i := 2) (oi := { dst := some 50, op := Op.nilCheck (Operand.tmp 49), type := 0, pos := "ref.go:38", after := #[{ on := 1, ground := Ground.data }], guard := none }) (v := ?zv2_10) rfl (by kernel_rfl) (by kernel_rfl) (by kernel_rfl) (fun _ _ _ h => h) (by decide) (Or.inl ⟨by rfl, ?zy2_10⟩) (fun _ => hHd) ?zrest2_10
            case zy2_10 =>
              intro w _
              go_simp
              try with_reducible rfl
            try simp only [Act.put, List.setIfInBounds_toArray, List.set_cons_zero, List.set_cons_succ]
            refine wpAnyZ_take (i := 3) (oi := { dst := some 51, op := Op.fieldAddr 50 (Operand.tmp 50) 2, type := 0, pos := "ref.go:38", after := #[{ on := 2, ground := Ground.data }], guard := none }) (v := ?zv3_11) rfl (by kernel_rfl) (by kernel_rfl) (by kernel_rfl) (fun _ _ _ h => h) (by decide) (Or.inl ⟨by rfl, ?zy3_11⟩) (fun _ => hHd) ?zrest3_11
            case zy3_11 =>
              intro w _
              go_simp
              try with_reducible rfl
            try simp only [Act.put, List.setIfInBounds_toArray, List.set_cons_zero, List.set_cons_succ]
            refine wpAnyZ_load (i := 4) (oi := { dst := some 52, op := Op.load 48 (Operand.tmp 51), type := 48, pos := "ref.go:38", after := #[{ on := 3, ground := Ground.data }], guard := none }) (v := ?zv4_12) rfl (by kernel_rfl) (by kernel_rfl) (by kernel_rfl) (fun _ _ _ h => h) (by decide) (by kernel_rfl) (by kernel_rfl) (Or.inl ⟨by rfl, ?zy4_12⟩) hHd ?zrest4_12
            case zy4_12 =>
              intro w hSw
              have c := hcv.out w hSw
              go_simp
              try with_reducible rfl
            try simp only [Act.put, List.setIfInBounds_toArray, List.set_cons_zero, List.set_cons_succ]
            refine wpAnyZ_load (i := 5) (oi := { dst := some 53, op := Op.load 37 (Operand.tmp 3), type := 37, pos := "ref.go:38", after := #[], guard := none }) (v := .agg (encP ⟨⟨⟨t, f, s⟩, tt, vv, u, false⟩, c⟩).toArray) rfl (by kernel_rfl) (by kernel_rfl) (by kernel_rfl) (fun _ _ _ h => h) (by decide) (by kernel_rfl) (by kernel_rfl) (yieldsIf_load_mid (by rfl) 37 (.tmp 3) (by rfl) w.heap.size 0 (by rfl) (encP ⟨⟨⟨t, f, s⟩, tt, vv, u, false⟩, c⟩) _ (fun w' h => hbr.out w' h) Try.underlying37 rfl infoPs) hHd ?_
            try simp only [Act.put, List.setIfInBounds_toArray, List.set_cons_zero, List.set_cons_succ]
            have hHa := hHd.trans (KeptOff.of_below (S := fun k => v.ownBlock = some k) ((Below.refl _ w1.drew).alloc (Nat.le_refl _) (.cells (encP ⟨⟨⟨t, f, s⟩, tt, vv, u, false⟩, c⟩).toArray 37)))
            have hna := heap_alloc_new w1.drew (.cells (encP ⟨⟨⟨t, f, s⟩, tt, vv, u, false⟩, c⟩).toArray 37)
            refine wpAnyZ_ready (rs := [6]) (by kernel_rfl) (by simp) ?_
            refine AllReadyZ.cons (o := { dst := some 54, op := Op.buildSlice 48 1 #[(0, Operand.tmp 53)], type := 48, pos := "ref.go:38", after := #[{ on := 5, ground := Ground.data }], guard := none }) rfl (fun K hK => ?_) AllReadyZ.nil
            refine step_buildSlice (by rfl) 48 1 #[(0, .tmp 53)] (by rfl) #[(0, .agg (encP ⟨⟨⟨t, f, s⟩, tt, vv, u, false⟩, c⟩).toArray)] (by simp only [List.map_toArray, List.map_cons, List.map_nil]; rfl) (lit_parcel ⟨⟨⟨t, f, s⟩, tt, vv, u, false⟩, c⟩ w1.drew) ?_
            refine hK.out _ _ (fun _ => hHa) ?_
            clear hK K
            try simp only [Act.put, List.setIfInBounds_toArray, List.set_cons_zero, List.set_cons_succ]
            have hav := hlv.out _ (((Below.refl _ w1).drew).alloc (by simp) (.cells (encP ⟨⟨⟨t, f, s⟩, tt, vv, u, false⟩, c⟩).toArray 37))
            refine wpAnyZ_ready (rs := [7]) (by kernel_rfl) (by simp) ?_
            refine AllReadyZ.cons (o := { dst := some 55, op := Op.call { callee := Callee.builtin Builtin.append, args := #[Operand.tmp 52, Operand.tmp 54], argTypes := #[48, 48] }, type := 48, pos := "ref.go:38", after := #[{ on := 4, ground := Ground.data }, { on := 6, ground := Ground.data }], guard := none }) rfl (fun K hK => ?_) AllReadyZ.nil
            refine step_append_row (by rfl) (.tmp 52) (.tmp 54) 48 (by rfl) hav i0 _ 64 Try.underlying48 hi0 hz0 hz1 hz2 rfl (by omega) (by rfl) ⟨w1.drew.heap.size, 0, none⟩ 1 (encP ⟨⟨⟨t, f, s⟩, tt, vv, u, false⟩, c⟩) (by rfl) (by rfl) (fun j u hj => news_of hna j u hj) (encP_one ⟨⟨⟨t, f, s⟩, tt, vv, u, false⟩, c⟩) (by unfold maxLen; omega) (by omega) ?_
            intro g2 off2 cap2 w4 hR5 hk hn
            refine hK.out _ _ (fun _ => (hHa.trans hk.out)) ?_
            clear hK K
            try simp only [Act.put, List.setIfInBounds_toArray, List.set_cons_zero, List.set_cons_succ]
            have hHb := hHa.trans hk.out
            have hfz := hfv.out _ hHb
            have hcb := hcv.out _ hHb
            refine wpAnyZ_take (i := 8) (oi := { dst := some 56, op := Op.nilCheck (Operand.tmp 48), type := 0, pos := "ref.go:38", after := #[{ on := 0, ground := Ground.data }, { on := 0, ground := Ground.phase }, { on := 1, ground := Ground.phase }, { on := 2, ground := Ground.phase }, { on := 3, ground := Ground.phase }, { on := 4, ground := Ground.phase }, { on := 5, ground := Ground.phase }, { on := 6, ground := Ground.phase }, { on := 7, ground := Ground.phase }], guard := none }) (v := ?zv8_13) rfl (by kernel_rfl) (by kernel_rfl) (by kernel_rfl) (fun _ _ _ h => h) (by decide) (Or.inl ⟨by rfl, ?zy8_13⟩) (fun _ => hHb) ?zrest8_13
            case zy8_13 =>
              intro w _
              go_simp
              try with_reducible rfl
            try simp only [Act.put, List.setIfInBounds_toArray, List.set_cons_zero, List.set_cons_succ]
            refine wpAnyZ_take (i := 9) (oi := { dst := some 57, op := Op.fieldAddr 50 (Operand.tmp 56) 2, type := 0, pos := "ref.go:38", after := #[{ on := 8, ground := Ground.data }, { on := 0, ground := Ground.phase }, { on := 1, ground := Ground.phase }, { on := 2, ground := Ground.phase }, { on := 3, ground := Ground.phase }, { on := 4, ground := Ground.phase }, { on := 5, ground := Ground.phase }, { on := 6, ground := Ground.phase }, { on := 7, ground := Ground.phase }], guard := none }) (v := ?zv9_14) rfl (by kernel_rfl) (by kernel_rfl) (by kernel_rfl) (fun _ _ _ h => h) (by decide) (Or.inl ⟨by rfl, ?zy9_14⟩) (fun _ => hHb) ?zrest9_14
            case zy9_14 =>
              intro w _
              go_simp
              try with_reducible rfl
            try simp only [Act.put, List.setIfInBounds_toArray, List.set_cons_zero, List.set_cons_succ]
            refine wpAnyZ_ready (rs := [10]) (by kernel_rfl) (by simp) ?_
            refine AllReadyZ.cons (o := { dst := none, op := Op.store 48 (Operand.tmp 57) (Operand.tmp 55), type := 0, pos := "ref.go:38", after := #[{ on := 9, ground := Ground.data }, { on := 7, ground := Ground.data }, { on := 7, ground := Ground.chain }, { on := 0, ground := Ground.phase }, { on := 1, ground := Ground.phase }, { on := 2, ground := Ground.phase }, { on := 3, ground := Ground.phase }, { on := 4, ground := Ground.phase }, { on := 5, ground := Ground.phase }, { on := 6, ground := Ground.phase }, { on := 7, ground := Ground.phase }], guard := none }) rfl (fun K hK => ?_) AllReadyZ.nil
            go_simp
            refine hK.out _ _ (fun h => absurd h (by decide)) ?_
            clear hK K
            try simp only [Act.put, List.setIfInBounds_toArray, List.set_cons_zero, List.set_cons_succ]
            refine wpAnyZ_done (by kernel_rfl) ?_ _
            have hfin := hX1.out.more hR5.out hHb hn.out (by simp)
            have hfin' := Lib.hid hfin
            clear hfin hcb hfz hcv hfv hbr hlv hHa hna hav hHd hHb hk
            go_wp2
            go_ret
            refine ⟨rfl, ?_⟩
            obtain ⟨S', h1, h2⟩ := hfin'.out
            rw [hgrow.out (by trivial)]
            exact ⟨S', h1, (CStep.of_below hb1'.out).trans h2⟩
      · obtain rfl : r = 1 := by have := hR.out; simp [h3] at this; exact this
        go_region_held3 (fun w' => w'.cell? ⟨w.heap.size, 0, none⟩ = some (.int .i64 t) ∧ w'.cell? ⟨w.heap.size, 1, none⟩ = some (.int .i64 f) ∧ w'.cell? ⟨w.heap.size, 2, none⟩ = some (.int .i64 s) ∧ w'.cell? ⟨w.heap.size, 3, none⟩ = some (.int .i64 tt) ∧ w'.cell? ⟨w.heap.size, 4, none⟩ = some (.int .i64 vv) ∧ w'.cell? ⟨w.heap.size, 5, none⟩ = some (.int .i64 u) ∧ w'.cell? ⟨w.heap.size, 6, none⟩ = some (.bool an) ∧ w'.cell? ⟨hb, 0, none⟩ = some (.int .i64 f) ∧ w'.cell? ⟨hb, 1, none⟩ = some (.int .i64 yt)) (first | exact hA | exact hA1) (first | (go_at_call 29; (with_reducible refine (hck _).mono ?_); rintro e w1 ⟨rfl, hr1⟩; have hb01 := Lib.hid (((Below.refl _ W0).drew).trans (hr1.below.mono (Nat.le_refl _))); have hA1 := (hd1.out w1 hb01.out).1; clear hr1))
        have hbf := Lib.hid (hstay.out w1 (by decide) (hd1.out w1 hb01.out).2.2)
        clear hA1 hd1
        go_wp2
        go_ret
        exact ⟨rfl, hbf.out⟩
    · obtain rfl : r = 1 := by have := hR.out; simp [h2] at this; exact this
      refine wp_region_held_drew (S := fun w' => w'.cell? ⟨w.heap.size, 0, none⟩ = some (.int .i64 t) ∧ w'.cell? ⟨w.heap.size, 1, none⟩ = some (.int .i64 f) ∧ w'.cell? ⟨w.heap.size, 2, none⟩ = some (.int .i64 s) ∧ w'.cell? ⟨w.heap.size, 3, none⟩ = some (.int .i64 tt) ∧ w'.cell? ⟨w.heap.size, 4, none⟩ = some (.int .i64 vv) ∧ w'.cell? ⟨w.heap.size, 5, none⟩ = some (.int .i64 u) ∧ w'.cell? ⟨w.heap.size, 6, none⟩ = some (.bool an) ∧ w'.cell? ⟨hb, 0, none⟩ = some (.int .i64 fr) ∧ w'.cell? ⟨hb, 1, none⟩ = some (.int .i64 yt)) (by kernel_rfl) hA (fun hHeld => ?_)
      clear hHeld
      refine wpAnyH_take (i := 0) (oi := { dst := some 5, op := Op.fieldAddr 37 (Operand.tmp 3) 0, type := 0, pos := "ref.go:32", after := #[], guard := none }) (v := ?vv0_7) rfl (by kernel_rfl) (by kernel_rfl) (by kernel_rfl) (fun _ _ _ h => h) (Or.inl ⟨by rfl, ?hy0_7⟩) hA ?rest0_7
      case hy0_7 =>
        intro w hSw
        go_simp
        try with_reducible rfl
      try simp only [Act.put, List.setIfInBounds_toArray, List.set_cons_zero, List.set_cons_succ]
      refine wpAnyH_take (i := 1) (oi := { dst := some 6, op := Op.load 35 (Operand.tmp 5), type := 35, pos := "ref.go:32", after := #[{ on := 0, ground := Ground.data }], guard := none }) (v := ?vv1_8) rfl (by kernel_rfl) (by kernel_rfl) (by kernel_rfl) (fun _ _ _ h => h) (Or.inl ⟨by rfl, ?hy1_8⟩) hA ?rest1_8
      case hy1_8 =>
        intro w hSw
        obtain ⟨q0, q1, q2, q3, q4, q5, q6, q7, q8⟩ := hSw
        go_simp
        try with_reducible rfl
      try simp only [Act.put, List.setIfInBounds_toArray, List.set_cons_zero, List.set_cons_succ]
      refine wpAnyH_ready (rs := [2]) (by kernel_rfl) (by simp) ?_
      refine AllReadyH.cons (o := { dst := some 7, op := Op.call { callee := Callee.value (Operand.func 29), args := #[Operand.tmp 6], argTypes := #[35] }, type := 3, pos := "ref.go:32", after := #[{ on := 1, ground := Ground.data }], guard := none }) rfl (fun K hK => ?_) AllReadyH.nil
      go_simp
      refine (hck _).mono ?_
      rintro e w1 ⟨rfl, hr1⟩
      have hb01 := Lib.hid (((Below.refl _ W0).drew).trans (hr1.below.mono (Nat.le_refl _)))
      have hA1 := (hd1.out w1 hb01.out).1
      clear hr1
      refine hK.out _ _ hA1 (fun hHeld => ?_)
      clear hHeld hK K
      try simp only [Act.put, List.setIfInBounds_toArray, List.set_cons_zero, List.set_cons_succ]
      refine wpAnyH_take (i := 3) (oi := { dst := some 8, op := Op.binOp BinOp.neq 3 (Operand.tmp 7) (Operand.const (Value.int IntKind.i64 0)) 3, type := 4, pos := "ref.go:32", after := #[{ on := 2, ground := Ground.data }], guard := none }) (v := ?vv3_9) rfl (by kernel_rfl) (by kernel_rfl) (by kernel_rfl) (fun _ _ _ h => h) (Or.inl ⟨by rfl, ?hy3_9⟩) hA1 ?rest3_9
      case hy3_9 =>
        intro w hSw
        go_simp
        try with_reducible rfl
      try simp only [Act.put, List.setIfInBounds_toArray, List.set_cons_zero, List.set_cons_succ]
      refine wpAnyH_take (i := 4) (oi := { dst := some 9, op := Op.move (Operand.tmp 8), type := 4, pos := "ref.go:32", after := #[{ on := 3, ground := Ground.data }, { on := 2, ground := Ground.chain }], guard := none }) (v := ?vv4_10) rfl (by kernel_rfl) (by kernel_rfl) (by kernel_rfl) (fun _ _ _ h => h) (Or.inl ⟨by rfl, ?hy4_10⟩) hA1 ?rest4_10
      case hy4_10 =>
        intro w hSw
        go_simp
        try with_reducible rfl
      try simp only [Act.put, List.setIfInBounds_toArray, List.set_cons_zero, List.set_cons_succ]
      refine wpAnyH_take (i := 5) (oi := { dst := some 10, op := Op.fieldAddr 37 (Operand.tmp 3) 0, type := 0, pos := "ref.go:32", after := #[{ on := 4, ground := Ground.guard }], guard := some (4, false) }) (v := ?vv5_11) rfl (by kernel_rfl) (by kernel_rfl) (by kernel_rfl) (fun _ _ _ h => h) (Or.inl ⟨by rfl, ?hy5_11⟩) hA1 ?rest5_11
      case hy5_11 =>
        intro w hSw
        obtain ⟨q0, q1, q2, q3, q4, q5, q6, q7, q8⟩ := hSw
        go_simp
        try with_reducible rfl
      try simp only [Act.put, List.setIfInBounds_toArray, List.set_cons_zero, List.set_cons_succ]
      refine wpAnyH_take (i := 6) (oi := { dst := some 11, op := Op.fieldAddr 35 (Operand.tmp 10) 0, type := 0, pos := "ref.go:32", after := #[{ on := 5, ground := Ground.data }, { on := 4, ground := Ground.guard }], guard := some (4, false) }) (v := ?vv6_12) rfl (by kernel_rfl) (by kernel_rfl) (by kernel_rfl) (fun _ _ _ h => h) (Or.inl ⟨by rfl, ?hy6_12⟩) hA1 ?rest6_12
      case hy6_12 =>
        intro w hSw
        obtain ⟨q0, q1, q2, q3, q4, q5, q6, q7, q8⟩ := hSw
        go_simp
        try with_reducible rfl
      try simp only [Act.put, List.setIfInBounds_toArray, List.set_cons_zero, List.set_cons_succ]
      refine wpAnyH_take (i := 7) (oi := { dst := some 12, op := Op.fieldAddr 33 (Operand.tmp 11) 1, type := 0, pos := "ref.go:32", after := #[{ on := 6, ground := Ground.data }, { on := 4, ground := Ground.guard }], guard := some (4, false) }) (v := ?vv7_13) rfl (by kernel_rfl) (by kernel_rfl) (by kernel_rfl) (fun _ _ _ h => h) (Or.inl ⟨by rfl, ?hy7_13⟩) hA1 ?rest7_13
      case hy7_13 =>
        intro w hSw
        obtain ⟨q0, q1, q2, q3, q4, q5, q6, q7, q8⟩ := hSw
        go_simp
        try with_reducible rfl
      try simp only [Act.put, List.setIfInBounds_toArray, List.set_cons_zero, List.set_cons_succ]
      refine wpAnyH_take (i := 8) (oi := { dst := some 13, op := Op.load 3 (Operand.tmp 12), type := 3, pos := "ref.go:32", after := #[{ on := 7, ground := Ground.data }, { on := 4, ground := Ground.guard }], guard := some (4, false) }) (v := ?vv8_14) rfl (by kernel_rfl) (by kernel_rfl) (by kernel_rfl) (fun _ _ _ h => h) (Or.inl ⟨by rfl, ?hy8_14⟩) hA1 ?rest8_14
      case hy8_14 =>
        intro w hSw
        obtain ⟨q0, q1, q2, q3, q4, q5, q6, q7, q8⟩ := hSw
        go_simp
        try with_reducible rfl
      try simp only [Act.put, List.setIfInBounds_toArray, List.set_cons_zero, List.set_cons_succ]
      refine wpAnyH_take (i := 9) (oi := { dst := some 14, op := Op.move (Operand.tmp 0), type := 29, pos := "ref.go:32", after := #[{ on := 4, ground := Ground.guard }], guard := some (4, false) }) (v := ?vv9_15) rfl (by kernel_rfl) (by kernel_rfl) (by kernel_rfl) (fun _ _ _ h => h) (Or.inl ⟨by rfl, ?hy9_15⟩) hA1 ?rest9_15
      case hy9_15 =>
        intro w hSw
        obtain ⟨q0, q1, q2, q3, q4, q5, q6, q7, q8⟩ := hSw
        go_simp
        try with_reducible rfl
      try simp only [Act.put, List.setIfInBounds_toArray, List.set_cons_zero, List.set_cons_succ]
      refine wpAnyH_take (i := 10) (oi := { dst := some 15, op := Op.nilCheck (Operand.tmp 14), type := 0, pos := "ref.go:32", after := #[{ on := 9, ground := Ground.data }, { on := 4, ground := Ground.guard }], guard := some (4, false) }) (v := ?vv10_16) rfl (by kernel_rfl) (by kernel_rfl) (by kernel_rfl) (fun _ _ _ h => h) (Or.inl ⟨by rfl, ?hy10_16⟩) hA1 ?rest10_16
      case hy10_16 =>
        intro w hSw
        obtain ⟨q0, q1, q2, q3, q4, q5, q6, q7, q8⟩ := hSw
        go_simp
        try with_reducible rfl
      try simp only [Act.put, List.setIfInBounds_toArray, List.set_cons_zero, List.set_cons_succ]
      refine wpAnyH_take (i := 11) (oi := { dst := some 16, op := Op.fieldAddr 50 (Operand.tmp 15) 0, type := 0, pos := "ref.go:32", after := #[{ on := 10, ground := Ground.data }, { on := 4, ground := Ground.guard }], guard := some (4, false) }) (v := ?vv11_17) rfl (by kernel_rfl) (by kernel_rfl) (by kernel_rfl) (fun _ _ _ h => h) (Or.inl ⟨by rfl, ?hy11_17⟩) hA1 ?rest11_17
      case hy11_17 =>
        intro w hSw
        obtain ⟨q0, q1, q2, q3, q4, q5, q6, q7, q8⟩ := hSw
        go_simp
        try with_reducible rfl
      try simp only [Act.put, List.setIfInBounds_toArray, List.set_cons_zero, List.set_cons_succ]
      refine wpAnyH_take (i := 12) (oi := { dst := some 17, op := Op.fieldAddr 23 (Operand.tmp 16) 0, type := 0, pos := "ref.go:32", after := #[{ on := 11, ground := Ground.data }, { on := 4, ground := Ground.guard }], guard := some (4, false) }) (v := ?vv12_18) rfl (by kernel_rfl) (by kernel_rfl) (by kernel_rfl) (fun _ _ _ h => h) (Or.inl ⟨by rfl, ?hy12_18⟩) hA1 ?rest12_18
      case hy12_18 =>
        intro w hSw
        obtain ⟨q0, q1, q2, q3, q4, q5, q6, q7, q8⟩ := hSw
        go_simp
        try with_reducible rfl
      try simp only [Act.put, List.setIfInBounds_toArray, List.set_cons_zero, List.set_cons_succ]
      refine wpAnyH_take (i := 13) (oi := { dst := some 18, op := Op.load 3 (Operand.tmp 17), type := 3, pos := "ref.go:32", after := #[{ on := 12, ground := Ground.data }, { on := 4, ground := Ground.guard }], guard := some (4, false) }) (v := ?vv13_19) rfl (by kernel_rfl) (by kernel_rfl) (by kernel_rfl) (fun _ _ _ h => h) (Or.inl ⟨by rfl, ?hy13_19⟩) hA1 ?rest13_19
      case hy13_19 =>
        intro w hSw
        obtain ⟨q0, q1, q2, q3, q4, q5, q6, q7, q8⟩ := hSw
        go_simp
        try with_reducible rfl
      try simp only [Act.put, List.setIfInBounds_toArray, List.set_cons_zero, List.set_cons_succ]
      refine wpAnyH_take (i := 14) (oi := { dst := some 19, op := Op.binOp BinOp.neq 3 (Operand.tmp 13) (Operand.tmp 18) 3, type := 4, pos := "ref.go:32", after := #[{ on := 8, ground := Ground.data }, { on := 13, ground := Ground.data }, { on := 4, ground := Ground.guard }], guard := some (4, false) }) (v := .bool true) rfl (by kernel_rfl) (by kernel_rfl) (by kernel_rfl) (fun _ _ _ h => h) (Or.inl ⟨by rfl, fun w hSw => by first | (go_simp; done) | (go_simp; simp [h2])⟩) hA1 ?_
      try simp only [Act.put, List.setIfInBounds_toArray, List.set_cons_zero, List.set_cons_succ]
      refine wpAnyH_take (i := 15) (oi := { dst := some 20, op := Op.pick (Operand.tmp 9) (Operand.const (Value.bool true)) (Operand.tmp 19), type := 4, pos := "ref.go:32", after := #[{ on := 4, ground := Ground.data }, { on := 14, ground := Ground.data }], guard := none }) (v := ?vv15_20) rfl (by kernel_rfl) (by kernel_rfl) (by kernel_rfl) (fun _ _ _ h => h) (Or.inl ⟨by rfl, ?hy15_20⟩) hA1 ?rest15_20
      case hy15_20 =>
        intro w hSw
        go_simp
        try with_reducible rfl
      try simp only [Act.put, List.setIfInBounds_toArray, List.set_cons_zero, List.set_cons_succ]
      refine wpAnyH_take (i := 16) (oi := { dst := some 21, op := Op.move (Operand.tmp 20), type := 4, pos := "ref.go:32", after := #[{ on := 15, ground := Ground.data }, { on := 4, ground := Ground.chain }], guard := none }) (v := ?vv16_21) rfl (by kernel_rfl) (by kernel_rfl) (by kernel_rfl) (fun _ _ _ h => h) (Or.inl ⟨by rfl, ?hy16_21⟩) hA1 ?rest16_21
      case hy16_21 =>
        intro w hSw
        go_simp
        try with_reducible rfl
      try simp only [Act.put, List.setIfInBounds_toArray, List.set_cons_zero, List.set_cons_succ]
      refine wpAnyH_take (i := 17) (oi := { dst := some 22, op := Op.fieldAddr 37 (Operand.tmp 3) 0, type := 0, pos := "ref.go:32", after := #[{ on := 16, ground := Ground.guard }], guard := some (16, false) }) (v := undef) rfl (by kernel_rfl) (by kernel_rfl) (by kernel_rfl) (fun _ _ _ h => h) (Or.inr ⟨by rfl, rfl⟩) hA1 ?_
      try simp only [Act.put, List.setIfInBounds_toArray, List.set_cons_zero, List.set_cons_succ]
      refine wpAnyH_take (i := 18) (oi := { dst := some 23, op := Op.fieldAddr 35 (Operand.tmp 22) 1, type := 0, pos := "ref.go:32", after := #[{ on := 17, ground := Ground.data }, { on := 16, ground := Ground.guard }], guard := some (16, false) }) (v := undef) rfl (by kernel_rfl) (by kernel_rfl) (by kernel_rfl) (fun _ _ _ h => h) (Or.inr ⟨by rfl, rfl⟩) hA1 ?_
      try simp only [Act.put, List.setIfInBounds_toArray, List.set_cons_zero, List.set_cons_succ]
      refine wpAnyH_take (i := 19) (oi := { dst := some 24, op := Op.load 3 (Operand.tmp 23), type := 3, pos := "ref.go:32", after := #[{ on := 18, ground := Ground.data }, { on := 16, ground := Ground.guard }], guard := some (16, false) }) (v := undef) rfl (by kernel_rfl) (by kernel_rfl) (by kernel_rfl) (fun _ _ _ h => h) (Or.inr ⟨by rfl, rfl⟩) hA1 ?_
      try simp only [Act.put, List.setIfInBounds_toArray, List.set_cons_zero, List.set_cons_succ]
      refine wpAnyH_take (i := 20) (oi := { dst := some 25, op := Op.move (Operand.tmp 0), type := 29, pos := "ref.go:32", after := #[{ on := 16, ground := Ground.guard }], guard := some (16, false) }) (v := undef) rfl (by kernel_rfl) (by kernel_rfl) (by kernel_rfl) (fun _ _ _ h => h) (Or.inr ⟨by rfl, rfl⟩) hA1 ?_
      try simp only [Act.put, List.setIfInBounds_toArray, List.set_cons_zero, List.set_cons_succ]
      refine wpAnyH_take (i := 21) (oi := { dst := some 26, op := Op.nilCheck (Operand.tmp 25), type := 0, pos := "ref.go:32", after := #[{ on := 20, ground := Ground.data }, { on := 16, ground := Ground.guard }], guard := some (16, false) }) (v := undef) rfl (by kernel_rfl) (by kernel_rfl) (by kernel_rfl) (fun _ _ _ h => h) (Or.inr ⟨by rfl, rfl⟩) hA1 ?_
      try simp only [Act.put, List.setIfInBounds_toArray, List.set_cons_zero, List.set_cons_succ]
      refine wpAnyH_take (i := 22) (oi := { dst := some 27, op := Op.fieldAddr 50 (Operand.tmp 26) 0, type := 0, pos := "ref.go:32", after := #[{ on := 21, ground := Ground.data }, { on := 16, ground := Ground.guard }], guard := some (16, false) }) (v := undef) rfl (by kernel_rfl) (by kernel_rfl) (by kernel_rfl) (fun _ _ _ h => h) (Or.inr ⟨by rfl, rfl⟩) hA1 ?_
      try simp only [Act.put, List.setIfInBounds_toArray, List.set_cons_zero, List.set_cons_succ]
      refine wpAnyH_take (i := 23) (oi := { dst := some 28, op := Op.fieldAddr 23 (Operand.tmp 27) 1, type := 0, pos := "ref.go:32", after := #[{ on := 22, ground := Ground.data }, { on := 16, ground := Ground.guard }], guard := some (16, false) }) (v := undef) rfl (by kernel_rfl) (by kernel_rfl) (by kernel_rfl) (fun _ _ _ h => h) (Or.inr ⟨by rfl, rfl⟩) hA1 ?_
      try simp only [Act.put, List.setIfInBounds_toArray, List.set_cons_zero, List.set_cons_succ]
      refine wpAnyH_take (i := 24) (oi := { dst := some 29, op := Op.load 3 (Operand.tmp 28), type := 3, pos := "ref.go:32", after := #[{ on := 23, ground := Ground.data }, { on := 16, ground := Ground.guard }], guard := some (16, false) }) (v := undef) rfl (by kernel_rfl) (by kernel_rfl) (by kernel_rfl) (fun _ _ _ h => h) (Or.inr ⟨by rfl, rfl⟩) hA1 ?_
      try simp only [Act.put, List.setIfInBounds_toArray, List.set_cons_zero, List.set_cons_succ]
      refine wpAnyH_take (i := 25) (oi := { dst := some 30, op := Op.binOp BinOp.neq 3 (Operand.tmp 24) (Operand.tmp 29) 3, type := 4, pos := "ref.go:32", after := #[{ on := 19, ground := Ground.data }, { on := 24, ground := Ground.data }, { on := 16, ground := Ground.guard }], guard := some (16, false) }) (v := undef) rfl (by kernel_rfl) (by kernel_rfl) (by kernel_rfl) (fun _ _ _ h => h) (Or.inr ⟨by rfl, rfl⟩) hA1 ?_
      try simp only [Act.put, List.setIfInBounds_toArray, List.set_cons_zero, List.set_cons_succ]
      refine wpAnyH_take (i := 26) (oi := { dst := some 31, op := Op.pick (Operand.tmp 21) (Operand.const (Value.bool true)) (Operand.tmp 30), type := 4, pos := "ref.go:32", after := #[{ on := 16, ground := Ground.data }, { on := 25, ground := Ground.data }], guard := none }) (v := ?vv26_22) rfl (by kernel_rfl) (by kernel_rfl) (by kernel_rfl) (fun _ _ _ h => h) (Or.inl ⟨by rfl, ?hy26_22⟩) hA1 ?rest26_22
      case hy26_22 =>
        intro w hSw
        go_simp
        try with_reducible rfl
      try simp only [Act.put, List.setIfInBounds_toArray, List.set_cons_zero, List.set_cons_succ]
      refine wpAnyH_done (by kernel_rfl) ?_ _
      have hbf := Lib.hid (hstay.out w1 (by decide) (hd1.out w1 hb01.out).2.2)
      clear hA1 hd1
      go_wp2
      go_ret
      exact ⟨rfl, hbf.out⟩
  · obtain rfl : r = 1 := by have := hR.out; simp [h1] at this; exact this
    generalize chkM ⟨⟨t, f, s⟩, tt, vv, u, an⟩ = z at *
    refine wp_region_held_drew (S := fun w' => w'.cell? ⟨w.heap.size, 0, none⟩ = some (.int .i64 t) ∧ w'.cell? ⟨w.heap.size, 1, none⟩ = some (.int .i64 f) ∧ w'.cell? ⟨w.heap.size, 2, none⟩ = some (.int .i64 s) ∧ w'.cell? ⟨w.heap.size, 3, none⟩ = some (.int .i64 tt) ∧ w'.cell? ⟨w.heap.size, 4, none⟩ = some (.int .i64 vv) ∧ w'.cell? ⟨w.heap.size, 5, none⟩ = some (.int .i64 u) ∧ w'.cell? ⟨w.heap.size, 6, none⟩ = some (.bool an) ∧ w'.cell? ⟨hb, 0, none⟩ = some (.int .i64 fr) ∧ w'.cell? ⟨hb, 1, none⟩ = some (.int .i64 yt)) (by kernel_rfl) hA (fun hHeld => ?_)
    clear hHeld
    refine wpAnyH_take (i := 0) (oi := { dst := some 5, op := Op.fieldAddr 37 (Operand.tmp 3) 0, type := 0, pos := "ref.go:32", after := #[], guard := none }) (v := ?vv0_23) rfl (by kernel_rfl) (by kernel_rfl) (by kernel_rfl) (fun _ _ _ h => h) (Or.inl ⟨by rfl, ?hy0_23⟩) hA ?rest0_23
    case hy0_23 =>
      intro w hSw
      go_simp
      try with_reducible rfl
    try simp only [Act.put, List.setIfInBounds_toArray, List.set_cons_zero, List.set_cons_succ]
    refine wpAnyH_take (i := 1) (oi := { dst := some 6, op := Op.load 35 (Operand.tmp 5), type := 35, pos := "ref.go:32", after := #[{ on := 0, ground := Ground.data }], guard := none }) (v := ?vv1_24) rfl (by kernel_rfl) (by kernel_rfl) (by kernel_rfl) (fun _ _ _ h => h) (Or.inl ⟨by rfl, ?hy1_24⟩) hA ?rest1_24
    case hy1_24 =>
      intro w hSw
      obtain ⟨q0, q1, q2, q3, q4, q5, q6, q7, q8⟩ := hSw
      go_simp
      try with_reducible rfl
    try simp only [Act.put, List.setIfInBounds_toArray, List.set_cons_zero, List.set_cons_succ]
    refine wpAnyH_ready (rs := [2]) (by kernel_rfl) (by simp) ?_
    refine AllReadyH.cons (o := { dst := some 7, op := Op.call { callee := Callee.value (Operand.func 29), args := #[Operand.tmp 6], argTypes := #[35] }, type := 3, pos := "ref.go:32", after := #[{ on := 1, ground := Ground.data }], guard := none }) rfl (fun K hK => ?_) AllReadyH.nil
    go_simp
    refine (hck _).mono ?_
    rintro e w1 ⟨rfl, hr1⟩
    have hb01 := Lib.hid (((Below.refl _ W0).drew).trans (hr1.below.mono (Nat.le_refl _)))
    have hA1 := (hd1.out w1 hb01.out).1
    clear hr1
    refine hK.out _ _ hA1 (fun hHeld => ?_)
    clear hHeld hK K
    try simp only [Act.put, List.setIfInBounds_toArray, List.set_cons_zero, List.set_cons_succ]
    refine wpAnyH_take (i := 3) (oi := { dst := some 8, op := Op.binOp BinOp.neq 3 (Operand.tmp 7) (Operand.const (Value.int IntKind.i64 0)) 3, type := 4, pos := "ref.go:32", after := #[{ on := 2, ground := Ground.data }], guard := none }) (v := .bool true) rfl (by kernel_rfl) (by kernel_rfl) (by kernel_rfl) (fun _ _ _ h => h) (Or.inl ⟨by rfl, fun w hSw => by first | (go_simp; done) | (go_simp; simp [h1])⟩) hA1 ?_
    try simp only [Act.put, List.setIfInBounds_toArray, List.set_cons_zero, List.set_cons_succ]
    refine wpAnyH_take (i := 4) (oi := { dst := some 9, op := Op.move (Operand.tmp 8), type := 4, pos := "ref.go:32", after := #[{ on := 3, ground := Ground.data }, { on := 2, ground := Ground.chain }], guard := none }) (v := ?vv4_25) rfl (by kernel_rfl) (by kernel_rfl) (by kernel_rfl) (fun _ _ _ h => h) (Or.inl ⟨by rfl, ?hy4_25⟩) hA1 ?rest4_25
    case hy4_25 =>
      intro w hSw
      go_simp
      try with_reducible rfl
    try simp only [Act.put, List.setIfInBounds_toArray, List.set_cons_zero, List.set_cons_succ]
    refine wpAnyH_take (i := 5) (oi := { dst := some 10, op := Op.fieldAddr 37 (Operand.tmp 3) 0, type := 0, pos := "ref.go:32", after := #[{ on := 4, ground := Ground.guard }], guard := some (4, false) }) (v := undef) rfl (by kernel_rfl) (by kernel_rfl) (by kernel_rfl) (fun _ _ _ h => h) (Or.inr ⟨by rfl, rfl⟩) hA1 ?_
    try simp only [Act.put, List.setIfInBounds_toArray, List.set_cons_zero, List.set_cons_succ]
    refine wpAnyH_take (i := 6) (oi := { dst := some 11, op := Op.fieldAddr 35 (Operand.tmp 10) 0, type := 0, pos := "ref.go:32", after := #[{ on := 5, ground := Ground.data }, { on := 4, ground := Ground.guard }], guard := some (4, false) }) (v := undef) rfl (by kernel_rfl) (by kernel_rfl) (by kernel_rfl) (fun _ _ _ h => h) (Or.inr ⟨by rfl, rfl⟩) hA1 ?_
    try simp only [Act.put, List.setIfInBounds_toArray, List.set_cons_zero, List.set_cons_succ]
    refine wpAnyH_take (i := 7) (oi := { dst := some 12, op := Op.fieldAddr 33 (Operand.tmp 11) 1, type := 0, pos := "ref.go:32", after := #[{ on := 6, ground := Ground.data }, { on := 4, ground := Ground.guard }], guard := some (4, false) }) (v := undef) rfl (by kernel_rfl) (by kernel_rfl) (by kernel_rfl) (fun _ _ _ h => h) (Or.inr ⟨by rfl, rfl⟩) hA1 ?_
    try simp only [Act.put, List.setIfInBounds_toArray, List.set_cons_zero, List.set_cons_succ]
    refine wpAnyH_take (i := 8) (oi := { dst := some 13, op := Op.load 3 (Operand.tmp 12), type := 3, pos := "ref.go:32", after := #[{ on := 7, ground := Ground.data }, { on := 4, ground := Ground.guard }], guard := some (4, false) }) (v := undef) rfl (by kernel_rfl) (by kernel_rfl) (by kernel_rfl) (fun _ _ _ h => h) (Or.inr ⟨by rfl, rfl⟩) hA1 ?_
    try simp only [Act.put, List.setIfInBounds_toArray, List.set_cons_zero, List.set_cons_succ]
    refine wpAnyH_take (i := 9) (oi := { dst := some 14, op := Op.move (Operand.tmp 0), type := 29, pos := "ref.go:32", after := #[{ on := 4, ground := Ground.guard }], guard := some (4, false) }) (v := undef) rfl (by kernel_rfl) (by kernel_rfl) (by kernel_rfl) (fun _ _ _ h => h) (Or.inr ⟨by rfl, rfl⟩) hA1 ?_
    try simp only [Act.put, List.setIfInBounds_toArray, List.set_cons_zero, List.set_cons_succ]
    refine wpAnyH_take (i := 10) (oi := { dst := some 15, op := Op.nilCheck (Operand.tmp 14), type := 0, pos := "ref.go:32", after := #[{ on := 9, ground := Ground.data }, { on := 4, ground := Ground.guard }], guard := some (4, false) }) (v := undef) rfl (by kernel_rfl) (by kernel_rfl) (by kernel_rfl) (fun _ _ _ h => h) (Or.inr ⟨by rfl, rfl⟩) hA1 ?_
    try simp only [Act.put, List.setIfInBounds_toArray, List.set_cons_zero, List.set_cons_succ]
    refine wpAnyH_take (i := 11) (oi := { dst := some 16, op := Op.fieldAddr 50 (Operand.tmp 15) 0, type := 0, pos := "ref.go:32", after := #[{ on := 10, ground := Ground.data }, { on := 4, ground := Ground.guard }], guard := some (4, false) }) (v := undef) rfl (by kernel_rfl) (by kernel_rfl) (by kernel_rfl) (fun _ _ _ h => h) (Or.inr ⟨by rfl, rfl⟩) hA1 ?_
    try simp only [Act.put, List.setIfInBounds_toArray, List.set_cons_zero, List.set_cons_succ]
    refine wpAnyH_take (i := 12) (oi := { dst := some 17, op := Op.fieldAddr 23 (Operand.tmp 16) 0, type := 0, pos := "ref.go:32", after := #[{ on := 11, ground := Ground.data }, { on := 4, ground := Ground.guard }], guard := some (4, false) }) (v := undef) rfl (by kernel_rfl) (by kernel_rfl) (by kernel_rfl) (fun _ _ _ h => h) (Or.inr ⟨by rfl, rfl⟩) hA1 ?_
    try simp only [Act.put, List.setIfInBounds_toArray, List.set_cons_zero, List.set_cons_succ]
    refine wpAnyH_take (i := 13) (oi := { dst := some 18, op := Op.load 3 (Operand.tmp 17), type := 3, pos := "ref.go:32", after := #[{ on := 12, ground := Ground.data }, { on := 4, ground := Ground.guard }], guard := some (4, false) }) (v := undef) rfl (by kernel_rfl) (by kernel_rfl) (by kernel_rfl) (fun _ _ _ h => h) (Or.inr ⟨by rfl, rfl⟩) hA1 ?_
    try simp only [Act.put, List.setIfInBounds_toArray, List.set_cons_zero, List.set_cons_succ]
    refine wpAnyH_take (i := 14) (oi := { dst := some 19, op := Op.binOp BinOp.neq 3 (Operand.tmp 13) (Operand.tmp 18) 3, type := 4, pos := "ref.go:32", after := #[{ on := 8, ground := Ground.data }, { on := 13, ground := Ground.data }, { on := 4, ground := Ground.guard }], guard := some (4, false) }) (v := undef) rfl (by kernel_rfl) (by kernel_rfl) (by kernel_rfl) (fun _ _ _ h => h) (Or.inr ⟨by rfl, rfl⟩) hA1 ?_
    try simp only [Act.put, List.setIfInBounds_toArray, List.set_cons_zero, List.set_cons_succ]
    refine wpAnyH_take (i := 15) (oi := { dst := some 20, op := Op.pick (Operand.tmp 9) (Operand.const (Value.bool true)) (Operand.tmp 19), type := 4, pos := "ref.go:32", after := #[{ on := 4, ground := Ground.data }, { on := 14, ground := Ground.data }], guard := none }) (v := ?vv15_26) rfl (by kernel_rfl) (by kernel_rfl) (by kernel_rfl) (fun _ _ _ h => h) (Or.inl ⟨by rfl, ?hy15_26⟩) hA1 ?rest15_26
    case hy15_26 =>
      intro w hSw
      go_simp
      try with_reducible rfl
    try simp only [Act.put, List.setIfInBounds_toArray, List.set_cons_zero, List.set_cons_succ]
    refine wpAnyH_take (i := 16) (oi := { dst := some 21, op := Op.move (Operand.tmp 20), type := 4, pos := "ref.go:32", after := #[{ on := 15, ground := Ground.data }, { on := 4, ground := Ground.chain }], guard := none }) (v := ?vv16_27) rfl (by kernel_rfl) (by kernel_rfl) (by kernel_rfl) (fun _ _ _ h => h) (Or.inl ⟨by rfl, ?hy16_27⟩) hA1 ?rest16_27
    case hy16_27 =>
      intro w hSw
      go_simp
      try with_reducible rfl
    try simp only [Act.put, List.setIfInBounds_toArray, List.set_cons_zero, List.set_cons_succ]
    refine wpAnyH_take (i := 17) (oi := { dst := some 22, op := Op.fieldAddr 37 (Operand.tmp 3) 0, type := 0, pos := "ref.go:32", after := #[{ on := 16, ground := Ground.guard }], guard := some (16, false) }) (v := undef) rfl (by kernel_rfl) (by kernel_rfl) (by kernel_rfl) (fun _ _ _ h => h) (Or.inr ⟨by rfl, rfl⟩) hA1 ?_
    try simp only [Act.put, List.setIfInBounds_toArray, List.set_cons_zero, List.set_cons_succ]
    refine wpAnyH_take (i := 18) (oi := { dst := some 23, op := Op.fieldAddr 35 (Operand.tmp 22) 1, type := 0, pos := "ref.go:32", after := #[{ on := 17, ground := Ground.data }, { on := 16, ground := Ground.guard }], guard := some (16, false) }) (v := undef) rfl (by kernel_rfl) (by kernel_rfl) (by kernel_rfl) (fun _ _ _ h => h) (Or.inr ⟨by rfl, rfl⟩) hA1 ?_
    try simp only [Act.put, List.setIfInBounds_toArray, List.set_cons_zero, List.set_cons_succ]
    refine wpAnyH_take (i := 19) (oi := { dst := some 24, op := Op.load 3 (Operand.tmp 23), type := 3, pos := "ref.go:32", after := #[{ on := 18, ground := Ground.data }, { on := 16, ground := Ground.guard }], guard := some (16, false) }) (v := undef) rfl (by kernel_rfl) (by kernel_rfl) (by kernel_rfl) (fun _ _ _ h => h) (Or.inr ⟨by rfl, rfl⟩) hA1 ?_
    try simp only [Act.put, List.setIfInBounds_toArray, List.set_cons_zero, List.set_cons_succ]
    refine wpAnyH_take (i := 20) (oi := { dst := some 25, op := Op.move (Operand.tmp 0), type := 29, pos := "ref.go:32", after := #[{ on := 16, ground := Ground.guard }], guard := some (16, false) }) (v := undef) rfl (by kernel_rfl) (by kernel_rfl) (by kernel_rfl) (fun _ _ _ h => h) (Or.inr ⟨by rfl, rfl⟩) hA1 ?_
    try simp only [Act.put, List.setIfInBounds_toArray, List.set_cons_zero, List.set_cons_succ]
    refine wpAnyH_take (i := 21) (oi := { dst := some 26, op := Op.nilCheck (Operand.tmp 25), type := 0, pos := "ref.go:32", after := #[{ on := 20, ground := Ground.data }, { on := 16, ground := Ground.guard }], guard := some (16, false) }) (v := undef) rfl (by kernel_rfl) (by kernel_rfl) (by kernel_rfl) (fun _ _ _ h => h) (Or.inr ⟨by rfl, rfl⟩) hA1 ?_
    try simp only [Act.put, List.setIfInBounds_toArray, List.set_cons_zero, List.set_cons_succ]
    refine wpAnyH_take (i := 22) (oi := { dst := some 27, op := Op.fieldAddr 50 (Operand.tmp 26) 0, type := 0, pos := "ref.go:32", after := #[{ on := 21, ground := Ground.data }, { on := 16, ground := Ground.guard }], guard := some (16, false) }) (v := undef) rfl (by kernel_rfl) (by kernel_rfl) (by kernel_rfl) (fun _ _ _ h => h) (Or.inr ⟨by rfl, rfl⟩) hA1 ?_
    try simp only [Act.put, List.setIfInBounds_toArray, List.set_cons_zero, List.set_cons_succ]
    refine wpAnyH_take (i := 23) (oi := { dst := some 28, op := Op.fieldAddr 23 (Operand.tmp 27) 1, type := 0, pos := "ref.go:32", after := #[{ on := 22, ground := Ground.data }, { on := 16, ground := Ground.guard }], guard := some (16, false) }) (v := undef) rfl (by kernel_rfl) (by kernel_rfl) (by kernel_rfl) (fun _ _ _ h => h) (Or.inr ⟨by rfl, rfl⟩) hA1 ?_
    try simp only [Act.put, List.setIfInBounds_toArray, List.set_cons_zero, List.set_cons_succ]
    refine wpAnyH_take (i := 24) (oi := { dst := some 29, op := Op.load 3 (Operand.tmp 28), type := 3, pos := "ref.go:32", after := #[{ on := 23, ground := Ground.data }, { on := 16, ground := Ground.guard }], guard := some (16, false) }) (v := undef) rfl (by kernel_rfl) (by kernel_rfl) (by kernel_rfl) (fun _ _ _ h => h) (Or.inr ⟨by rfl, rfl⟩) hA1 ?_
    try simp only [Act.put, List.setIfInBounds_toArray, List.set_cons_zero, List.set_cons_succ]
    refine wpAnyH_take (i := 25) (oi := { dst := some 30, op := Op.binOp BinOp.neq 3 (Operand.tmp 24) (Operand.tmp 29) 3, type := 4, pos := "ref.go:32", after := #[{ on := 19, ground := Ground.data }, { on := 24, ground := Ground.data }, { on := 16, ground := Ground.guard }], guard := some (16, false) }) (v := undef) rfl (by kernel_rfl) (by kernel_rfl) (by kernel_rfl) (fun _ _ _ h => h) (Or.inr ⟨by rfl, rfl⟩) hA1 ?_
    try simp only [Act.put, List.setIfInBounds_toArray, List.set_cons_zero, List.set_cons_succ]
    refine wpAnyH_take (i := 26) (oi := { dst := some 31, op := Op.pick (Operand.tmp 21) (Operand.const (Value.bool true)) (Operand.tmp 30), type := 4, pos := "ref.go:32", after := #[{ on := 16, ground := Ground.data }, { on := 25, ground := Ground.data }], guard := none }) (v := ?vv26_28) rfl (by kernel_rfl) (by kernel_rfl) (by kernel_rfl) (fun _ _ _ h => h) (Or.inl ⟨by rfl, ?hy26_28⟩) hA1 ?rest26_28
    case hy26_28 =>
      intro w hSw
      go_simp
      try with_reducible rfl
    try simp only [Act.put, List.setIfInBounds_toArray, List.set_cons_zero, List.set_cons_succ]
    refine wpAnyH_done (by kernel_rfl) ?_ _
    have hbf := Lib.hid (hstay.out w1 (by decide) (hd1.out w1 hb01.out).2.2)
    clear hA1 hd1
    go_wp2
    go_ret
    exact ⟨rfl, hbf.out⟩
end
end Go.Proofs.Ytjbammgnkegecaa
