/-
  Entries compared by the laws' own functions: those that are the same.
-/
import Derived.Test.YtminfmjgmmkaoaaGreatDoorIG
namespace Go.Proofs.YtminfmjgmmkaoaaGreatDoor
open Go.ChangeShapes Go.WideShapes Go.ChangeAt Go.Shelf Go.RowKit Go.Lib Go.Sort Go.Deep
set_option linter.unusedVariables false
set_option maxRecDepth 4000
set_option linter.unusedSimpArgs false

section
variable {P : Program} {ops : Array Oper} {rest : List Oper} {op : Oper} {a : Act} {w : World} {Q : Exit → Act → World → Prop}
theorem wpList_load_mid_g (hw : Region.wanted op (yielded ops a.tmps) = true) (ty : TypeId) (x : Operand) (ho : op.op = .load ty x)
    (b o : Nat) (hx : a.eval x = .pointer (some ⟨b, o, none⟩)) (cs : List Value) (d : TypeDesc) (hc : w.rangeAt b o cs)
    (hu : P.underlying ty = some d) (hd : d.isRow = true) (hi : (P.info? ty).map (·.size) = some cs.length)
    (h : wpList P ops Q rest (a.put op.dst (.agg cs.toArray)) w) : wpList P ops Q (op :: rest) a w :=
  wpList_step fun K hK => by
    rw [if_pos hw]
    exact wp_load_mid ty x ho b o hx cs d hc hu hd hi (hK _ _ h)
end
/-- A message is as itself. -/
theorem neqM_same (m : M) (w : World) : Sem.run Tryz.prog (binOp .neq 42 (.agg (encMs m).toArray) (.agg (encMs m).toArray)) w = .ok (.bool false) w := by
  obtain ⟨⟨t, f, q⟩, to', vv, u, an⟩ := m
  have u2 := Tryz.underlying2
  have u3 := Tryz.underlying3
  have a2 := Tryz.isAgg2
  have z2 := Tryz.sizeOf2
  have a3 := Tryz.isAgg3
  have z3 := Tryz.sizeOf3
  have a4 := Tryz.isAgg4
  have z4 := Tryz.sizeOf4
  have u4 := Tryz.underlying4
  have aK := Tryz.isAgg40
  have zK := Tryz.sizeOf40
  have hS : Tryz.prog.underlying 42 = some (.struct (Tryz.prog.fieldsOf 42)) := by kernel_rfl
  have hp : Tryz.prog.stoodInHeld 42 = false := by kernel_rfl
  have hK : Tryz.prog.underlying 40 = some (.struct (Tryz.prog.fieldsOf 40)) := by kernel_rfl
  have hpK : Tryz.prog.stoodInHeld 40 = false := by kernel_rfl
  have hA : ∀ (d : Nat) (w : World), Sem.run Tryz.prog (Op.equalIn (d + 2) 40 (.agg #[.int .i64 t, .int .i64 f, .int .i64 q]) (.agg #[.int .i64 t, .int .i64 f, .int .i64 q])) w = .ok true w := by
    intro d w
    rw [run_equalIn_agg w (d + 1) 40 _ _ hK hpK]
    simp only [Program.fieldsOf, Tryz.underlying40]
    go_simp
  rw [run_neq_struct]
  simp only [encMs]
  rw [run_equalIn_agg w 9999 42 _ _ hS hp]
  simp only [Program.fieldsOf, Tryz.underlying42]
  go_simp
theorem neqS_same (s : Sta) (w : World) : Sem.run Tryz.prog (binOp .neq 34 (.agg (encSt s).toArray) (.agg (encSt s).toArray)) w = .ok (.bool false) w := by
  have h := eqlS_refl (s.r.getD 0 0) (s.r.getD 1 0) (s.r.getD 2 0) (s.r.getD 3 0) (s.r.getD 4 0) (s.r.getD 5 0) (s.r.getD 6 0) (s.r.getD 7 0) s.d s.s w
  rw [run_eql_struct] at h
  rw [run_neq_struct]
  simp only [encSt]
  generalize Sem.run Tryz.prog (Op.equalIn 10000 34 _ _) w = r at *
  cases r with
  | ok b w' => simp [Result.andThen] at h ⊢; obtain ⟨rfl, rfl⟩ := h; simp
  | halt x w' => simp [Result.andThen] at h
theorem MsgAt.range {w : World} {b o : Nat} {m : M} (h : MsgAt w b o m) : w.rangeAt b o (encMs m) := by
  obtain ⟨_, h0, h1, h2, h3, h4, h5, h6⟩ := h
  intro j u hj
  have hl : j < 7 := by have := (List.getElem?_eq_some_iff.1 hj).1; simpa [encMs] using this
  rcases (by omega : j = 0 ∨ j = 1 ∨ j = 2 ∨ j = 3 ∨ j = 4 ∨ j = 5 ∨ j = 6) with rfl | rfl | rfl | rfl | rfl | rfl | rfl <;> (simp [encMs] at hj; subst hj; assumption)
set_option maxHeartbeats 16000000 in
theorem l10entry_same {w : World} {x : En} {a b : Option Addr} {c d : Nat} (hA : Mgs w a x.sent.length c x.sent) (hB : Mgs w b x.sent.length d x.sent) :
    Calls Tryz.prog 17 #[.agg (entC x.ev x.bf x.fl (.slice a x.sent.length c)).toArray, .agg (entC x.ev x.bf x.fl (.slice b x.sent.length d)).toArray] w fun e w' => e = .returned (.bool true) ∧ Below w.heap.size w w' := by
  have mixed := mixed
  obtain ⟨ev, bf, fl, ms⟩ := x
  simp only at hA hB ⊢
  have hb0 : Hid (Below w.heap.size w ((w.alloc (.cells (entC ev bf fl (.slice a ms.length c)).toArray 44)).alloc (.cells (entC ev bf fl (.slice b ms.length d)).toArray 44))) := Lib.hid (((Below.refl _ w).alloc (Nat.le_refl _) _).alloc (by simp) _)
  have h1 : ((w.alloc (.cells (entC ev bf fl (.slice a ms.length c)).toArray 44)).alloc (.cells (entC ev bf fl (.slice b ms.length d)).toArray 44)).heap[w.heap.size]? = some (.cells (entC ev bf fl (.slice a ms.length c)).toArray 44 (0, 0)) :=
    ((((Below.refl _ (w.alloc (.cells (entC ev bf fl (.slice a ms.length c)).toArray 44))).alloc (Nat.le_refl _) (.cells (entC ev bf fl (.slice b ms.length d)).toArray 44)).block w.heap.size (by simp)).trans (heap_alloc_new w _))
  have h2 : ((w.alloc (.cells (entC ev bf fl (.slice a ms.length c)).toArray 44)).alloc (.cells (entC ev bf fl (.slice b ms.length d)).toArray 44)).heap[w.heap.size + 1]? = some (.cells (entC ev bf fl (.slice b ms.length d)).toArray 44 (0, 0)) := by
    have := heap_alloc_new (w.alloc (.cells (entC ev bf fl (.slice a ms.length c)).toArray 44)) (.cells (entC ev bf fl (.slice b ms.length d)).toArray 44)
    rwa [World.size_alloc] at this
  obtain ⟨ra1, ra2, ca1, ca2⟩ := entC_range h1
  obtain ⟨rb1, rb2, cb1, cb2⟩ := entC_range h2
  have ra1 := Lib.hid ra1
  have ra2 := Lib.hid ra2
  have rb1 := Lib.hid rb1
  have rb2 := Lib.hid rb2
  clear h1 h2
  have hlm : (encMs ev).length = 7 := rfl
  have hls : (encSt bf).length = 10 := rfl
  have nM := neqM_same ev
  have nS := neqS_same bf
  have hA' := Lib.hid hA
  have hB' := Lib.hid hB
  have hEA : ∃ EA, (entC ev bf fl (.slice a ms.length c)).toArray = EA := ⟨_, rfl⟩
  obtain ⟨EA, hEA⟩ := hEA
  have hEB : ∃ EB, (entC ev bf fl (.slice b ms.length d)).toArray = EB := ⟨_, rfl⟩
  obtain ⟨EB, hEB⟩ := hEB
  rw [hEA, hEB] at hb0 ca1 ca2 cb1 cb2 ra1 ra2 rb1 rb2 ⊢
  have hcA : (Value.agg EA).cells = EA := rfl
  have hcB : (Value.agg EB).cells = EB := rfl
  clear hA hB hEA hEB
  generalize encMs ev = cm at *
  generalize encSt bf = cst at *
  go_enter Tryz.func17, Tryz.ntmps17
  go_wp2_with (first
    | (refine wpList_load_mid rfl 42 (.tmp 6) rfl w.heap.size 0 rfl cm _ ra1.out Tryz.underlying42 rfl (by rw [hlm]; exact infoMe) ?_)
    | (refine wpList_load_mid rfl 42 (.tmp 8) rfl (w.heap.size + 1) 0 rfl cm _ rb1.out Tryz.underlying42 rfl (by rw [hlm]; exact infoMe) ?_)
    | (refine wpList_load_mid_g rfl 34 (.tmp 12) rfl w.heap.size 7 rfl cst _ ra2.out Tryz.underlying34 rfl (by rw [hls]; exact infoS10) ?_)
    | (refine wpList_load_mid_g rfl 34 (.tmp 14) rfl (w.heap.size + 1) 7 rfl cst _ rb2.out Tryz.underlying34 rfl (by rw [hls]; exact infoS10) ?_))
  have hsz : ((w.alloc (.cells EA 44)).alloc (.cells EB 44)).heap.size = w.heap.size + 2 := by simp
  clear ra1 ra2 rb1 rb2 ca1 cb1 nS
  generalize (w.alloc (.cells EA 44)).alloc (.cells EB 44) = w0 at *
  have hca : Hid (∀ w', Below w0.heap.size w0 w' → w'.cell? ⟨w.heap.size, 18, none⟩ = some (.slice a ms.length c)) := Lib.hid (fun w' h => (h.cell (p := ⟨w.heap.size, 18, none⟩) (by show w.heap.size < w0.heap.size; omega)).trans ca2)
  have hcb : Hid (∀ w', Below w0.heap.size w0 w' → w'.cell? ⟨w.heap.size + 1, 18, none⟩ = some (.slice b ms.length d)) := Lib.hid (fun w' h => (h.cell (p := ⟨w.heap.size + 1, 18, none⟩) (by show w.heap.size + 1 < w0.heap.size; omega)).trans cb2)
  have hln : ms.length ≤ 9223372036854775807 := by have := hA'.out.2.1; have := hA'.out.2.2.1; unfold maxLen at *; omega
  clear ca2 cb2 nM
  go_loopw [5] (fun i wr => ∃ k : Nat, k ≤ ms.length ∧ i = .int .i64 (k : Int) ∧ Hid (Below w0.heap.size w0 wr)) (fun i _ => ms.length - (intOf i).toNat)
  case atStart => exact ⟨0, Nat.zero_le _, rfl, Lib.hid (Below.refl _ _)⟩
  case round =>
    obtain ⟨k, hk, rfl, hB⟩ := hrel
    have ca := hca.out wr hB.out
    by_cases hlt : k < ms.length
    · obtain ⟨ab, ao, rfl, hma⟩ : ∃ ab ao, a = some ⟨ab, ao, none⟩ ∧ ∀ i, i < ms.length → MsgAt w ab (ao + i * 7) (ms.getD i default) := by
        rcases hA'.out.2.2.2 with h0 | h1
        · omega
        · exact h1
      obtain ⟨bb, bo, rfl, hmb⟩ : ∃ bb bo, b = some ⟨bb, bo, none⟩ ∧ ∀ i, i < ms.length → MsgAt w bb (bo + i * 7) (ms.getD i default) := by
        rcases hB'.out.2.2.2 with h0 | h1
        · omega
        · exact h1
      have hra : Hid (∀ w', Below w0.heap.size w0 w' → w'.rangeAt ab (ao + k * 7) (encMs (ms.getD k default))) := Lib.hid (fun w' h => ((hma k hlt).below (hb0.out.trans (h.mono hb0.out.size))).range)
      have hrb : Hid (∀ w', Below w0.heap.size w0 w' → w'.rangeAt bb (bo + k * 7) (encMs (ms.getD k default))) := Lib.hid (fun w' h => ((hmb k hlt).below (hb0.out.trans (h.mono hb0.out.size))).range)
      have nk := neqM_same (ms.getD k default)
      have hl7 : (encMs (ms.getD k default)).length = 7 := rfl
      have hlt3 : (k : Int) < (ms.length : Int) := by omega
      have hk0 : (0 : Int) ≤ (k : Int) := by omega
      generalize encMs (ms.getD k default) = ck at *
      clear hma hmb
      go_upto_region 6 with fail
      refine wp_region_held_drew (S := fun w' => Below wr.heap.size wr w') (by kernel_rfl) (Below.refl _ wr).drew (fun hHeld => ?_)
      clear hHeld
      have hHd : Below wr.heap.size wr wr.drew := (Below.refl _ wr).drew
      refine wpAnyH_take (i := 0) (oi := { dst := some 41, op := Op.fieldAddr 44 (Operand.tmp 2) 3, type := 0, pos := "law.go:32", after := #[], guard := none }) (v := ?vv0_1) rfl (by kernel_rfl) (by kernel_rfl) (by kernel_rfl) (fun _ _ _ h => h) (Or.inl ⟨by rfl, ?hy0_1⟩) hHd ?rest0_1
      case hy0_1 =>
        intro w hSw
        go_simp
        try with_reducible rfl
      try simp only [Act.put, List.setIfInBounds_toArray, List.set_cons_zero, List.set_cons_succ]
      refine wpAnyH_take (i := 2) (oi := { dst := some 43, op := Op.move (Operand.tmp 5), type := 3, pos := "law.go:32", after := #[], guard := none }) (v := ?vv2_2) rfl (by kernel_rfl) (by kernel_rfl) (by kernel_rfl) (fun _ _ _ h => h) (Or.inl ⟨by rfl, ?hy2_2⟩) hHd ?rest2_2
      case hy2_2 =>
        intro w hSw
        go_simp
        try with_reducible rfl
      try simp only [Act.put, List.setIfInBounds_toArray, List.set_cons_zero, List.set_cons_succ]
      refine wpAnyH_take (i := 5) (oi := { dst := some 46, op := Op.fieldAddr 44 (Operand.tmp 3) 3, type := 0, pos := "law.go:32", after := #[], guard := none }) (v := ?vv5_3) rfl (by kernel_rfl) (by kernel_rfl) (by kernel_rfl) (fun _ _ _ h => h) (Or.inl ⟨by rfl, ?hy5_3⟩) hHd ?rest5_3
      case hy5_3 =>
        intro w hSw
        go_simp
        try with_reducible rfl
      try simp only [Act.put, List.setIfInBounds_toArray, List.set_cons_zero, List.set_cons_succ]
      refine wpAnyH_take (i := 7) (oi := { dst := some 48, op := Op.move (Operand.tmp 5), type := 3, pos := "law.go:32", after := #[], guard := none }) (v := ?vv7_4) rfl (by kernel_rfl) (by kernel_rfl) (by kernel_rfl) (fun _ _ _ h => h) (Or.inl ⟨by rfl, ?hy7_4⟩) hHd ?rest7_4
      case hy7_4 =>
        intro w hSw
        go_simp
        try with_reducible rfl
      try simp only [Act.put, List.setIfInBounds_toArray, List.set_cons_zero, List.set_cons_succ]
      refine wpAnyH_take (i := 1) (oi := { dst := some 42, op := Op.load 37 (Operand.tmp 41), type := 37, pos := "law.go:32", after := #[{ on := 0, ground := Ground.data }], guard := none }) (v := ?vv1_5) rfl (by kernel_rfl) (by kernel_rfl) (by kernel_rfl) (fun _ _ _ h => h) (Or.inl ⟨by rfl, ?hy1_5⟩) hHd ?rest1_5
      case hy1_5 =>
        intro w hSw
        have c := hca.out w (hB.out.trans (hSw.mono hB.out.size))
        go_simp
        try with_reducible rfl
      try simp only [Act.put, List.setIfInBounds_toArray, List.set_cons_zero, List.set_cons_succ]
      refine wpAnyH_take (i := 6) (oi := { dst := some 47, op := Op.load 37 (Operand.tmp 46), type := 37, pos := "law.go:32", after := #[{ on := 5, ground := Ground.data }], guard := none }) (v := ?vv6_6) rfl (by kernel_rfl) (by kernel_rfl) (by kernel_rfl) (fun _ _ _ h => h) (Or.inl ⟨by rfl, ?hy6_6⟩) hHd ?rest6_6
      case hy6_6 =>
        intro w hSw
        have c := hcb.out w (hB.out.trans (hSw.mono hB.out.size))
        go_simp
        try with_reducible rfl
      try simp only [Act.put, List.setIfInBounds_toArray, List.set_cons_zero, List.set_cons_succ]
      refine wpAnyH_take (i := 3) (oi := { dst := some 44, op := Op.indexAddr 37 (Operand.tmp 42) (Operand.tmp 43), type := 0, pos := "law.go:32", after := #[{ on := 1, ground := Ground.data }, { on := 2, ground := Ground.data }], guard := none }) (v := ?vv3_7) rfl (by kernel_rfl) (by kernel_rfl) (by kernel_rfl) (fun _ _ _ h => h) (Or.inl ⟨by rfl, ?hy3_7⟩) hHd ?rest3_7
      case hy3_7 =>
        intro w hSw
        go_simp
        try with_reducible rfl
      try simp only [Act.put, List.setIfInBounds_toArray, List.set_cons_zero, List.set_cons_succ]
      refine wpAnyH_take (i := 8) (oi := { dst := some 49, op := Op.indexAddr 37 (Operand.tmp 47) (Operand.tmp 48), type := 0, pos := "law.go:32", after := #[{ on := 6, ground := Ground.data }, { on := 7, ground := Ground.data }], guard := none }) (v := ?vv8_8) rfl (by kernel_rfl) (by kernel_rfl) (by kernel_rfl) (fun _ _ _ h => h) (Or.inl ⟨by rfl, ?hy8_8⟩) hHd ?rest8_8
      case hy8_8 =>
        intro w hSw
        go_simp
        try with_reducible rfl
      try simp only [Act.put, List.setIfInBounds_toArray, List.set_cons_zero, List.set_cons_succ]
      refine wpAnyH_take (i := 4) (oi := { dst := some 45, op := Op.load 42 (Operand.tmp 44), type := 42, pos := "law.go:32", after := #[{ on := 3, ground := Ground.data }], guard := none }) (v := .agg (ck).toArray) rfl (by kernel_rfl) (by kernel_rfl) (by kernel_rfl) (fun _ _ _ h => h) (yieldsIf_load_mid (by rfl) 42 (.tmp 44) (by rfl) ab (ao + k * 7) (by rfl) (ck) _ (fun w' h => hra.out w' (hB.out.trans (h.mono hB.out.size))) Tryz.underlying42 rfl (by rw [hl7]; exact infoMe)) hHd ?_
      try simp only [Act.put, List.setIfInBounds_toArray, List.set_cons_zero, List.set_cons_succ]
      refine wpAnyH_take (i := 9) (oi := { dst := some 50, op := Op.load 42 (Operand.tmp 49), type := 42, pos := "law.go:32", after := #[{ on := 8, ground := Ground.data }], guard := none }) (v := .agg (ck).toArray) rfl (by kernel_rfl) (by kernel_rfl) (by kernel_rfl) (fun _ _ _ h => h) (yieldsIf_load_mid (by rfl) 42 (.tmp 49) (by rfl) bb (bo + k * 7) (by rfl) (ck) _ (fun w' h => hrb.out w' (hB.out.trans (h.mono hB.out.size))) Tryz.underlying42 rfl (by rw [hl7]; exact infoMe)) hHd ?_
      try simp only [Act.put, List.setIfInBounds_toArray, List.set_cons_zero, List.set_cons_succ]
      refine wpAnyH_take (i := 10) (oi := { dst := some 51, op := Op.binOp BinOp.neq 42 (Operand.tmp 45) (Operand.tmp 50) 42, type := 4, pos := "law.go:32", after := #[{ on := 4, ground := Ground.data }, { on := 9, ground := Ground.data }], guard := none }) (v := ?vv10_9) rfl (by kernel_rfl) (by kernel_rfl) (by kernel_rfl) (fun _ _ _ h => h) (Or.inl ⟨by rfl, ?hy10_9⟩) hHd ?rest10_9
      case hy10_9 =>
        intro w hSw
        go_simp
        try with_reducible rfl
      try simp only [Act.put, List.setIfInBounds_toArray, List.set_cons_zero, List.set_cons_succ]
      refine wpAnyH_done (by kernel_rfl) ?_ _
      have hB6 := Lib.hid (hB.out.trans (hHd.mono hB.out.size))
      clear hra hrb hB hHd nk
      go_wp2
      go_roundw
      case rel => exact ⟨k + 1, by omega, by go_num, hB6⟩
      case measure => simp [intOf]; omega
    · obtain rfl : k = ms.length := by omega
      have hnl : ¬ (ms.length : Int) < (ms.length : Int) := by omega
      have hfin := Lib.hid (hb0.out.trans (hB.out.mono hb0.out.size))
      clear hB
      go_wp2
      go_ret
      exact ⟨rfl, hfin.out⟩
theorem EntsAt.form {w : World} {v : Value} {L : List (En × Value)} (h : EntsAt w v L) (h0 : 0 < L.length) : ∃ g off c, v = .slice (some ⟨g, off, none⟩) L.length c ∧ ∀ (k : Nat) (y : En × Value), L[k]? = some y → w.rangeAt g (off + k * 19) (encE y) := by
  obtain ⟨g, off, c, hv, hr⟩ := RowAt.form h.1 h0
  refine ⟨g, off, c, hv, fun k y hy j u hj => ?_⟩
  have hl : j < 19 := by have := (List.getElem?_eq_some_iff.1 hj).1; rw [encE_length] at this; exact this
  have := hr.cell (j := k * 19 + j) (u := u) (by rw [flatOf_get encE_length L k j y hy hl]; exact hj)
  rwa [← Nat.add_assoc] at this
set_option maxHeartbeats 16000000 in
theorem l10entries_same {w : World} {v1 v2 : Value} {L1 L2 : List (En × Value)} (h1 : EntsAt w v1 L1) (h2 : EntsAt w v2 L2) (he : L1.map Prod.fst = L2.map Prod.fst) (hn : L1.length ≤ 1000000) :
    Calls Tryz.prog 16 #[v1, v2] w fun e w' => e = .returned (.bool true) ∧ Below w.heap.size w w' := by
  have mixed := mixed
  have hlen : L1.length = L2.length := by have := congrArg List.length he; simpa using this
  obtain ⟨a1, c1, hv1, -⟩ := RowAt.shape h1.1
  obtain ⟨a2, c2, hv2, -⟩ := RowAt.shape h2.1
  rw [← hlen] at hv2
  have hr : Hid (∀ k, k < L1.length → ∃ y1 y2 g1 o1 g2 o2, L1[k]? = some y1 ∧ L2[k]? = some y2 ∧ y1.1 = y2.1 ∧ a1 = some ⟨g1, o1, none⟩ ∧ a2 = some ⟨g2, o2, none⟩ ∧ w.rangeAt g1 (o1 + k * 19) (encE y1) ∧ w.rangeAt g2 (o2 + k * 19) (encE y2) ∧ g1 < w.heap.size ∧ g2 < w.heap.size ∧ Sent w y1.2 y1.1.sent ∧ Sent w y2.2 y2.1.sent) := Lib.hid (fun k hk => by
    obtain ⟨g1, o1, d1, e1, r1⟩ := h1.form (by omega)
    obtain ⟨g2, o2, d2, e2, r2⟩ := h2.form (by omega)
    have t1 := h1.lt g1 (.inl (by rw [e1]; rfl))
    have t2 := h2.lt g2 (.inl (by rw [e2]; rfl))
    have x1 := List.getElem?_eq_getElem hk
    have x2 := List.getElem?_eq_getElem (show k < L2.length by omega)
    refine ⟨L1[k], L2[k]'(by omega), g1, o1, g2, o2, x1, x2, ?_, ?_, ?_, r1 k _ x1, r2 k _ x2, t1, t2, (h1.2 _ (List.getElem_mem _)).1, (h2.2 _ (List.getElem_mem _)).1⟩
    · have := congrArg (fun l => l[k]?) he
      simpa [x1, x2] using this
    · rw [hv1] at e1; simp at e1; exact e1.1
    · rw [hv2] at e2; simp at e2; exact e2.1)
  subst hv1
  subst hv2
  clear h1 h2 he hlen
  generalize L1.length = n at *
  go_enter Tryz.func16, Tryz.ntmps16
  go_wp2_with fail
  go_loopw [5] (fun i wr => ∃ k : Nat, k ≤ n ∧ i = .int .i64 (k : Int) ∧ Hid (Below w.heap.size w wr)) (fun i _ => n - (intOf i).toNat)
  case atStart => exact ⟨0, Nat.zero_le _, rfl, Lib.hid (Below.refl _ _)⟩
  case round =>
    obtain ⟨k, hk, rfl, hB⟩ := hrel
    by_cases hlt : k < n
    · obtain ⟨⟨x, u1⟩, ⟨x2, u2⟩, g1, o1, g2, o2, -, -, hx, rfl, rfl, r1, r2, t1, t2, s1, s2⟩ := hr.out k hlt
      simp only at hx s1 s2
      subst hx
      obtain ⟨b1, d1, rfl, m1⟩ := s1
      obtain ⟨b2, d2, rfl, m2⟩ := s2
      have hra : Hid (∀ w', Below wr.heap.size wr w' → w'.rangeAt g1 (o1 + k * 19) (entC x.ev x.bf x.fl (.slice b1 x.sent.length d1))) := Lib.hid (fun w' h => range_below r1 t1 (hB.out.trans (h.mono hB.out.size)))
      have hrb : Hid (∀ w', Below wr.heap.size wr w' → w'.rangeAt g2 (o2 + k * 19) (entC x.ev x.bf x.fl (.slice b2 x.sent.length d2))) := Lib.hid (fun w' h => range_below r2 t2 (hB.out.trans (h.mono hB.out.size)))
      have hen : Hid (∀ w', Below wr.heap.size wr w' → Calls Tryz.prog 17 #[.agg (entC x.ev x.bf x.fl (.slice b1 x.sent.length d1)).toArray, .agg (entC x.ev x.bf x.fl (.slice b2 x.sent.length d2)).toArray] w' fun e w2 => e = .returned (.bool true) ∧ Below w'.heap.size w' w2) := Lib.hid (fun w' h => l10entry_same (m1.below (hB.out.trans (h.mono hB.out.size))) (m2.below (hB.out.trans (h.mono hB.out.size))))
      have hla : (entC x.ev x.bf x.fl (.slice b1 x.sent.length d1)).length = 19 := rfl
      have hlb : (entC x.ev x.bf x.fl (.slice b2 x.sent.length d2)).length = 19 := rfl
      generalize entC x.ev x.bf x.fl (.slice b1 x.sent.length d1) = EA at *
      generalize entC x.ev x.bf x.fl (.slice b2 x.sent.length d2) = EB at *
      have hlt3 : (k : Int) < (n : Int) := by omega
      have hk0 : (0 : Int) ≤ (k : Int) := by omega
      clear r1 r2 m1 m2 hr
      go_upto_region 6 with fail
      refine wp_region_held_drew (S := fun w' => Below wr.heap.size wr w') (by kernel_rfl) (Below.refl _ wr).drew (fun hHeld => ?_)
      clear hHeld
      have hHd : Below wr.heap.size wr wr.drew := (Below.refl _ wr).drew
      refine wpAnyH_take (i := 0) (oi := { dst := some 17, op := Op.move (Operand.tmp 0), type := 47, pos := "law.go:45", after := #[], guard := none }) (v := ?vv0_10) rfl (by kernel_rfl) (by kernel_rfl) (by kernel_rfl) (fun _ _ _ h => h) (Or.inl ⟨by rfl, ?hy0_10⟩) hHd ?rest0_10
      case hy0_10 =>
        intro w hSw
        go_simp
        try with_reducible rfl
      try simp only [Act.put, List.setIfInBounds_toArray, List.set_cons_zero, List.set_cons_succ]
      refine wpAnyH_take (i := 1) (oi := { dst := some 18, op := Op.move (Operand.tmp 5), type := 3, pos := "law.go:45", after := #[], guard := none }) (v := ?vv1_11) rfl (by kernel_rfl) (by kernel_rfl) (by kernel_rfl) (fun _ _ _ h => h) (Or.inl ⟨by rfl, ?hy1_11⟩) hHd ?rest1_11
      case hy1_11 =>
        intro w hSw
        go_simp
        try with_reducible rfl
      try simp only [Act.put, List.setIfInBounds_toArray, List.set_cons_zero, List.set_cons_succ]
      refine wpAnyH_take (i := 2) (oi := { dst := some 19, op := Op.indexAddr 47 (Operand.tmp 17) (Operand.tmp 18), type := 0, pos := "law.go:45", after := #[{ on := 0, ground := Ground.data }, { on := 1, ground := Ground.data }], guard := none }) (v := ?vv2_12) rfl (by kernel_rfl) (by kernel_rfl) (by kernel_rfl) (fun _ _ _ h => h) (Or.inl ⟨by rfl, ?hy2_12⟩) hHd ?rest2_12
      case hy2_12 =>
        intro w hSw
        go_simp
        try with_reducible rfl
      try simp only [Act.put, List.setIfInBounds_toArray, List.set_cons_zero, List.set_cons_succ]
      refine wpAnyH_take (i := 4) (oi := { dst := some 21, op := Op.move (Operand.tmp 1), type := 47, pos := "law.go:45", after := #[], guard := none }) (v := ?vv4_13) rfl (by kernel_rfl) (by kernel_rfl) (by kernel_rfl) (fun _ _ _ h => h) (Or.inl ⟨by rfl, ?hy4_13⟩) hHd ?rest4_13
      case hy4_13 =>
        intro w hSw
        go_simp
        try with_reducible rfl
      try simp only [Act.put, List.setIfInBounds_toArray, List.set_cons_zero, List.set_cons_succ]
      refine wpAnyH_take (i := 5) (oi := { dst := some 22, op := Op.move (Operand.tmp 5), type := 3, pos := "law.go:45", after := #[], guard := none }) (v := ?vv5_14) rfl (by kernel_rfl) (by kernel_rfl) (by kernel_rfl) (fun _ _ _ h => h) (Or.inl ⟨by rfl, ?hy5_14⟩) hHd ?rest5_14
      case hy5_14 =>
        intro w hSw
        go_simp
        try with_reducible rfl
      try simp only [Act.put, List.setIfInBounds_toArray, List.set_cons_zero, List.set_cons_succ]
      refine wpAnyH_take (i := 6) (oi := { dst := some 23, op := Op.indexAddr 47 (Operand.tmp 21) (Operand.tmp 22), type := 0, pos := "law.go:45", after := #[{ on := 4, ground := Ground.data }, { on := 5, ground := Ground.data }], guard := none }) (v := ?vv6_15) rfl (by kernel_rfl) (by kernel_rfl) (by kernel_rfl) (fun _ _ _ h => h) (Or.inl ⟨by rfl, ?hy6_15⟩) hHd ?rest6_15
      case hy6_15 =>
        intro w hSw
        go_simp
        try with_reducible rfl
      try simp only [Act.put, List.setIfInBounds_toArray, List.set_cons_zero, List.set_cons_succ]
      refine wpAnyH_take (i := 3) (oi := { dst := some 20, op := Op.load 44 (Operand.tmp 19), type := 44, pos := "law.go:45", after := #[{ on := 2, ground := Ground.data }], guard := none }) (v := .agg (EA).toArray) rfl (by kernel_rfl) (by kernel_rfl) (by kernel_rfl) (fun _ _ _ h => h) (yieldsIf_load_mid (by rfl) 44 (.tmp 19) (by rfl) g1 (o1 + k * 19) (by rfl) (EA) _ (fun w' h => hra.out w' h) Tryz.underlying44 rfl (by rw [hla]; exact infoEn)) hHd ?_
      try simp only [Act.put, List.setIfInBounds_toArray, List.set_cons_zero, List.set_cons_succ]
      refine wpAnyH_take (i := 7) (oi := { dst := some 24, op := Op.load 44 (Operand.tmp 23), type := 44, pos := "law.go:45", after := #[{ on := 6, ground := Ground.data }], guard := none }) (v := .agg (EB).toArray) rfl (by kernel_rfl) (by kernel_rfl) (by kernel_rfl) (fun _ _ _ h => h) (yieldsIf_load_mid (by rfl) 44 (.tmp 23) (by rfl) g2 (o2 + k * 19) (by rfl) (EB) _ (fun w' h => hrb.out w' h) Tryz.underlying44 rfl (by rw [hlb]; exact infoEn)) hHd ?_
      try simp only [Act.put, List.setIfInBounds_toArray, List.set_cons_zero, List.set_cons_succ]
      refine wpAnyH_ready (rs := [8]) (by kernel_rfl) (by simp) ?_
      refine AllReadyH.cons (o := { dst := some 25, op := Op.call { callee := Callee.value (Operand.func 17), args := #[Operand.tmp 20, Operand.tmp 24], argTypes := #[44, 44] }, type := 4, pos := "law.go:45", after := #[{ on := 3, ground := Ground.data }, { on := 7, ground := Ground.data }], guard := none }) rfl (fun K hK => ?_) AllReadyH.nil
      go_simp
      refine (hen.out _ hHd).mono ?_
      rintro e w5 ⟨rfl, hb5⟩
      have hHw := hHd.trans (hb5.mono hHd.size)
      refine hK.out _ _ hHw (fun hHeld => ?_)
      clear hHeld hK K
      try simp only [Act.put, List.setIfInBounds_toArray, List.set_cons_zero, List.set_cons_succ]
      refine wpAnyH_take (i := 9) (oi := { dst := some 26, op := Op.unOp UnOp.not 4 (Operand.tmp 25), type := 4, pos := "law.go:45", after := #[{ on := 8, ground := Ground.data }], guard := none }) (v := ?vv9_16) rfl (by kernel_rfl) (by kernel_rfl) (by kernel_rfl) (fun _ _ _ h => h) (Or.inl ⟨by rfl, ?hy9_16⟩) hHw ?rest9_16
      case hy9_16 =>
        intro w hSw
        go_simp
        try with_reducible rfl
      try simp only [Act.put, List.setIfInBounds_toArray, List.set_cons_zero, List.set_cons_succ]
      refine wpAnyH_done (by kernel_rfl) ?_ _
      have hB6 := Lib.hid (hB.out.trans (hHw.mono hB.out.size))
      clear hra hrb hB hHd hHw hen
      go_wp2
      go_roundw
      case rel => exact ⟨k + 1, by omega, by go_num, hB6⟩
      case measure => simp [intOf]; omega
    · obtain rfl : k = n := by omega
      have hnl : ¬ (k : Int) < (k : Int) := by omega
      go_wp2
      go_ret
      exact ⟨rfl, hB.out⟩
end Go.Proofs.YtminfmjgmmkaoaaGreatDoor
