/-
  A stretch's and a log's begin.
  A log's begin, in plain data: which stretches go whole, and where the next is cut.
  The front of a row cleared: what lies behind it stays.
-/
import Derived.Test.YtminfmjgmmkaoaaGreatDoorIN
namespace Go.Proofs.YtminfmjgmmkaoaaGreatDoor
open Go.ChangeShapes Go.WideShapes Go.ChangeAt Go.Shelf Go.RowKit Go.Lib Go.Sort Go.Deep
set_option linter.unusedVariables false
set_option maxRecDepth 4000
set_option linter.unusedSimpArgs false

theorem deleteSteps_zero {w : World} {a : Option Addr} {n cap : Nat} (hn : n ≤ cap) (hnil : a = none → n = 0 ∧ cap = 0) :
    Calls Tryz.prog 77 #[.slice a n cap, .int .i64 0, .int .i64 0] w fun e w' => e = .returned (.slice a n cap) ∧ w = w' := by
  have mixed := mixed
  cases a with
  | none =>
    obtain ⟨rfl, rfl⟩ := hnil rfl
    go_enter Tryz.func77, Tryz.ntmps77
    go_wp2
    go_ret
    exact ⟨rfl, rfl⟩
  | some ad =>
    obtain ⟨g, off, s⟩ := ad
    have h1 : (n : Int) ≤ (cap : Int) := by omega
    have h2 : (0 : Int) ≤ (n : Int) := by omega
    have h3 : (0 : Int) ≤ (cap : Int) := by omega
    go_enter Tryz.func77, Tryz.ntmps77
    go_wp2
    go_ret
    exact ⟨rfl, rfl⟩
/-- What Delete leaves. -/
def DelQ (w : World) (v : Value) (L : List Stp) (p : Nat) (v' : Value) (w' : World) : Prop := AtP w' v' (L.drop p) ∧ KeptOff (fun k => v.ownBlock = some k) w w' ∧ ∀ k, v'.ownBlock = some k → v.ownBlock = some k
theorem delSteps {w : World} {v : Value} {L : List Stp} (h : AtP w v L) {p : Nat} (hp : p ≤ L.length) (hl : L.length < 1000000) (hone : ∀ q ∈ L, q.sv.oneCell' = true) :
    Calls Tryz.prog 77 #[v, .int .i64 0, .int .i64 (p : Int)] w fun e w' => ∃ v', e = .returned v' ∧ Hid (DelQ w v L p v' w') := by
  rcases h with ⟨rfl, h0, h1⟩ | ⟨g, off, cap, rfl, hr⟩
  · have hL : L = [] := List.eq_nil_of_length_eq_zero h0
    subst hL
    obtain rfl : p = 0 := by simpa using hp
    refine (deleteSteps_zero (w := w) (a := none) (n := 0) (cap := 0) (Nat.le_refl _) (fun _ => ⟨rfl, rfl⟩)).mono ?_
    rintro e w' ⟨rfl, rfl⟩
    exact ⟨_, rfl, .inl ⟨rfl, rfl, rfl⟩, KeptOff.refl _ _, fun k e => e⟩
  · rcases Nat.eq_zero_or_pos p with rfl | hp0
    · refine (deleteSteps_zero (w := w) (a := some ⟨g, off, none⟩) (n := L.length) (cap := cap) hr.bounds.1 (fun e => by cases e)).mono ?_
      rintro e w' ⟨rfl, rfl⟩
      exact ⟨_, rfl, .inr ⟨g, off, cap, rfl, hr⟩, KeptOff.refl _ _, fun k e => e⟩
    · refine (deleteSteps_any hr p hp0 hp hl hone).mono ?_
      rintro e w' ⟨rfl, h1, h2⟩
      exact ⟨_, rfl, .inr ⟨g, off, cap, by rw [List.length_drop], by rw [List.length_drop]; exact h1⟩, h2.mono (fun k _ e => by subst e; rfl), fun k e => e⟩
theorem row_mid (A cs : List Value) (q : Nat) (u : Value) (hc : cs.length = 10) (hq : q + 11 ≤ A.length) : (A.take q ++ cs ++ A.drop (q + 10)).set (q + 10) u = A.take q ++ (cs ++ [u]) ++ A.drop (q + 11) := by
  have h1 : (A.take q ++ cs).length = q + 10 := by rw [List.length_append, List.length_take, hc]; omega
  rw [List.set_append_right _ _ (by omega), h1, Nat.sub_self, List.drop_eq_getElem_cons (show q + 10 < A.length by omega), List.set_cons_zero]
  simp [List.append_assoc]
theorem row_mid_get (A cs : List Value) (q : Nat) (u : Value) (hc : cs.length = 10) (hq : q + 11 ≤ A.length) (hu : A[q + 10]? = some u) : (A.take q ++ cs ++ A.drop (q + cs.length))[q + 10]? = some u := by
  have h1 : (A.take q ++ cs).length = q + 10 := by rw [List.length_append, List.length_take, hc]; omega
  rw [List.getElem?_append_right (by omega), h1, hc, List.getElem?_drop]
  simpa using hu
/-- What a stretch's begin leaves. -/
def SpBQ (w : World) (g q : Nat) (cur : Array Value) (v : Value) (L : List Stp) (p : Nat) (st : Sta) (w' : World) : Prop :=
  ∃ v', AtP w' v' (L.drop p) ∧ w'.heap[g]? = some (.cells (cur.toList.take q ++ (encSt st ++ [v']) ++ cur.toList.drop (q + 11)).toArray 68 (0, 0)) ∧ KeptOff (fun k => k = g ∨ v.ownBlock = some k) w w' ∧ ∀ k, v'.ownBlock = some k → v.ownBlock = some k
set_option maxHeartbeats 8000000 in
theorem spBegin_any {w : World} {g q p : Nat} {cur : Array Value} {v : Value} {L : List Stp} {st : Sta} (hg : w.heap[g]? = some (.cells cur 68 (0, 0))) (hq : q + 11 ≤ cur.size) (hv : cur[q + 10]? = some v) (hL : AtP w v L) (hp : p ≤ L.length) (hl : L.length < 1000000) (hone : ∀ x ∈ L, x.sv.oneCell' = true) :
    Calls Tryz.prog 56 #[.pointer (some ⟨g, q, none⟩), .int .i64 (p : Int), .agg (encSt st).toArray] w fun e w' => e = .returned (.tuple #[]) ∧ Hid (SpBQ w g q cur v L p st w') := by
  have mixed := mixed
  obtain ⟨va, vc, hva, -⟩ := RowAt.shape hL
  have hbg := (Below.refl _ w).alloc (Nat.le_refl _) (.cells (encSt st).toArray 34)
  have hb0 := Lib.hid hbg
  have hX0 := Lib.hid (heap_alloc_new w (.cells (encSt st).toArray 34))
  have hg0 := Lib.hid ((hbg.block g (Array.getElem?_eq_some_iff.1 hg).1).trans hg)
  have hgl := (Array.getElem?_eq_some_iff.1 hg).1
  have hL0 : Hid (AtP (w.alloc (.cells (encSt st).toArray 34)) v L) := Lib.hid (RowAt.kept (S := fun _ => False) hL (.of_below hbg) (fun _ _ e => e))
  have hgv : v.ownBlock ≠ some g := fun e => by
    obtain ⟨c, h⟩ := RowAt.tag hL e
    rw [hg] at h
    simp at h
  have hXv : v.ownBlock ≠ some w.heap.size := fun e => by
    obtain ⟨c, h⟩ := RowAt.tag hL e
    have := (Array.getElem?_eq_some_iff.1 h).1
    omega
  have hls : (encSt st).length = 10 := rfl
  have hon := encSt_one st
  have hon2 : ∀ u ∈ encSt st, u.oneCell' = true := fun u hu => by have := hon; simp only [List.all_toArray, List.all_eq_true] at this; exact this u hu
  have hcst : ∃ cst, encSt st = cst := ⟨_, rfl⟩
  obtain ⟨cst, hcst⟩ := hcst
  rw [hcst] at hb0 hX0 hg0 hL0 hls hon hon2 ⊢
  have hcst' := Lib.hid hcst
  have hcc : (Value.agg cst.toArray).cells = cst.toArray := rfl
  clear hg hL hbg hcst
  go_enter Tryz.func56, Tryz.ntmps56
  go_wp2_with fail
  generalize w.alloc (.cells cst.toArray 34) = w0 at *
  have hS0 : Hid (∀ w', KeptOff (fun k => v.ownBlock = some k) w0 w' → w'.heap[g]? = some (.cells cur 68 (0, 0)) ∧ w'.heap[w.heap.size]? = some (.cells cst.toArray 34 (0, 0))) := Lib.hid (fun w' h => ⟨(h.block _ (Array.getElem?_eq_some_iff.1 hg0.out).1 hgv).trans hg0.out, (h.block _ (Array.getElem?_eq_some_iff.1 hX0.out).1 hXv).trans hX0.out⟩)
  have hdel : Hid (∀ w', Below w0.heap.size w0 w' → _) := Lib.hid (fun w' h => delSteps (w := w') (p := p) (RowAt.kept (S := fun _ => False) hL0.out (.of_below h) (fun _ _ e => e)) hp hl hone)
  have hv' : Hid (cur[q + 10]? = some v) := Lib.hid hv
  clear hv hone
  refine wp_region_Z (fun w' => w'.cell? ⟨g, q + 10, none⟩ = some v ∧ w'.rangeAt w.heap.size 0 cst) 14 (by kernel_rfl) ?_
  have hkd : KeptOff (fun k => v.ownBlock = some k) w0 w0.drew := ⟨rfl, rfl, rfl, Nat.le_refl _, fun _ _ _ => rfl⟩
  have hF : Hid (∀ w', KeptOff (fun k => v.ownBlock = some k) w0 w' → w'.cell? ⟨g, q + 10, none⟩ = some v ∧ w'.rangeAt w.heap.size 0 cst) := Lib.hid (fun w' h => ⟨by rw [cell_of_row w' g _ cur _ (0, 0) (hS0.out w' h).1]; exact hv'.out, by have := range_block (hS0.out w' h).2; simpa using this⟩)
  have hHd := hF.out _ hkd
  refine wpAnyZ_take (i := 0) (oi := { dst := some 6, op := Op.move (Operand.tmp 0), type := 97, pos := "stretch.go:64", after := #[], guard := none }) (v := ?zv0_1) rfl (by kernel_rfl) (by kernel_rfl) (by kernel_rfl) (fun _ _ _ h => h) (by decide) (Or.inl ⟨by rfl, ?zy0_1⟩) (fun _ => hHd) ?zrest0_1
  case zy0_1 =>
    intro w _
    go_simp
    try with_reducible rfl
  try simp only [Act.put, List.setIfInBounds_toArray, List.set_cons_zero, List.set_cons_succ]
  refine wpAnyZ_take (i := 1) (oi := { dst := some 7, op := Op.move (Operand.tmp 0), type := 97, pos := "stretch.go:64", after := #[{ on := 11, ground := Ground.gcOnly Departure.lateStores }], guard := none }) (v := ?zv1_2) rfl (by kernel_rfl) (by kernel_rfl) (by kernel_rfl) (fun _ _ _ h => h) (by decide) (Or.inl ⟨by rfl, ?zy1_2⟩) (fun _ => hHd) ?zrest1_2
  case zy1_2 =>
    intro w _
    go_simp
    try with_reducible rfl
  try simp only [Act.put, List.setIfInBounds_toArray, List.set_cons_zero, List.set_cons_succ]
  refine wpAnyZ_take (i := 3) (oi := { dst := some 9, op := Op.move (Operand.tmp 0), type := 97, pos := "stretch.go:64", after := #[], guard := none }) (v := ?zv3_3) rfl (by kernel_rfl) (by kernel_rfl) (by kernel_rfl) (fun _ _ _ h => h) (by decide) (Or.inl ⟨by rfl, ?zy3_3⟩) (fun _ => hHd) ?zrest3_3
  case zy3_3 =>
    intro w _
    go_simp
    try with_reducible rfl
  try simp only [Act.put, List.setIfInBounds_toArray, List.set_cons_zero, List.set_cons_succ]
  refine wpAnyZ_take (i := 7) (oi := { dst := some 13, op := Op.move (Operand.tmp 1), type := 3, pos := "stretch.go:64", after := #[], guard := none }) (v := ?zv7_4) rfl (by kernel_rfl) (by kernel_rfl) (by kernel_rfl) (fun _ _ _ h => h) (by decide) (Or.inl ⟨by rfl, ?zy7_4⟩) (fun _ => hHd) ?zrest7_4
  case zy7_4 =>
    intro w _
    go_simp
    try with_reducible rfl
  try simp only [Act.put, List.setIfInBounds_toArray, List.set_cons_zero, List.set_cons_succ]
  refine wpAnyZ_take (i := 4) (oi := { dst := some 10, op := Op.nilCheck (Operand.tmp 9), type := 0, pos := "stretch.go:64", after := #[{ on := 3, ground := Ground.data }], guard := none }) (v := ?zv4_5) rfl (by kernel_rfl) (by kernel_rfl) (by kernel_rfl) (fun _ _ _ h => h) (by decide) (Or.inl ⟨by rfl, ?zy4_5⟩) (fun _ => hHd) ?zrest4_5
  case zy4_5 =>
    intro w _
    go_simp
    try with_reducible rfl
  try simp only [Act.put, List.setIfInBounds_toArray, List.set_cons_zero, List.set_cons_succ]
  refine wpAnyZ_take (i := 5) (oi := { dst := some 11, op := Op.fieldAddr 68 (Operand.tmp 10) 1, type := 0, pos := "stretch.go:64", after := #[{ on := 4, ground := Ground.data }], guard := none }) (v := ?zv5_6) rfl (by kernel_rfl) (by kernel_rfl) (by kernel_rfl) (fun _ _ _ h => h) (by decide) (Or.inl ⟨by rfl, ?zy5_6⟩) (fun _ => hHd) ?zrest5_6
  case zy5_6 =>
    intro w _
    go_simp
    try with_reducible rfl
  try simp only [Act.put, List.setIfInBounds_toArray, List.set_cons_zero, List.set_cons_succ]
  refine wpAnyZ_load (i := 2) (oi := { dst := some 8, op := Op.load 34 (Operand.tmp 5), type := 34, pos := "stretch.go:64", after := #[], guard := none }) (v := .agg (cst).toArray) rfl (by kernel_rfl) (by kernel_rfl) (by kernel_rfl) (fun _ _ _ h => h) (by decide) (by kernel_rfl) (by kernel_rfl) (yieldsIf_load_mid (by rfl) 34 (.tmp 5) (by rfl) w.heap.size 0 (by rfl) (cst) _ (fun w' h => h.2) Tryz.underlying34 rfl (by rw [hls]; exact infoS10)) hHd ?_
  try simp only [Act.put, List.setIfInBounds_toArray, List.set_cons_zero, List.set_cons_succ]
  subst hva
  refine wpAnyZ_load (i := 6) (oi := { dst := some 12, op := Op.load 66 (Operand.tmp 11), type := 66, pos := "stretch.go:64", after := #[{ on := 5, ground := Ground.data }], guard := none }) (v := ?zv6_7) rfl (by kernel_rfl) (by kernel_rfl) (by kernel_rfl) (fun _ _ _ h => h) (by decide) (by kernel_rfl) (by kernel_rfl) (Or.inl ⟨by rfl, ?zy6_7⟩) hHd ?zrest6_7
  case zy6_7 =>
    intro w hSw
    have c := hSw.1
    go_simp
    try with_reducible rfl
  try simp only [Act.put, List.setIfInBounds_toArray, List.set_cons_zero, List.set_cons_succ]
  refine wpAnyZ_ready (rs := [8]) (by kernel_rfl) (by simp) ?_
  refine AllReadyZ.cons (o := { dst := some 14, op := Op.call { callee := Callee.value (Operand.func 77), args := #[Operand.tmp 12, Operand.const (Value.int IntKind.i64 0), Operand.tmp 13], argTypes := #[66, 3, 3] }, type := 66, pos := "stretch.go:64", after := #[{ on := 6, ground := Ground.data }, { on := 7, ground := Ground.data }], guard := none }) rfl (fun K hK => ?_) AllReadyZ.nil
  go_simp
  refine (hdel.out _ ((Below.refl _ w0).drew)).mono ?_
  rintro e w5 ⟨v', rfl, hq5⟩
  have hk5 := hkd.trans hq5.out.2.1
  have hHw := hF.out _ hk5
  obtain ⟨na, nc, hna, -⟩ := RowAt.shape hq5.out.1
  refine hK.out _ _ (fun _ => hHw) ?_
  clear hK K
  try simp only [Act.put, List.setIfInBounds_toArray, List.set_cons_zero, List.set_cons_succ]
  refine wpAnyZ_take (i := 9) (oi := { dst := some 15, op := Op.nilCheck (Operand.tmp 6), type := 0, pos := "stretch.go:64", after := #[{ on := 0, ground := Ground.data }, { on := 0, ground := Ground.phase }, { on := 1, ground := Ground.textOnly Departure.lateStores }, { on := 2, ground := Ground.phase }, { on := 3, ground := Ground.textOnly Departure.lateStores }, { on := 4, ground := Ground.textOnly Departure.lateStoresUnsure }, { on := 5, ground := Ground.textOnly Departure.lateStoresUnsure }, { on := 6, ground := Ground.phase }, { on := 7, ground := Ground.textOnly Departure.lateStores }, { on := 8, ground := Ground.phase }], guard := none }) (v := ?zv9_8) rfl (by kernel_rfl) (by kernel_rfl) (by kernel_rfl) (fun _ _ _ h => h) (by decide) (Or.inl ⟨by rfl, ?zy9_8⟩) (fun _ => hHw) ?zrest9_8
  case zy9_8 =>
    intro w _
    go_simp
    try with_reducible rfl
  try simp only [Act.put, List.setIfInBounds_toArray, List.set_cons_zero, List.set_cons_succ]
  refine wpAnyZ_take (i := 10) (oi := { dst := some 16, op := Op.fieldAddr 68 (Operand.tmp 15) 0, type := 0, pos := "stretch.go:64", after := #[{ on := 9, ground := Ground.data }, { on := 0, ground := Ground.phase }, { on := 1, ground := Ground.textOnly Departure.lateStores }, { on := 2, ground := Ground.phase }, { on := 3, ground := Ground.textOnly Departure.lateStores }, { on := 4, ground := Ground.textOnly Departure.lateStoresUnsure }, { on := 5, ground := Ground.textOnly Departure.lateStoresUnsure }, { on := 6, ground := Ground.phase }, { on := 7, ground := Ground.textOnly Departure.lateStores }, { on := 8, ground := Ground.phase }], guard := none }) (v := ?zv10_9) rfl (by kernel_rfl) (by kernel_rfl) (by kernel_rfl) (fun _ _ _ h => h) (by decide) (Or.inl ⟨by rfl, ?zy10_9⟩) (fun _ => hHw) ?zrest10_9
  case zy10_9 =>
    intro w _
    go_simp
    try with_reducible rfl
  try simp only [Act.put, List.setIfInBounds_toArray, List.set_cons_zero, List.set_cons_succ]
  have hg5 := (hS0.out _ hk5).1
  have hg6 := Lib.hid (setRow_heap (new := (cur.toList.take q ++ cst ++ cur.toList.drop (q + cst.length)).toArray) hg5)
  have hk6 := hk5.mono (S' := fun k => k = g ∨ (Value.slice va L.length vc).ownBlock = some k) (fun k _ e => .inr e) |>.trans ((KeptOff.row w5 g (cur.toList.take q ++ cst ++ cur.toList.drop (q + cst.length)).toArray).mono (fun k _ e => .inl e))
  have hH6 : (w5.setRow g (cur.toList.take q ++ cst ++ cur.toList.drop (q + cst.length)).toArray).cell? ⟨g, q + 10, none⟩ = some (.slice va L.length vc) ∧ (w5.setRow g (cur.toList.take q ++ cst ++ cur.toList.drop (q + cst.length)).toArray).rangeAt w.heap.size 0 cst := ⟨by
      rw [cell_of_row _ g _ _ _ (0, 0) hg6.out, List.getElem?_toArray]
      exact row_mid_get _ _ _ _ hls (by rw [Array.length_toList]; exact hq) (by simpa using hv'.out), by
      have := range_block (((KeptOff.row w5 g (cur.toList.take q ++ cst ++ cur.toList.drop (q + cst.length)).toArray).block _ (Array.getElem?_eq_some_iff.1 (hS0.out _ hk5).2).1 (by omega)).trans (hS0.out _ hk5).2)
      simpa using this⟩
  have fz6 : (w5.setRow g (cur.toList.take q ++ cst ++ cur.toList.drop (q + cst.length)).toArray).frozen? ⟨g, q + 10, none⟩ = false := frozen_of_cells hg6.out
  have hq5' := Lib.hid (RowAt.kept (S := fun k => k = g) hq5.out.1 (KeptOff.row w5 g (cur.toList.take q ++ cst ++ cur.toList.drop (q + cst.length)).toArray) (fun k e e2 => hgv (e2 ▸ hq5.out.2.2 k e)))
  refine wpAnyZ_ready (rs := [11]) (by kernel_rfl) (by simp) ?_
  refine AllReadyZ.cons (o := { dst := none, op := Op.store 34 (Operand.tmp 16) (Operand.tmp 8), type := 0, pos := "stretch.go:64", after := #[{ on := 10, ground := Ground.data }, { on := 2, ground := Ground.data }, { on := 8, ground := Ground.chain }, { on := 0, ground := Ground.phase }, { on := 1, ground := Ground.textOnly Departure.lateStores }, { on := 2, ground := Ground.phase }, { on := 3, ground := Ground.textOnly Departure.lateStores }, { on := 4, ground := Ground.textOnly Departure.lateStoresUnsure }, { on := 5, ground := Ground.textOnly Departure.lateStoresUnsure }, { on := 6, ground := Ground.phase }, { on := 7, ground := Ground.textOnly Departure.lateStores }, { on := 8, ground := Ground.phase }], guard := none }) rfl (fun K hK => ?_) AllReadyZ.nil
  refine step_store_midrow (by rfl) 34 (.tmp 16) (.tmp 8) (by rfl) g q cst (by rfl) (by rfl) hg5 (by rw [hls]; omega) hon2 (by rw [hls]; exact infoS10) ?_
  refine hK.out _ _ (fun _ => hH6) ?_
  clear hK K
  try simp only [Act.put, List.setIfInBounds_toArray, List.set_cons_zero, List.set_cons_succ]
  generalize w5.setRow g (cur.toList.take q ++ cst ++ cur.toList.drop (q + cst.length)).toArray = w6 at *
  subst hna
  have c6 := hH6.1
  refine wpAnyZ_take (i := 12) (oi := { dst := some 17, op := Op.nilCheck (Operand.tmp 7), type := 0, pos := "stretch.go:64", after := #[{ on := 1, ground := Ground.data }, { on := 0, ground := Ground.phase }, { on := 1, ground := Ground.phase }, { on := 2, ground := Ground.phase }, { on := 3, ground := Ground.phase }, { on := 4, ground := Ground.phase }, { on := 5, ground := Ground.phase }, { on := 6, ground := Ground.phase }, { on := 7, ground := Ground.phase }, { on := 8, ground := Ground.phase }, { on := 9, ground := Ground.phase }, { on := 10, ground := Ground.phase }, { on := 11, ground := Ground.phase }], guard := none }) (v := ?zv12_10) rfl (by kernel_rfl) (by kernel_rfl) (by kernel_rfl) (fun _ _ _ h => h) (by decide) (Or.inl ⟨by rfl, ?zy12_10⟩) (fun _ => hH6) ?zrest12_10
  case zy12_10 =>
    intro w _
    go_simp
    try with_reducible rfl
  try simp only [Act.put, List.setIfInBounds_toArray, List.set_cons_zero, List.set_cons_succ]
  refine wpAnyZ_take (i := 13) (oi := { dst := some 18, op := Op.fieldAddr 68 (Operand.tmp 17) 1, type := 0, pos := "stretch.go:64", after := #[{ on := 12, ground := Ground.data }, { on := 0, ground := Ground.phase }, { on := 1, ground := Ground.phase }, { on := 2, ground := Ground.phase }, { on := 3, ground := Ground.phase }, { on := 4, ground := Ground.phase }, { on := 5, ground := Ground.phase }, { on := 6, ground := Ground.phase }, { on := 7, ground := Ground.phase }, { on := 8, ground := Ground.phase }, { on := 9, ground := Ground.phase }, { on := 10, ground := Ground.phase }, { on := 11, ground := Ground.phase }], guard := none }) (v := ?zv13_11) rfl (by kernel_rfl) (by kernel_rfl) (by kernel_rfl) (fun _ _ _ h => h) (by decide) (Or.inl ⟨by rfl, ?zy13_11⟩) (fun _ => hH6) ?zrest13_11
  case zy13_11 =>
    intro w _
    go_simp
    try with_reducible rfl
  try simp only [Act.put, List.setIfInBounds_toArray, List.set_cons_zero, List.set_cons_succ]
  refine wpAnyZ_ready (rs := [14]) (by kernel_rfl) (by simp) ?_
  refine AllReadyZ.cons (o := { dst := none, op := Op.store 66 (Operand.tmp 18) (Operand.tmp 14), type := 0, pos := "stretch.go:64", after := #[{ on := 13, ground := Ground.data }, { on := 8, ground := Ground.data }, { on := 11, ground := Ground.chain }, { on := 0, ground := Ground.phase }, { on := 1, ground := Ground.phase }, { on := 2, ground := Ground.phase }, { on := 3, ground := Ground.phase }, { on := 4, ground := Ground.phase }, { on := 5, ground := Ground.phase }, { on := 6, ground := Ground.phase }, { on := 7, ground := Ground.phase }, { on := 8, ground := Ground.phase }, { on := 9, ground := Ground.phase }, { on := 10, ground := Ground.phase }, { on := 11, ground := Ground.phase }], guard := none }) rfl (fun K hK => ?_) AllReadyZ.nil
  go_simp
  refine hK.out _ _ (fun h => absurd h (by decide)) ?_
  clear hK K
  try simp only [Act.put, List.setIfInBounds_toArray, List.set_cons_zero, List.set_cons_succ]
  refine wpAnyZ_done (by kernel_rfl) ?_ _
  have hks := KeptOff.set w6 ⟨g, q + 10, none⟩ (.slice na (L.drop p).length nc)
  have hfin : Hid (SpBQ w g q cur (.slice va L.length vc) L p st (w6.setCell ⟨g, q + 10, none⟩ (.slice na (L.drop p).length nc))) := Lib.hid ⟨_, RowAt.kept hq5'.out hks (fun k e e2 => hgv (by have e3 : k = g := e2; rw [← e3]; exact hq5.out.2.2 k e)), by
    rw [Go.heap_setCell_same w6 g (q + 10) _ _ _ hg6.out, hcst'.out]
    rw [List.setIfInBounds_toArray, hls, row_mid cur.toList cst q _ hls (by rw [Array.length_toList]; exact hq)], ((KeptOff.of_below hb0.out).trans hk6).trans (hks.mono (fun k _ e => .inl e)), hq5.out.2.2⟩
  clear hks hq5' hq5 hk6 hg6 hH6 hHd hHw hS0 hdel hF hkd c6 fz6
  rw [List.length_drop] at hfin
  go_wp2
  go_end0
  exact ⟨rfl, hfin⟩
end Go.Proofs.YtminfmjgmmkaoaaGreatDoor
namespace Go.Proofs.YtminfmjgmmkaoaaGreatDoor
open Go.ChangeShapes Go.WideShapes Go.ChangeAt Go.Shelf Go.RowKit Go.Lib Go.Sort Go.Deep
set_option linter.unusedVariables false
set_option maxRecDepth 4000
set_option linter.unusedSimpArgs false

/-- How many stretches go whole, and how many steps of the next. -/
def wholeN : List Sth → Nat → Nat × Nat
  | [], n => (0, n)
  | [_], n => (0, n)
  | s :: t :: r, n => if s.L.length ≤ n then ((wholeN (t :: r) (n - s.L.length)).1 + 1, (wholeN (t :: r) (n - s.L.length)).2) else (0, n)
theorem total_cons (s : Sth) (ss : List Sth) : total (s :: ss) = s.L.length + total ss := by simp [total]
/-- What is left: the stretch that is cut, and those behind it. -/
theorem wholeN_spec {W : Wd} : ∀ {ss : List Sth} {n : Nat} {st : Sta}, ss ≠ [] → n ≤ total ss → Chain W ss st →
    ∃ s r, ss.drop (wholeN ss n).1 = s :: r ∧ (wholeN ss n).2 ≤ s.L.length ∧ total (s :: r) = total ss - n + (wholeN ss n).2 ∧ Chain W (s :: r) st ∧ ((wholeN ss n).2 = s.L.length → r = []) ∧
      toldAll W (s :: r) = (toldAll W ss).drop (n - (wholeN ss n).2) ∧ (wholeN ss n).2 ≤ n ∧ (wholeN ss n).1 < ss.length
  | [], n, st, h, _, _ => absurd rfl h
  | [s], n, st, _, hn, hc => by
    simp only [total_one] at hn
    refine ⟨s, [], rfl, hn, ?_, hc, fun _ => rfl, by simp [wholeN], Nat.le_refl _, by simp [wholeN]⟩
    simp only [wholeN, total_one]
    omega
  | s :: t :: r, n, st, _, hn, hc => by
    simp only [wholeN]
    by_cases hle : s.L.length ≤ n
    · rw [if_pos hle]
      rw [total_cons] at hn
      obtain ⟨s', r', h1, h2, h3, h4, h5, h6, h7, h8⟩ := wholeN_spec (W := W) (ss := t :: r) (n := n - s.L.length) (st := st) (by simp) (by omega) hc.2
      refine ⟨s', r', by simpa using h1, h2, ?_, h4, h5, ?_, by omega, by simp at h8 ⊢; omega⟩
      · rw [h3, total_cons s (t :: r)]
        omega
      · rw [h6]
        have e : toldAll W (s :: t :: r) = told W s.kept s.L ++ toldAll W (t :: r) := by simp [toldAll]
        have e2 : (told W s.kept s.L).length = s.L.length := told_length W _ _
        rw [e, show n - (wholeN (t :: r) (n - s.L.length)).2 = s.L.length + (n - s.L.length - (wholeN (t :: r) (n - s.L.length)).2) by omega, ← List.drop_drop, List.drop_left' e2]
    · rw [if_neg hle]
      exact ⟨s, t :: r, rfl, by simp only; omega, by simp only; omega, hc, fun h => by simp only at h; omega, by simp, Nat.le_refl _, by simp⟩
/-- The entries that are left, and the state ahead of the first of them. -/
theorem begin_told {W : Wd} {s : Sth} {r : List Sth} {st base : Sta} {v' : Value} {m : Nat} (hc : Chain W (s :: r) st) (hm : m ≤ s.L.length) (hb : base = stAt W s.kept s.L m) : toldAll W (⟨base, v', s.L.drop m⟩ :: r) = (toldAll W (s :: r)).drop m ∧ Chain W (⟨base, v', s.L.drop m⟩ :: r) st := by
  have e1 : told W s.kept s.L = told W s.kept (s.L.take m) ++ told W base (s.L.drop m) := by
    rw [hb]
    conv => lhs; rw [← List.take_append_drop m s.L]
    rw [told_append]
    rfl
  have e2 : behind W base (s.L.drop m) = behind W s.kept s.L := by
    rw [hb]
    conv => rhs; rw [← List.take_append_drop m s.L]
    rw [behind_append]
    rfl
  have hl : (told W s.kept (s.L.take m)).length = m := by rw [told_length, List.length_take]; omega
  refine ⟨?_, ?_⟩
  · have h1 : toldAll W (⟨base, v', s.L.drop m⟩ :: r) = told W base (s.L.drop m) ++ toldAll W r := by simp [toldAll]
    have h2 : toldAll W (s :: r) = told W s.kept s.L ++ toldAll W r := by simp [toldAll]
    rw [h1, h2, e1, List.append_assoc, List.drop_left' hl]
  · cases r with
    | nil => exact e2.trans hc
    | cons t r => exact ⟨e2.trans hc.1, hc.2⟩
/-- The state ahead of the first entry that is left: the one that this tells; or the log's. -/
theorem cut_base {W : Wd} {s : Sth} {r : List Sth} {st : Sta} {m : Nat} (hc : Chain W (s :: r) st) (hm : m ≤ s.L.length) (hr : m = s.L.length → r = []) :
    (∃ e, (toldAll W (s :: r))[m]? = some e ∧ e.bf = stAt W s.kept s.L m) ∨ (m = s.L.length ∧ r = [] ∧ st = stAt W s.kept s.L m) := by
  by_cases h : m < s.L.length
  · refine .inl ⟨⟨(s.L[m]).ev, stAt W s.kept s.L m, (s.L[m]).fl, (s.L[m]).sent⟩, ?_, rfl⟩
    have h2 : toldAll W (s :: r) = told W s.kept s.L ++ toldAll W r := by simp [toldAll]
    rw [h2, List.getElem?_append_left (by rw [told_length]; exact h)]
    exact told_get (List.getElem?_eq_getElem h)
  · have e : m = s.L.length := by omega
    have h0 := hr e
    subst h0
    refine .inr ⟨e, rfl, ?_⟩
    have h1 : behind W s.kept s.L = st := hc
    rw [← h1, stAt, e, List.take_length]
/-- The base that Drop hands to begin is that state. -/
theorem drop_base {W : Wd} {ss : List Sth} {n : Nat} {st base : Sta} (h0 : ss ≠ []) (hn : n ≤ total ss) (hc : Chain W ss st) (hb : (∃ e, (toldAll W ss)[n]? = some e ∧ base = e.bf) ∨ (n = total ss ∧ base = st)) :
    ∃ s r, ss.drop (wholeN ss n).1 = s :: r ∧ (wholeN ss n).2 ≤ s.L.length ∧ (wholeN ss n).1 < ss.length ∧ base = stAt W s.kept s.L (wholeN ss n).2 ∧ ∀ v', toldAll W (⟨base, v', s.L.drop (wholeN ss n).2⟩ :: r) = (toldAll W ss).drop n ∧ Chain W (⟨base, v', s.L.drop (wholeN ss n).2⟩ :: r) st := by
  obtain ⟨s, r, h1, h2, h3, h4, h5, h6, h7, h8⟩ := wholeN_spec (W := W) h0 hn hc
  have hbs : base = stAt W s.kept s.L (wholeN ss n).2 := by
    rcases cut_base h4 h2 h5 with ⟨e, he, hbf⟩ | ⟨hm, hr, hst⟩
    · rw [h6, List.getElem?_drop, show n - (wholeN ss n).2 + (wholeN ss n).2 = n by omega] at he
      rcases hb with ⟨e', he', hb⟩ | ⟨hb, _⟩
      · rw [he] at he'
        obtain rfl := Option.some.inj he'
        rw [hb, hbf]
      · have := (List.getElem?_eq_some_iff.1 he).1
        rw [toldAll_length] at this
        omega
    · rcases hb with ⟨e', he', hb⟩ | ⟨_, hb⟩
      · exfalso
        have hlt := (List.getElem?_eq_some_iff.1 he').1
        rw [toldAll_length] at hlt
        subst hr
        rw [total_one] at h3
        omega
      · rw [hb, hst]
  refine ⟨s, r, h1, h2, h8, hbs, fun v' => ?_⟩
  obtain ⟨g1, g2⟩ := begin_told (v' := v') h4 h2 hbs
  refine ⟨?_, g2⟩
  rw [g1, h6, List.drop_drop, show n - (wholeN ss n).2 + (wholeN ss n).2 = n by omega]
end Go.Proofs.YtminfmjgmmkaoaaGreatDoor
namespace Go.Proofs.YtminfmjgmmkaoaaGreatDoor
open Go.ChangeShapes Go.WideShapes Go.ChangeAt Go.Shelf Go.RowKit Go.Lib Go.Sort Go.Deep
set_option linter.unusedVariables false
set_option maxRecDepth 4000
set_option linter.unusedSimpArgs false

theorem RowIn.clearFront {P : Program} {w : World} {e : TypeId} {sz g off n cap k : Nat} {xs : List Value} (h : RowIn w e sz g off n cap xs) (hk : k ≤ n) (t ty : TypeId) (z : Value) (ht : P.underlying t = some (.slice e)) (hz : ∀ w, (zeroValue e).run P w = .ok z w) (hzs : z.cells.size = sz) (hz1 : ∀ u ∈ z.cells.toList, u.oneCell' = true) (hk0 : 0 < k) (c : Nat) :
    ∃ w', (Builtin.clear_ #[t] ty #[.slice (some ⟨g, off, none⟩) k c]).run P w = .ok (.tuple #[]) w' ∧ RowIn w' e sz g (off + k * sz) (n - k) (cap - k) (xs.drop (k * sz)) ∧ KeptOff (fun i => i = g) w w' := by
  have hpart := h.part k (n - k) (by omega)
  obtain ⟨cur, g0, g2, g3, g4, g5, g6⟩ := h
  have e1 : k * sz ≤ n * sz := Nat.mul_le_mul_right _ hk
  have e2 : n * sz ≤ cap * sz := Nat.mul_le_mul_right _ g2
  have hzl : (Builtin.zeroCells z.cells k).toList.length = k * sz := by rw [Array.length_toList, size_zeroCells, hzs]
  have hz2 : ∀ u ∈ (Builtin.zeroCells z.cells k).toList, u.oneCell' = true := by
    intro u hu
    simp only [Builtin.zeroCells, Array.toList_map, List.mem_map] at hu
    obtain ⟨x, hx, rfl⟩ := hu
    simp at hx
    have h0 : 0 < z.cells.size := by
      rcases Nat.eq_zero_or_pos z.cells.size with h | h
      · rw [h] at hx; omega
      · exact h
    have hlt := Nat.mod_lt x h0
    rw [getElem!_pos z.cells _ hlt]
    exact hz1 _ (by simp)
  have hst := run_storeCells_at P g off e _ 0 cur w g0 (by rw [hzl]; omega) hz2
  simp only [Nat.add_zero] at hst
  have hxs : ((xs.drop (k * sz)).take ((n - k) * sz)) = xs.drop (k * sz) := by
    refine List.take_of_length_le ?_
    rw [List.length_drop, g5, Nat.sub_mul]
    omega
  rw [hxs] at hpart
  obtain ⟨k, rfl⟩ : ∃ k', k = k' + 1 := ⟨k - 1, by omega⟩
  refine ⟨_, ?_, ?_, KeptOff.row w g (cur.toList.take off ++ (Builtin.zeroCells z.cells (k + 1)).toList ++ cur.toList.drop (off + (Builtin.zeroCells z.cells (k + 1)).toList.length)).toArray⟩
  · simp [Builtin.clear_, run_underlying ht, hz, hst]
  · obtain ⟨cur2, f0, f2, f3, f4, f5, f6⟩ := hpart
    obtain rfl : cur = cur2 := by rw [g0] at f0; simpa using f0
    have e3 : (cur.toList.take off ++ (Builtin.zeroCells z.cells (k + 1)).toList ++ cur.toList.drop (off + (Builtin.zeroCells z.cells (k + 1)).toList.length)) = splice cur.toList off (Builtin.zeroCells z.cells (k + 1)).toList := by unfold splice; rw [List.append_assoc]
    have e4 : off + (Builtin.zeroCells z.cells (k + 1)).toList.length ≤ cur.toList.length := by
      rw [hzl, Array.length_toList]
      omega
    rw [e3]
    refine ⟨_, Go.setRow_heap w g cur _ e _ g0, f2, f3, by rw [List.size_toArray, length_splice _ _ _ e4, Array.length_toList]; exact f4, f5, fun j u hj => ?_⟩
    rw [List.getElem?_toArray, splice_get _ _ _ e4, if_neg (by omega), if_neg (by rw [hzl]; omega), Array.getElem?_toList]
    exact f6 j u hj
end Go.Proofs.YtminfmjgmmkaoaaGreatDoor
