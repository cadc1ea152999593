/-
  The document's own way: Peek, Put.
-/
import Derived.Test.YtjbammgnkegecaaKS
namespace Go.Proofs.Ytjbammgnkegecaa
open Go.ChangeShapes Go.WideShapes Go.ChangeAt Go.Shelf Go.RowKit Go.Lib Go.Sort Go.Deep
set_option linter.unusedVariables false
set_option maxRecDepth 4000
set_option linter.unusedSimpArgs false

theorem step_store_row {P : Program} {ops : Array Oper} {E : Prop} {o : Oper} {a : Act} {w : World} {K : Act → World → Prop} {Q : Exit → Act → World → Prop} (hgd : o.guard = none) (ty : TypeId) (x y : Operand) (ho : o.op = .store ty x y)
    (g : Nat) (cells : Array Value) (hx : a.eval x = .pointer (some ⟨g, 0, none⟩)) (hy : a.eval y = .agg cells)
    (t : TypeId) (old : Array Value) (hg : w.heap[g]? = some (.cells old t (0, 0))) (hi : (P.info? ty).map (·.size) = some cells.size)
    (hold : old.size = cells.size) (h1 : cells.all (·.oneCell') = true)
    (h : K (a.put o.dst undef) (w.setRow g cells)) : if Region.wanted o (yielded ops a.tmps) = true then Oper.wp P o a w K Q else E := by
  have hw : Region.wanted o (yielded ops a.tmps) = true := by simp [Region.wanted, hgd]
  rw [if_pos hw]
  exact wp_store_row ty x y ho g cells hx hy t old hg hi hold h1 h
section
variable {w : World} {hb : Nat} {S : Nat → Prop} {y : Wy} {lk : Int} {v : Value} {L : List Pc}
set_option maxHeartbeats 1000000 in
theorem rlPeek_none (h : DyOf w hb S y lk v []) (n : Int) : Calls Try.prog 14 #[.pointer (some ⟨hb, 0, none⟩), .int .i64 n] w fun e w' => e = .returned (.tuple #[zeroP.val, .int .i64 6]) ∧ Below w.heap.size w w' := by
  have c5 := (h.below ((Below.refl _ w).alloc (Nat.le_refl _) (.cells #[.int .i64 0, .int .i64 0, .int .i64 0, .int .i64 0, .int .i64 0, .int .i64 0, .bool false, .int .i64 0] 37))).c5
  obtain ⟨a, cap, rfl, hc⟩ := h.shape
  simp only [List.length_nil] at c5
  clear h hc
  go_enter Try.func14, Try.ntmps14
  go_wp2
  refine bodyPost_ret (v := .tuple #[.agg #[.int .i64 0, .int .i64 0, .int .i64 0, .int .i64 0, .int .i64 0, .int .i64 0, .bool false, .int .i64 0], .int .i64 6]) (by simp [results, Try.results14, go_sem]) rfl ⟨rfl, ?_⟩
  repeat (refine Below.setCell ?_ (by simp) _)
  exact (Below.refl _ w).alloc (Nat.le_refl _) _
set_option maxHeartbeats 4000000 in
theorem rlPeek_some (h : DyOf w hb S y lk v L) (n : Int) (hl : L.length < 1000000000000000) (h0 : 0 < L.length) : Calls Try.prog 14 #[.pointer (some ⟨hb, 0, none⟩), .int .i64 n] w fun e w' => e = .returned (.tuple #[(L.getD (placeN y.loose n L.length) default).val, .int .i64 0]) ∧ Below w.heap.size w w' := by
  have mixed := mixed
  have hk := placeN_lt y.loose n h0
  obtain ⟨g, off, cap, rfl, hc1, hc2, hgl, -⟩ := AtP.get h.list hk
  have hbx : Hid (BoxP (w.alloc (.cells zeroP.cells 37)) w.heap.size zeroP) := BoxP.mk w zeroP
  have hb0 : Hid (Below w.heap.size w (w.alloc (.cells zeroP.cells 37))) := (Below.refl _ w).alloc (Nat.le_refl _) _
  have hpl : Hid (∀ w1, Below (w.alloc (.cells zeroP.cells 37)).heap.size (w.alloc (.cells zeroP.cells 37)) w1 → _) := Lib.hid (fun w1 h1 => rlPlace_any (h.below (hb0.out.trans (h1.mono hb0.out.size))) n hl h0)
  obtain ⟨p, hpp⟩ : ∃ p, p = L.getD (placeN y.loose n L.length) default := ⟨_, rfl⟩
  have hS : Hid (∀ w1, Below (w.alloc (.cells zeroP.cells 37)).heap.size (w.alloc (.cells zeroP.cells 37)) w1 → w1.cell? ⟨hb, 5, none⟩ = some (.slice (some ⟨g, off, none⟩) L.length cap) ∧ w1.rangeAt g (off + placeN y.loose n L.length * 8) (encP p) ∧ BoxP w1 w.heap.size zeroP) := by
    intro w1 h1
    have hb1 := hb0.out.trans (h1.mono hb0.out.size)
    have h2 := h.below hb1
    obtain ⟨g', off', cap', e, _, _, _, hr⟩ := AtP.get h2.list hk
    cases e
    exact ⟨h2.c5, by rw [hpp]; exact hr, hbx.out.below h1⟩
  have c5 := (hS.out _ (Below.refl _ _)).1
  rw [← hpp]
  clear hbx h hpp
  have hN0 : ¬ (L.length : Int) = 0 := by omega
  generalize L.length = N at *
  generalize placeN y.loose n N = k at *
  have hk1 : (0 : Int) ≤ (k : Int) := by omega
  have hk2 : (k : Int) < (N : Int) := by omega
  go_enter Try.func14, Try.ntmps14
  go_upto_region 1 with (fail)
  rw [show w.alloc (.cells #[.int .i64 0, .int .i64 0, .int .i64 0, .int .i64 0, .int .i64 0, .int .i64 0, .bool false, .int .i64 0] 37) = w.alloc (.cells zeroP.cells 37) from rfl]
  generalize w.alloc (.cells zeroP.cells 37) = W0 at *
  go_upto_region 3 with (fail)
  refine wp_region_Z (fun w' => Below W0.heap.size W0 w') 9 (by kernel_rfl) ?_
  have hHd : Below W0.heap.size W0 W0.drew := (Below.refl _ W0).drew
  refine wpAnyZ_take (i := 0) (oi := { dst := some 13, op := Op.move (Operand.tmp 0), type := 29, pos := "ref.go:59", after := #[], guard := none }) (v := ?zv0_1) rfl (by kernel_rfl) (by kernel_rfl) (by kernel_rfl) (fun _ _ _ h => h) (by decide) (Or.inl ⟨by rfl, ?zy0_1⟩) (fun _ => hHd) ?zrest0_1
  case zy0_1 =>
    intro w _
    go_simp
    try with_reducible rfl
  try simp only [Act.put, List.setIfInBounds_toArray, List.set_cons_zero, List.set_cons_succ]
  refine wpAnyZ_take (i := 1) (oi := { dst := some 14, op := Op.nilCheck (Operand.tmp 13), type := 0, pos := "ref.go:59", after := #[{ on := 0, ground := Ground.data }], guard := none }) (v := ?zv1_2) rfl (by kernel_rfl) (by kernel_rfl) (by kernel_rfl) (fun _ _ _ h => h) (by decide) (Or.inl ⟨by rfl, ?zy1_2⟩) (fun _ => hHd) ?zrest1_2
  case zy1_2 =>
    intro w _
    go_simp
    try with_reducible rfl
  try simp only [Act.put, List.setIfInBounds_toArray, List.set_cons_zero, List.set_cons_succ]
  refine wpAnyZ_take (i := 2) (oi := { dst := some 15, op := Op.fieldAddr 50 (Operand.tmp 14) 2, type := 0, pos := "ref.go:59", after := #[{ on := 1, ground := Ground.data }], guard := none }) (v := ?zv2_3) rfl (by kernel_rfl) (by kernel_rfl) (by kernel_rfl) (fun _ _ _ h => h) (by decide) (Or.inl ⟨by rfl, ?zy2_3⟩) (fun _ => hHd) ?zrest2_3
  case zy2_3 =>
    intro w _
    go_simp
    try with_reducible rfl
  try simp only [Act.put, List.setIfInBounds_toArray, List.set_cons_zero, List.set_cons_succ]
  refine wpAnyZ_take (i := 4) (oi := { dst := some 17, op := Op.move (Operand.tmp 0), type := 29, pos := "ref.go:59", after := #[], guard := none }) (v := ?zv4_4) rfl (by kernel_rfl) (by kernel_rfl) (by kernel_rfl) (fun _ _ _ h => h) (by decide) (Or.inl ⟨by rfl, ?zy4_4⟩) (fun _ => hHd) ?zrest4_4
  case zy4_4 =>
    intro w _
    go_simp
    try with_reducible rfl
  try simp only [Act.put, List.setIfInBounds_toArray, List.set_cons_zero, List.set_cons_succ]
  refine wpAnyZ_take (i := 5) (oi := { dst := some 18, op := Op.move (Operand.tmp 1), type := 3, pos := "ref.go:59", after := #[], guard := none }) (v := ?zv5_5) rfl (by kernel_rfl) (by kernel_rfl) (by kernel_rfl) (fun _ _ _ h => h) (by decide) (Or.inl ⟨by rfl, ?zy5_5⟩) (fun _ => hHd) ?zrest5_5
  case zy5_5 =>
    intro w _
    go_simp
    try with_reducible rfl
  try simp only [Act.put, List.setIfInBounds_toArray, List.set_cons_zero, List.set_cons_succ]
  refine wpAnyZ_load (i := 3) (oi := { dst := some 16, op := Op.load 48 (Operand.tmp 15), type := 48, pos := "ref.go:59", after := #[{ on := 2, ground := Ground.data }], guard := none }) (v := ?zv3_6) rfl (by kernel_rfl) (by kernel_rfl) (by kernel_rfl) (fun _ _ _ h => h) (by decide) (by kernel_rfl) (by kernel_rfl) (Or.inl ⟨by rfl, ?zy3_6⟩) hHd ?zrest3_6
  case zy3_6 =>
    intro w hSw
    have c := (hS.out w hSw).1
    go_simp
    try with_reducible rfl
  try simp only [Act.put, List.setIfInBounds_toArray, List.set_cons_zero, List.set_cons_succ]
  refine wpAnyZ_ready (rs := [6]) (by kernel_rfl) (by simp) ?_
  refine AllReadyZ.cons (o := { dst := some 19, op := Op.call { callee := Callee.value (Operand.func 31), args := #[Operand.tmp 17, Operand.tmp 18], argTypes := #[29, 3] }, type := 3, pos := "ref.go:59", after := #[{ on := 4, ground := Ground.data }, { on := 5, ground := Ground.data }], guard := none }) rfl (fun K hK => ?_) AllReadyZ.nil
  go_simp
  refine (hpl.out _ hHd).mono ?_
  rintro x w1 ⟨rfl, rfl⟩
  refine hK.out _ _ (fun _ => hHd) ?_
  clear hK K
  try simp only [Act.put, List.setIfInBounds_toArray, List.set_cons_zero, List.set_cons_succ]
  refine wpAnyZ_take (i := 7) (oi := { dst := some 20, op := Op.indexAddr 48 (Operand.tmp 16) (Operand.tmp 19), type := 0, pos := "ref.go:59", after := #[{ on := 3, ground := Ground.data }, { on := 6, ground := Ground.data }], guard := none }) (v := ?zv7_7) rfl (by kernel_rfl) (by kernel_rfl) (by kernel_rfl) (fun _ _ _ h => h) (by decide) (Or.inl ⟨by rfl, ?zy7_7⟩) (fun _ => hHd) ?zrest7_7
  case zy7_7 =>
    intro w _
    go_simp
    try with_reducible rfl
  try simp only [Act.put, List.setIfInBounds_toArray, List.set_cons_zero, List.set_cons_succ]
  refine wpAnyZ_load (i := 8) (oi := { dst := some 21, op := Op.load 37 (Operand.tmp 20), type := 37, pos := "ref.go:59", after := #[{ on := 7, ground := Ground.data }], guard := none }) (v := .agg (encP p).toArray) rfl (by kernel_rfl) (by kernel_rfl) (by kernel_rfl) (fun _ _ _ h => h) (by decide) (by kernel_rfl) (by kernel_rfl) (yieldsIf_load_mid (by rfl) 37 (.tmp 20) (by rfl) g (off + k * 8) (by rfl) (encP p) _ (fun w' h => (hS.out w' h).2.1) Try.underlying37 rfl infoPs) hHd ?_
  try simp only [Act.put, List.setIfInBounds_toArray, List.set_cons_zero, List.set_cons_succ]
  refine wpAnyZ_ready (rs := [9]) (by kernel_rfl) (by simp) ?_
  refine AllReadyZ.cons (o := { dst := none, op := Op.store 37 (Operand.tmp 4) (Operand.tmp 21), type := 0, pos := "ref.go:59", after := #[{ on := 8, ground := Ground.data }, { on := 6, ground := Ground.chain }, { on := 0, ground := Ground.phase }, { on := 1, ground := Ground.phase }, { on := 2, ground := Ground.phase }, { on := 3, ground := Ground.phase }, { on := 4, ground := Ground.phase }, { on := 5, ground := Ground.phase }, { on := 6, ground := Ground.phase }, { on := 7, ground := Ground.phase }, { on := 8, ground := Ground.phase }], guard := none }) rfl (fun K hK => ?_) AllReadyZ.nil
  refine step_store_row (by rfl) 37 (.tmp 4) (.tmp 21) (by rfl) w.heap.size (encP p).toArray (by rfl) (by rfl) 37 zeroP.cells (hS.out _ hHd).2.2 infoPs (by rfl) (Pc.cells_one p) ?_
  refine hK.out _ _ (fun h => absurd h (by decide)) ?_
  clear hK K
  try simp only [Act.put, List.setIfInBounds_toArray, List.set_cons_zero, List.set_cons_succ]
  refine wpAnyZ_take (i := 10) (oi := { dst := some 5, op := Op.assign (Operand.const (Value.int IntKind.i64 0)), type := 3, pos := "ref.go:59", after := #[{ on := 9, ground := Ground.chain }, { on := 0, ground := Ground.phase }, { on := 1, ground := Ground.phase }, { on := 2, ground := Ground.phase }, { on := 3, ground := Ground.phase }, { on := 4, ground := Ground.phase }, { on := 5, ground := Ground.phase }, { on := 6, ground := Ground.phase }, { on := 7, ground := Ground.phase }, { on := 8, ground := Ground.phase }, { on := 9, ground := Ground.phase }], guard := none }) (v := ?zv10_8) rfl (by kernel_rfl) (by kernel_rfl) (by kernel_rfl) (fun _ _ _ h => h) (by decide) (Or.inl ⟨by rfl, ?zy10_8⟩) (fun h => absurd h (by decide)) ?zrest10_8
  case zy10_8 =>
    intro w _
    go_simp
    try with_reducible rfl
  try simp only [Act.put, List.setIfInBounds_toArray, List.set_cons_zero, List.set_cons_succ]
  refine wpAnyZ_done (by kernel_rfl) ?_ _
  have hbd := hS.out _ hHd
  have hbx2 := hbd.2.2
  generalize W0.drew = W1 at *
  obtain ⟨s0, s1, s2, s3, s4, s5, s6, s7⟩ := (hbx2.row p).at
  simp only [Nat.zero_add] at s0 s1 s2 s3 s4 s5 s6 s7
  have hfin := Lib.hid (((KeptOff.of_below (S := fun k => False) (hb0.out.trans (hHd.mono hb0.out.size))).then_new (KeptOff.setRow W1 w.heap.size (encP p).toArray) (fun k hk e => by omega)).below (fun _ _ e => e.elim) (Nat.le_refl _))
  clear hS hpl hHd hbd hbx2 c5
  rw [show p.cells = (encP p).toArray from rfl] at s0 s1 s2 s3 s4 s5 s6 s7
  generalize W1.setRow w.heap.size (encP p).toArray = W2 at *
  go_wp2
  exact bodyPost_ret (v := .tuple #[p.val, .int .i64 0]) (by simp [results, Try.results14, go_sem, s0, s1, s2, s3, s4, s5, s6, s7, Pc.val]) rfl ⟨rfl, hfin.out⟩
theorem rlPeek_any (h : DyAt w hb S y L) (n : Int) (hl : L.length < 1000000000000000) : Calls Try.prog 14 #[.pointer (some ⟨hb, 0, none⟩), .int .i64 n] w fun e w' => e = .returned (.tuple #[(peekP y L n).val, .int .i64 (peekC L)]) ∧ Below w.heap.size w w' := by
  obtain ⟨lk, v, h⟩ := h
  cases L with
  | nil => exact rlPeek_none h n
  | cons p L =>
    have := rlPeek_some h n hl (by simp)
    unfold peekP peekC
    rw [if_neg (by simp), if_neg (by simp)]
    exact this
end
end Go.Proofs.Ytjbammgnkegecaa
