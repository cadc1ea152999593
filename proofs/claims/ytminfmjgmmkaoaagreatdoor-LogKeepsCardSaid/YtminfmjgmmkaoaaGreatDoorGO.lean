/-
  A log's put.
-/
import Derived.Test.YtminfmjgmmkaoaaGreatDoorGN
import Derived.Test.YtminfmjgmmkaoaaGreatDoorGZ
namespace Go.Proofs.YtminfmjgmmkaoaaGreatDoor
open Go.ChangeShapes Go.WideShapes Go.ChangeAt Go.Shelf Go.RowKit Go.Lib Go.Sort Go.Deep
set_option linter.unusedVariables false
set_option maxRecDepth 4000
set_option linter.unusedSimpArgs false

theorem infoTh : (Tryz.prog.info? 68).map (fun i => (i.zero, i.size, i.bytes)) = some (some (.agg #[.int .i64 0, .int .i64 0, .int .i64 0, .int .i64 0, .int .i64 0, .int .i64 0, .int .i64 0, .int .i64 0, .int .i64 0, .int .i64 0, .slice none 0 0]), 11, 104) := by kernel_rfl
theorem infoSp : (Tryz.prog.info? 101).map (fun i => (i.zero, i.size, i.bytes)) = some (some (.agg #[.int .i64 0, .int .i64 0, .int .i64 0, .int .i64 0, .int .i64 0, .int .i64 0, .bool false, .int .i64 0, .slice none 0 0]), 9, 88) := by kernel_rfl
theorem build_stretch (s : Sta) (w : World) : (Instr.build 68 #[(0, .agg (encSt s).toArray)]).run Tryz.prog w = .ok (.agg (encSt s ++ [Value.slice none 0 0]).toArray) w := by kernel_rfl
theorem build_step (m : M) (f : Int) (a : Option Addr) (n c : Nat) (w : World) : (Instr.build 101 #[(0, .agg (encMs m).toArray), (1, .int .i64 f), (2, .slice a n c)]).run Tryz.prog w = .ok (.agg (encMs m ++ [Value.int .i64 f, Value.slice a n c]).toArray) w := by kernel_rfl
theorem lit_stretch (s : Sta) (w : World) : (Instr.buildSlice 69 1 #[(0, .agg (encSt s ++ [Value.slice none 0 0]).toArray)]).run Tryz.prog w = .ok (.slice (some ⟨w.heap.size, 0, none⟩) 1 1) (w.alloc (.cells (encSt s ++ [Value.slice none 0 0]).toArray 68)) := by kernel_rfl
theorem lit_step (m : M) (f : Int) (a : Option Addr) (n c : Nat) (w : World) : (Instr.buildSlice 66 1 #[(0, .agg (encMs m ++ [Value.int .i64 f, Value.slice a n c]).toArray)]).run Tryz.prog w = .ok (.slice (some ⟨w.heap.size, 0, none⟩) 1 1) (w.alloc (.cells (encMs m ++ [Value.int .i64 f, Value.slice a n c]).toArray 101)) := by kernel_rfl
section
variable {P : Program} {ops : Array Oper} {E : Prop} {o : Oper} {a : Act} {w w2 : World} {K : Act → World → Prop} {Q : Exit → Act → World → Prop}
theorem step_append_row (hgd : o.guard = none) (s x : Operand) (t : TypeId) (ho : o.op = .call { callee := .builtin .append, args := #[s, x], argTypes := #[t, t] })
    {e : TypeId} {sz n : Nat} {v : Value} {xs : List Value} (h : RowAt w e sz v n xs) (i : TypeInfo) (z : Value) (bytes : Nat) (ht : P.underlying t = some (.slice e)) (hi : P.info? e = some i) (hz : i.zero = some z) (hsize : i.size = sz) (hby : i.bytes = bytes)
    (hzs : z.cells.size = sz) (hsz : 0 < sz) (hs : a.eval s = v) (ad : Addr) (c : Nat) (news : List Value) (hx : a.eval x = .slice (some ad) 1 c) (hl : news.length = sz) (hnews : ∀ j u, news[j]? = some u → w.cell? (ad.add j) = some u) (h1 : ∀ u ∈ news, u.oneCell' = true)
    (h63 : n + 1 ≤ maxLen) (hbytes : (n + 1) * bytes ≤ 140737488355328)
    (hK : ∀ g off cap w', Hid (RowIn w' e sz g off (n + 1) cap (xs ++ news)) → Hid (KeptOff (fun k => v.ownBlock = some k) w w') → Hid (v.ownBlock = some g ∨ w.heap.size ≤ g) → K (a.put o.dst (.slice (some ⟨g, off, none⟩) (n + 1) cap)) w') :
    if Region.wanted o (yielded ops a.tmps) = true then Oper.wp P o a w K Q else E := by
  have hw : Region.wanted o (yielded ops a.tmps) = true := by simp [Region.wanted, hgd]
  rw [if_pos hw]
  obtain ⟨g, off, cap, w', hrun, r1, r2, r3⟩ := h.append (P := P) t o.type i z bytes ht hi hz hsize hby hzs hsz ad c news hl hnews h1 h63 hbytes
  unfold Oper.wp
  simp [execOp, ho, resolve, invoke, builtin, hs, hx, hrun, Result.andThen]
  exact hK g off cap w' r1 r2 r3
theorem step_buildSlice (hgd : o.guard = none) (t : TypeId) (n : Nat) (parts : Array (Nat × Operand)) (ho : o.op = .buildSlice t n parts) (vals : Array (Nat × Value)) (hv : parts.map (fun (i, x) => (i, a.eval x)) = vals) {u : Value}
    (hb : (Instr.buildSlice t n vals).run P w = .ok u w2) (h : K (a.put o.dst u) w2) : if Region.wanted o (yielded ops a.tmps) = true then Oper.wp P o a w K Q else E := by
  have hw : Region.wanted o (yielded ops a.tmps) = true := by simp [Region.wanted, hgd]
  rw [if_pos hw]
  unfold Oper.wp execOp
  simp only [ho, hv]
  simp [hb, Result.andThen]
  exact h
end
theorem flatT_one (t : Sth) : ∀ u ∈ encT t, t.v.oneCell' = true → u.oneCell' = true := by
  intro u hu hv
  simp only [encT, encSt, List.cons_append, List.nil_append, List.mem_cons, List.not_mem_nil, or_false] at hu
  rcases hu with rfl | rfl | rfl | rfl | rfl | rfl | rfl | rfl | rfl | rfl | rfl <;> first | rfl | exact hv
theorem flatP_one (p : Stp) : ∀ u ∈ encP p, p.sv.oneCell' = true → u.oneCell' = true := by
  intro u hu hv
  simp only [encP, encMs, List.cons_append, List.nil_append, List.mem_cons, List.not_mem_nil, or_false] at hu
  rcases hu with rfl | rfl | rfl | rfl | rfl | rfl | rfl | rfl | rfl <;> first | rfl | exact hv
theorem news_of {w : World} {g : Nat} {cs : List Value} {T : TypeId} (h : w.heap[g]? = some (.cells cs.toArray T (0, 0))) (j : Nat) (u : Value) (hj : cs[j]? = some u) : w.cell? ((⟨g, 0, none⟩ : Addr).add j) = some u := by
  rw [Addr.add_lit, Nat.zero_add, cell_of_row w g j _ T (0, 0) h]
  simpa using hj
theorem entC_range {w : World} {g : Nat} {m : M} {s : Sta} {f : Int} {sv : Value} {T : TypeId} (h : w.heap[g]? = some (.cells (entC m s f sv).toArray T (0, 0))) :
    w.rangeAt g 0 (encMs m) ∧ w.rangeAt g 7 (encSt s) ∧ w.cell? ⟨g, 17, none⟩ = some (.int .i64 f) ∧ w.cell? ⟨g, 18, none⟩ = some sv := by
  refine ⟨fun j u hj => ?_, fun j u hj => ?_, row_cell h 17 rfl, row_cell h 18 rfl⟩
  · have hl : j < 7 := by have := (List.getElem?_eq_some_iff.1 hj).1; simpa [encMs] using this
    refine row_cell h (0 + j) ?_
    rcases (by omega : j = 0 ∨ j = 1 ∨ j = 2 ∨ j = 3 ∨ j = 4 ∨ j = 5 ∨ j = 6) with rfl | rfl | rfl | rfl | rfl | rfl | rfl <;> exact hj
  · have hl : j < 10 := by have := (List.getElem?_eq_some_iff.1 hj).1; simpa [encSt] using this
    refine row_cell h (7 + j) ?_
    rcases (by omega : j = 0 ∨ j = 1 ∨ j = 2 ∨ j = 3 ∨ j = 4 ∨ j = 5 ∨ j = 6 ∨ j = 7 ∨ j = 8 ∨ j = 9) with rfl | rfl | rfl | rfl | rfl | rfl | rfl | rfl | rfl | rfl <;> exact hj
/-- The cell of a stretch where its steps' slice lies. -/
theorem AtT.cell {w : World} {g off k cap : Nat} {ss : List Sth} {s : Sth} (h : AtT w (.slice (some ⟨g, off, none⟩) (k + 1) cap) ss) (hs : ss[k]? = some s) : w.cell? ⟨g, off + k * 11 + 10, none⟩ = some s.v := by
  rcases h with ⟨e, _⟩ | ⟨g', off', cap', e, hr⟩
  · cases e
  · simp at e
    obtain ⟨⟨rfl, rfl⟩, _, rfl⟩ := e
    have := hr.cell (j := k * 11 + 10) (u := s.v) (by rw [flatOf_get encT_length ss k 10 s hs (by omega)]; rfl)
    rwa [← Nat.add_assoc] at this
/-- What put leaves ahead of its step: a new stretch, if there is one to be. -/
def PutM (w : World) (lb : Nat) (v : Wv) (W : Wd) (every : Int) (sv : Value) (pre : List Sth) (s : Sth) (len : Int) (st : Sta) (stuck : Bool) (bf : Sta) (EA : Array Value) (sv1 : Value) (pre1 : List Sth) (s1 : Sth) (wx : World) : Prop :=
  LogX wx lb v W every sv1 (pre1 ++ [s1]) len st stuck ∧ wx.heap[w.heap.size]? = some (.cells EA 44 (0, 0)) ∧ KeptOff (fun k => sv.ownBlock = some k ∨ k = lb) w wx ∧ (∀ k, sv1.ownBlock = some k → sv.ownBlock = some k ∨ w.heap.size ≤ k) ∧
    (((s.L.length : Int) < every ∧ pre1 = pre ∧ s1 = s) ∨ (every ≤ (s.L.length : Int) ∧ pre1 = pre ++ [s] ∧ s1 = ⟨bf, .slice none 0 0, []⟩)) ∧ w.heap.size < wx.heap.size
/-- The stretches behind put. -/
def putSs (every : Int) (pre : List Sth) (s : Sth) (bf : Sta) (v1 : Value) (p : Stp) : List Sth :=
  if every ≤ (s.L.length : Int) then pre ++ [s] ++ [⟨bf, v1, [p]⟩] else pre ++ [⟨s.kept, v1, s.L ++ [p]⟩]
def PutQ (w : World) (lb : Nat) (v : Wv) (W : Wd) (every : Int) (sv : Value) (pre : List Sth) (s : Sth) (len : Int) (st : Sta) (stuck : Bool) (bf : Sta) (m : M) (fl : Int) (sent : List M) (w' : World) : Prop :=
  ∃ sv' v1 p, p = (⟨m, fl, p.sv, sent⟩ : Stp) ∧ LogX w' lb v W every sv' (putSs every pre s bf v1 p) (len + 1) st stuck ∧ KeptOff (LOwn lb sv (pre ++ [s])) w w' ∧ (∀ k, LOwn lb sv' (putSs every pre s bf v1 p) k → LOwn lb sv (pre ++ [s]) k ∨ w.heap.size ≤ k) ∧ (∀ k, p.sv.ownBlock = some k → w.heap.size ≤ k)
set_option maxHeartbeats 16000000 in
theorem lgPut_any {w : World} {lb : Nat} {v : Wv} {W : Wd} {every len : Int} {sv : Value} {pre : List Sth} {s : Sth} {st : Sta} {stuck : Bool} {m : M} {bf : Sta} {fl : Int} {sa : Option Addr} {n sc : Nat} {sent : List M}
    (hX : LogX w lb v W every sv (pre ++ [s]) len st stuck) (hp : pre.length < 16384) (hL : s.L.length < 16384) (hlen : 0 ≤ len ∧ len < 16384) (hS : Mgs w sa n sc sent) (hn : n ≤ 16384) (hSo : ∀ k, (Value.slice sa n sc).ownBlock = some k → ¬ LOwn lb sv (pre ++ [s]) k) :
    Calls Tryz.prog 31 #[.pointer (some ⟨lb, 0, none⟩), .agg (entC m bf fl (.slice sa n sc)).toArray] w fun x w' => x = .returned (.tuple #[]) ∧ Hid (PutQ w lb v W every sv pre s len st stuck bf m fl sent w') := by
  have mixed := mixed
  obtain ⟨svg, svc, hsv, hsvc⟩ := RowAt.shape hX.rd.abv
  obtain ⟨g, off, cap, hform, _⟩ := RowAt.form hX.rd.abv (by simp)
  have hln : (pre ++ [s]).length = pre.length + 1 := by simp
  rw [hln] at hform
  subst hform
  clear hsv hsvc svg svc
  obtain ⟨a2, c2, hv2, hc2⟩ := RowAt.shape (hX.rd.each s (List.mem_append_right _ (List.mem_singleton.2 rfl)))
  have hget : (pre ++ [s])[pre.length]? = some s := by simp
  have hlbl := hX.lt
  have hB0 : Below w.heap.size w (w.alloc (.cells (entC m bf fl (.slice sa n sc)).toArray 44)) := (Below.refl _ w).alloc (Nat.le_refl _) _
  have hbx := heap_alloc_new w (.cells (entC m bf fl (.slice sa n sc)).toArray 44)
  have hsz0 : (w.alloc (.cells (entC m bf fl (.slice sa n sc)).toArray 44)).heap.size = w.heap.size + 1 := by simp
  have hcells : (Value.agg (entC m bf fl (.slice sa n sc)).toArray).cells = (entC m bf fl (.slice sa n sc)).toArray := rfl
  have hX' := Lib.hid hX
  have hS' := Lib.hid hS
  have hSo' := Lib.hid hSo
  have hlmm : (encMs m).length = 7 := rfl
  have hlbf : (encSt bf).length = 10 := rfl
  generalize hEA : (entC m bf fl (.slice sa n sc)).toArray = EA at *
  clear hX hS hSo
  go_enter Tryz.func31, Tryz.ntmps31
  go_wp2_with fail
  generalize w.alloc (.cells EA 44) = w0 at *
  have hc4 : Hid (∀ w', Below w0.heap.size w0 w' → w'.cell? ⟨lb, 4, none⟩ = some (.int .i64 every)) := Lib.hid (fun w' h => (hX'.out.below (hB0.trans (h.mono hB0.size))).c4)
  have hcs : Hid (∀ w', Below w0.heap.size w0 w' → w'.cell? ⟨g, off + pre.length * 11 + 10, none⟩ = some (.slice a2 s.L.length c2)) := Lib.hid (fun w' h => hv2 ▸ AtT.cell (hX'.out.below (hB0.trans (h.mono hB0.size))).rd.abv hget)
  have hlast : Hid (∀ w', Below w0.heap.size w0 w' → _) := Lib.hid (fun w' h => lgLast_any (hX'.out.below (hB0.trans (h.mono hB0.size))).c5 (by omega : pre.length < 1000000))
  refine wp_region_held_drew (S := fun w' => Below w0.heap.size w0 w') (by kernel_rfl) (Below.refl _ w0).drew (fun hHeld => ?_)
  clear hHeld
  have hHd : Below w0.heap.size w0 w0.drew := (Below.refl _ w0).drew
  refine wpAnyH_take (i := 0) (oi := { dst := some 5, op := Op.move (Operand.tmp 0), type := 28, pos := "log.go:96", after := #[], guard := none }) (v := ?vv0_1) rfl (by kernel_rfl) (by kernel_rfl) (by kernel_rfl) (fun _ _ _ h => h) (Or.inl ⟨by rfl, ?hy0_1⟩) hHd ?rest0_1
  case hy0_1 =>
    intro w hSw
    go_simp
    try with_reducible rfl
  try simp only [Act.put, List.setIfInBounds_toArray, List.set_cons_zero, List.set_cons_succ]
  refine wpAnyH_take (i := 6) (oi := { dst := some 11, op := Op.move (Operand.tmp 0), type := 28, pos := "log.go:96", after := #[], guard := none }) (v := ?vv6_2) rfl (by kernel_rfl) (by kernel_rfl) (by kernel_rfl) (fun _ _ _ h => h) (Or.inl ⟨by rfl, ?hy6_2⟩) hHd ?rest6_2
  case hy6_2 =>
    intro w hSw
    go_simp
    try with_reducible rfl
  try simp only [Act.put, List.setIfInBounds_toArray, List.set_cons_zero, List.set_cons_succ]
  refine wpAnyH_take (i := 7) (oi := { dst := some 12, op := Op.nilCheck (Operand.tmp 11), type := 0, pos := "log.go:96", after := #[{ on := 6, ground := Ground.data }], guard := none }) (v := ?vv7_3) rfl (by kernel_rfl) (by kernel_rfl) (by kernel_rfl) (fun _ _ _ h => h) (Or.inl ⟨by rfl, ?hy7_3⟩) hHd ?rest7_3
  case hy7_3 =>
    intro w hSw
    go_simp
    try with_reducible rfl
  try simp only [Act.put, List.setIfInBounds_toArray, List.set_cons_zero, List.set_cons_succ]
  refine wpAnyH_take (i := 8) (oi := { dst := some 13, op := Op.fieldAddr 71 (Operand.tmp 12) 1, type := 0, pos := "log.go:96", after := #[{ on := 7, ground := Ground.data }], guard := none }) (v := ?vv8_4) rfl (by kernel_rfl) (by kernel_rfl) (by kernel_rfl) (fun _ _ _ h => h) (Or.inl ⟨by rfl, ?hy8_4⟩) hHd ?rest8_4
  case hy8_4 =>
    intro w hSw
    go_simp
    try with_reducible rfl
  try simp only [Act.put, List.setIfInBounds_toArray, List.set_cons_zero, List.set_cons_succ]
  refine wpAnyH_take (i := 9) (oi := { dst := some 14, op := Op.load 3 (Operand.tmp 13), type := 3, pos := "log.go:96", after := #[{ on := 8, ground := Ground.data }], guard := none }) (v := ?vv9_5) rfl (by kernel_rfl) (by kernel_rfl) (by kernel_rfl) (fun _ _ _ h => h) (Or.inl ⟨by rfl, ?hy9_5⟩) hHd ?rest9_5
  case hy9_5 =>
    intro w hSw
    have c4 := hc4.out w hSw
    go_simp
    try with_reducible rfl
  try simp only [Act.put, List.setIfInBounds_toArray, List.set_cons_zero, List.set_cons_succ]
  refine wpAnyH_ready (rs := [1]) (by kernel_rfl) (by simp) ?_
  refine AllReadyH.cons (o := { dst := some 6, op := Op.call { callee := Callee.value (Operand.func 46), args := #[Operand.tmp 5], argTypes := #[28] }, type := 97, pos := "log.go:96", after := #[{ on := 0, ground := Ground.data }], guard := none }) rfl (fun K hK => ?_) AllReadyH.nil
  go_simp
  refine (hlast.out _ hHd).mono ?_
  rintro x w1 ⟨rfl, hr1⟩
  have hHw := hHd.trans (hr1.below.mono hHd.size)
  refine hK.out _ _ hHw (fun hHeld => ?_)
  clear hHeld hK K
  try simp only [Act.put, List.setIfInBounds_toArray, List.set_cons_zero, List.set_cons_succ]
  refine wpAnyH_take (i := 2) (oi := { dst := some 7, op := Op.nilCheck (Operand.tmp 6), type := 0, pos := "log.go:96", after := #[{ on := 1, ground := Ground.data }], guard := none }) (v := ?vv2_6) rfl (by kernel_rfl) (by kernel_rfl) (by kernel_rfl) (fun _ _ _ h => h) (Or.inl ⟨by rfl, ?hy2_6⟩) hHw ?rest2_6
  case hy2_6 =>
    intro w hSw
    go_simp
    try with_reducible rfl
  try simp only [Act.put, List.setIfInBounds_toArray, List.set_cons_zero, List.set_cons_succ]
  refine wpAnyH_take (i := 3) (oi := { dst := some 8, op := Op.fieldAddr 68 (Operand.tmp 7) 1, type := 0, pos := "log.go:96", after := #[{ on := 2, ground := Ground.data }], guard := none }) (v := ?vv3_7) rfl (by kernel_rfl) (by kernel_rfl) (by kernel_rfl) (fun _ _ _ h => h) (Or.inl ⟨by rfl, ?hy3_7⟩) hHw ?rest3_7
  case hy3_7 =>
    intro w hSw
    go_simp
    try with_reducible rfl
  try simp only [Act.put, List.setIfInBounds_toArray, List.set_cons_zero, List.set_cons_succ]
  refine wpAnyH_take (i := 4) (oi := { dst := some 9, op := Op.load 66 (Operand.tmp 8), type := 66, pos := "log.go:96", after := #[{ on := 3, ground := Ground.data }], guard := none }) (v := ?vv4_8) rfl (by kernel_rfl) (by kernel_rfl) (by kernel_rfl) (fun _ _ _ h => h) (Or.inl ⟨by rfl, ?hy4_8⟩) hHw ?rest4_8
  case hy4_8 =>
    intro w hSw
    have c10 := hcs.out w hSw
    go_simp
    try with_reducible rfl
  try simp only [Act.put, List.setIfInBounds_toArray, List.set_cons_zero, List.set_cons_succ]
  refine wpAnyH_take (i := 5) (oi := { dst := some 10, op := Op.call { callee := Callee.builtin Builtin.len, args := #[Operand.tmp 9], argTypes := #[66] }, type := 3, pos := "log.go:96", after := #[{ on := 4, ground := Ground.data }], guard := none }) (v := ?vv5_9) rfl (by kernel_rfl) (by kernel_rfl) (by kernel_rfl) (fun _ _ _ h => h) (Or.inl ⟨by rfl, ?hy5_9⟩) hHw ?rest5_9
  case hy5_9 =>
    intro w hSw
    go_simp
    try with_reducible rfl
  try simp only [Act.put, List.setIfInBounds_toArray, List.set_cons_zero, List.set_cons_succ]
  refine wpAnyH_take (i := 10) (oi := { dst := some 15, op := Op.binOp BinOp.geq 3 (Operand.tmp 10) (Operand.tmp 14) 3, type := 4, pos := "log.go:96", after := #[{ on := 5, ground := Ground.data }, { on := 9, ground := Ground.data }], guard := none }) (v := ?vv10_10) rfl (by kernel_rfl) (by kernel_rfl) (by kernel_rfl) (fun _ _ _ h => h) (Or.inl ⟨by rfl, ?hy10_10⟩) hHw ?rest10_10
  case hy10_10 =>
    intro w hSw
    go_simp
    try with_reducible rfl
  try simp only [Act.put, List.setIfInBounds_toArray, List.set_cons_zero, List.set_cons_succ]
  refine wpAnyH_done (by kernel_rfl) ?_ _
  have hX1 := Lib.hid (hX'.out.below (hB0.trans (hHw.mono hB0.size)))
  have hbx1 := Lib.hid ((hHw.block _ (Array.getElem?_eq_some_iff.1 hbx).1).trans hbx)
  have hB1 := Lib.hid (hB0.trans (hHw.mono hB0.size))
  have hlt1 : w.heap.size < w1.heap.size := (Array.getElem?_eq_some_iff.1 hbx1.out).1
  clear hc4 hcs hlast hHd hHw hr1 hbx hB0 hsz0
  go_upto_if 15 with fail
  go_cut [] from 5 to 27 (fun wx => ∃ (sv1 : Value) (pre1 : List Sth) (s1 : Sth), Hid (PutM w lb v W every (.slice (some ⟨g, off, none⟩) (pre.length + 1) cap) pre s len st stuck bf EA sv1 pre1 s1 wx))
  case first =>
    by_cases hle : every ≤ (s.L.length : Int)
    · go_wp2_with fail
      have hc5 : Hid (∀ w', KeptOff (fun k => k = g) w1 w' → w'.cell? ⟨lb, 5, none⟩ = some (.slice (some ⟨g, off, none⟩) (pre.length + 1) cap)) := Lib.hid (fun w' h => by
        have hne : lb ≠ g := fun e => hX1.out.rd.svt.ne (logt hX1.out.row) (by decide) g rfl (e ▸ own_lb lb)
        have := hX1.out.c5
        rwa [show w1.cell? ⟨lb, 5, none⟩ = w'.cell? ⟨lb, 5, none⟩ by simp [World.cell?, h.block lb hX1.out.lt hne]] at this)
      have hbf : Hid (∀ w', KeptOff (fun k => k = g) w1 w' → w'.rangeAt w.heap.size 7 (encSt bf)) := Lib.hid (fun w' h => by
        have hgw := hX'.out.rd.svt.lt g rfl
        have := (h.block _ hlt1 (by omega)).trans hbx1.out
        rw [← hEA] at this
        exact (entC_range this).2.1)
      have hlbfz : ∀ w', KeptOff (fun k => k = g) w1 w' → w'.frozen? ⟨lb, 5, none⟩ = false := fun w' h => by
        have hne : lb ≠ g := fun e => hX1.out.rd.svt.ne (logt hX1.out.row) (by decide) g rfl (e ▸ own_lb lb)
        exact frozen_of_cells ((h.block lb hX1.out.lt hne).trans hX1.out.row)
      obtain ⟨i0, hi0, hz0, hz1, hz2⟩ := info_parts infoTh
      refine wp_region_Z (fun w' => KeptOff (fun k => k = g) w1 w') 12 (by kernel_rfl) ?_
      have hHd : KeptOff (fun k => k = g) w1 w1.drew := ⟨rfl, rfl, rfl, Nat.le_refl _, fun _ _ _ => rfl⟩
      refine wpAnyZ_take (i := 0) (oi := { dst := some 16, op := Op.move (Operand.tmp 0), type := 28, pos := "log.go:97", after := #[], guard := none }) (v := ?zv0_1) rfl (by kernel_rfl) (by kernel_rfl) (by kernel_rfl) (fun _ _ _ h => h) (by decide) (Or.inl ⟨by rfl, ?zy0_1⟩) (fun _ => hHd) ?zrest0_1
      case zy0_1 =>
        intro w _
        go_simp
        try with_reducible rfl
      try simp only [Act.put, List.setIfInBounds_toArray, List.set_cons_zero, List.set_cons_succ]
      refine wpAnyZ_take (i := 1) (oi := { dst := some 17, op := Op.move (Operand.tmp 0), type := 28, pos := "log.go:97", after := #[], guard := none }) (v := ?zv1_2) rfl (by kernel_rfl) (by kernel_rfl) (by kernel_rfl) (fun _ _ _ h => h) (by decide) (Or.inl ⟨by rfl, ?zy1_2⟩) (fun _ => hHd) ?zrest1_2
      case zy1_2 =>
        intro w _
        go_simp
        try with_reducible rfl
      try simp only [Act.put, List.setIfInBounds_toArray, List.set_cons_zero, List.set_cons_succ]
      refine wpAnyZ_take (i := 2) (oi := { dst := some 18, op := Op.nilCheck (Operand.tmp 17), type := 0, pos := "log.go:97", after := #[{ on := 1, ground := Ground.data }], guard := none }) (v := ?zv2_3) rfl (by kernel_rfl) (by kernel_rfl) (by kernel_rfl) (fun _ _ _ h => h) (by decide) (Or.inl ⟨by rfl, ?zy2_3⟩) (fun _ => hHd) ?zrest2_3
      case zy2_3 =>
        intro w _
        go_simp
        try with_reducible rfl
      try simp only [Act.put, List.setIfInBounds_toArray, List.set_cons_zero, List.set_cons_succ]
      refine wpAnyZ_take (i := 3) (oi := { dst := some 19, op := Op.fieldAddr 71 (Operand.tmp 18) 2, type := 0, pos := "log.go:97", after := #[{ on := 2, ground := Ground.data }], guard := none }) (v := ?zv3_4) rfl (by kernel_rfl) (by kernel_rfl) (by kernel_rfl) (fun _ _ _ h => h) (by decide) (Or.inl ⟨by rfl, ?zy3_4⟩) (fun _ => hHd) ?zrest3_4
      case zy3_4 =>
        intro w _
        go_simp
        try with_reducible rfl
      try simp only [Act.put, List.setIfInBounds_toArray, List.set_cons_zero, List.set_cons_succ]
      refine wpAnyZ_take (i := 5) (oi := { dst := some 21, op := Op.fieldAddr 44 (Operand.tmp 3) 1, type := 0, pos := "log.go:97", after := #[], guard := none }) (v := ?zv5_5) rfl (by kernel_rfl) (by kernel_rfl) (by kernel_rfl) (fun _ _ _ h => h) (by decide) (Or.inl ⟨by rfl, ?zy5_5⟩) (fun _ => hHd) ?zrest5_5
      case zy5_5 =>
        intro w _
        go_simp
        try with_reducible rfl
      try simp only [Act.put, List.setIfInBounds_toArray, List.set_cons_zero, List.set_cons_succ]
      refine wpAnyZ_load (i := 4) (oi := { dst := some 20, op := Op.load 69 (Operand.tmp 19), type := 69, pos := "log.go:97", after := #[{ on := 3, ground := Ground.data }], guard := none }) (v := ?zv4_6) rfl (by kernel_rfl) (by kernel_rfl) (by kernel_rfl) (fun _ _ _ h => h) (by decide) (by kernel_rfl) (by kernel_rfl) (Or.inl ⟨by rfl, ?zy4_6⟩) hHd ?zrest4_6
      case zy4_6 =>
        intro w hSw
        have c5 := hc5.out w hSw
        go_simp
        try with_reducible rfl
      try simp only [Act.put, List.setIfInBounds_toArray, List.set_cons_zero, List.set_cons_succ]
      refine wpAnyZ_load (i := 6) (oi := { dst := some 22, op := Op.load 34 (Operand.tmp 21), type := 34, pos := "log.go:97", after := #[{ on := 5, ground := Ground.data }], guard := none }) (v := .agg (encSt bf).toArray) rfl (by kernel_rfl) (by kernel_rfl) (by kernel_rfl) (fun _ _ _ h => h) (by decide) (by kernel_rfl) (by kernel_rfl) (yieldsIf_load_mid (by rfl) 34 (.tmp 21) (by rfl) w.heap.size 7 (by rfl) (encSt bf) _ (fun w' h => hbf.out w' h) Tryz.underlying34 rfl (by rw [hlbf]; exact infoS10)) hHd ?_
      try simp only [Act.put, List.setIfInBounds_toArray, List.set_cons_zero, List.set_cons_succ]
      refine wpAnyZ_take (i := 7) (oi := { dst := some 23, op := Op.build 68 #[(0, Operand.tmp 22)], type := 68, pos := "log.go:97", after := #[{ on := 6, ground := Ground.data }], guard := none }) (v := .agg (encSt bf ++ [Value.slice none 0 0]).toArray) rfl (by kernel_rfl) (by kernel_rfl) (by kernel_rfl) (fun _ _ _ h => h) (by decide) (yieldsIf_build (by rfl) 68 #[(0, .tmp 22)] (by rfl) #[(0, .agg (encSt bf).toArray)] (by simp only [List.map_toArray, List.map_cons, List.map_nil]; rfl) (fun w => build_stretch bf w)) (fun _ => hHd) ?_
      try simp only [Act.put, List.setIfInBounds_toArray, List.set_cons_zero, List.set_cons_succ]
      have hHa := hHd.trans (KeptOff.of_below (S := fun k => k = g) ((Below.refl _ w1.drew).alloc (Nat.le_refl _) (.cells (encSt bf ++ [Value.slice none 0 0]).toArray 68)))
      have hna := heap_alloc_new w1.drew (.cells (encSt bf ++ [Value.slice none 0 0]).toArray 68)
      refine wpAnyZ_ready (rs := [8]) (by kernel_rfl) (by simp) ?_
      refine AllReadyZ.cons (o := { dst := some 24, op := Op.buildSlice 69 1 #[(0, Operand.tmp 23)], type := 69, pos := "log.go:97", after := #[{ on := 7, ground := Ground.data }], guard := none }) rfl (fun K hK => ?_) AllReadyZ.nil
      refine step_buildSlice (by rfl) 69 1 #[(0, .tmp 23)] (by rfl) #[(0, .agg (encSt bf ++ [Value.slice none 0 0]).toArray)] (by simp only [List.map_toArray, List.map_cons, List.map_nil]; rfl) (lit_stretch bf w1.drew) ?_
      refine hK.out _ _ (fun _ => hHa) ?_
      clear hK K
      try simp only [Act.put, List.setIfInBounds_toArray, List.set_cons_zero, List.set_cons_succ]
      have hXa := Lib.hid (hX1.out.below (((Below.refl _ w1).drew).alloc (by simp) (.cells (encSt bf ++ [Value.slice none 0 0]).toArray 68)))
      have hav : RowAt (w1.drew.alloc (.cells (encSt bf ++ [Value.slice none 0 0]).toArray 68)) 68 11 (.slice (some ⟨g, off, none⟩) (pre.length + 1) cap) (pre.length + 1) ((pre ++ [s]).flatMap encT) := by have := hXa.out.rd.abv; unfold AtT at this; rwa [hln] at this
      refine wpAnyZ_ready (rs := [9]) (by kernel_rfl) (by simp) ?_
      refine AllReadyZ.cons (o := { dst := some 25, op := Op.call { callee := Callee.builtin Builtin.append, args := #[Operand.tmp 20, Operand.tmp 24], argTypes := #[69, 69] }, type := 69, pos := "log.go:97", after := #[{ on := 4, ground := Ground.data }, { on := 8, ground := Ground.data }], guard := none }) rfl (fun K hK => ?_) AllReadyZ.nil
      refine step_append_row (by rfl) (.tmp 20) (.tmp 24) 69 (by rfl) hav i0 _ 104 Tryz.underlying69 hi0 hz0 hz1 hz2 rfl (by omega) (by rfl) ⟨w1.drew.heap.size, 0, none⟩ 1 (encSt bf ++ [Value.slice none 0 0]) (by rfl) (by rfl) (fun j u hj => news_of hna j u hj) (fun u hu => flatT_one ⟨bf, .slice none 0 0, []⟩ u hu rfl) (by unfold maxLen; omega) (by omega) ?_
      intro g2 off2 cap2 w4 hR hk hn
      refine hK.out _ _ (fun _ => (hHa.trans (hk.out.mono (fun k _ e => by simp [Value.ownBlock] at e; exact e.symm)))) ?_
      clear hK K
      try simp only [Act.put, List.setIfInBounds_toArray, List.set_cons_zero, List.set_cons_succ]
      have hHb := hHa.trans (hk.out.mono (S' := fun k => k = g) (fun k _ e => by simp [Value.ownBlock] at e; exact e.symm))
      have hfz5 := hlbfz _ hHb
      have hc5b := hc5.out _ hHb
      refine wpAnyZ_take (i := 10) (oi := { dst := some 26, op := Op.nilCheck (Operand.tmp 16), type := 0, pos := "log.go:97", after := #[{ on := 0, ground := Ground.data }, { on := 0, ground := Ground.phase }, { on := 1, ground := Ground.phase }, { on := 2, ground := Ground.phase }, { on := 3, ground := Ground.phase }, { on := 4, ground := Ground.phase }, { on := 5, ground := Ground.phase }, { on := 6, ground := Ground.phase }, { on := 7, ground := Ground.phase }, { on := 8, ground := Ground.phase }, { on := 9, ground := Ground.phase }], guard := none }) (v := ?zv10_7) rfl (by kernel_rfl) (by kernel_rfl) (by kernel_rfl) (fun _ _ _ h => h) (by decide) (Or.inl ⟨by rfl, ?zy10_7⟩) (fun _ => hHb) ?zrest10_7
      case zy10_7 =>
        intro w _
        go_simp
        try with_reducible rfl
      try simp only [Act.put, List.setIfInBounds_toArray, List.set_cons_zero, List.set_cons_succ]
      refine wpAnyZ_take (i := 11) (oi := { dst := some 27, op := Op.fieldAddr 71 (Operand.tmp 26) 2, type := 0, pos := "log.go:97", after := #[{ on := 10, ground := Ground.data }, { on := 0, ground := Ground.phase }, { on := 1, ground := Ground.phase }, { on := 2, ground := Ground.phase }, { on := 3, ground := Ground.phase }, { on := 4, ground := Ground.phase }, { on := 5, ground := Ground.phase }, { on := 6, ground := Ground.phase }, { on := 7, ground := Ground.phase }, { on := 8, ground := Ground.phase }, { on := 9, ground := Ground.phase }], guard := none }) (v := ?zv11_8) rfl (by kernel_rfl) (by kernel_rfl) (by kernel_rfl) (fun _ _ _ h => h) (by decide) (Or.inl ⟨by rfl, ?zy11_8⟩) (fun _ => hHb) ?zrest11_8
      case zy11_8 =>
        intro w _
        go_simp
        try with_reducible rfl
      try simp only [Act.put, List.setIfInBounds_toArray, List.set_cons_zero, List.set_cons_succ]
      refine wpAnyZ_ready (rs := [12]) (by kernel_rfl) (by simp) ?_
      refine AllReadyZ.cons (o := { dst := none, op := Op.store 69 (Operand.tmp 27) (Operand.tmp 25), type := 0, pos := "log.go:97", after := #[{ on := 11, ground := Ground.data }, { on := 9, ground := Ground.data }, { on := 9, ground := Ground.chain }, { on := 0, ground := Ground.phase }, { on := 1, ground := Ground.phase }, { on := 2, ground := Ground.phase }, { on := 3, ground := Ground.phase }, { on := 4, ground := Ground.phase }, { on := 5, ground := Ground.phase }, { on := 6, ground := Ground.phase }, { on := 7, ground := Ground.phase }, { on := 8, ground := Ground.phase }, { on := 9, ground := Ground.phase }], guard := none }) rfl (fun K hK => ?_) AllReadyZ.nil
      go_simp
      refine hK.out _ _ (fun h => absurd h (by decide)) ?_
      clear hK K
      try simp only [Act.put, List.setIfInBounds_toArray, List.set_cons_zero, List.set_cons_succ]
      refine wpAnyZ_done (by kernel_rfl) ?_ _
      have hgr := hXa.out.grow bf (g := g2) (off := off2) (cap := cap2) (by rw [hln, List.flatMap_append]; exact hR.out) hk.out
      rw [hln] at hgr
      have hgr' := Lib.hid hgr
      have hkf := Lib.hid ((KeptOff.of_below (S := fun k => (Value.slice (some ⟨g, off, none⟩) (pre.length + 1) cap).ownBlock = some k ∨ k = lb) hB1.out).then_new ((hHb.mono (S' := fun k => k = g ∨ k = lb) (fun k _ e => .inl e)).trans ((KeptOff.set w4 ⟨lb, 5, none⟩ (.slice (some ⟨g2, off2, none⟩) (pre.length + 1 + 1) cap2)).mono (fun k _ e => .inr e))) (fun k _ e => e.imp (fun e => by rw [e]; rfl) id))
      have hbx4 := Lib.hid ((((hHb.mono (S' := fun k => k = g ∨ k = lb) (fun k _ e => .inl e)).trans ((KeptOff.set w4 ⟨lb, 5, none⟩ (.slice (some ⟨g2, off2, none⟩) (pre.length + 1 + 1) cap2)).mono (fun k _ e => .inr e))).block w.heap.size hlt1 (by have := hX'.out.rd.svt.lt g rfl; omega)).trans hbx1.out)
      have hown4 : Hid (∀ k, (Value.slice (some ⟨g2, off2, none⟩) (pre.length + 1 + 1) cap2).ownBlock = some k → (Value.slice (some ⟨g, off, none⟩) (pre.length + 1) cap).ownBlock = some k ∨ w.heap.size ≤ k) := Lib.hid (fun k e => by
        simp [Value.ownBlock] at e
        subst e
        rcases hn.out with h0 | h0
        · exact .inl h0
        · refine .inr ?_
          have := hB1.out.size
          simp at h0
          omega)
      go_wp2_with fail
      go_meet
      case rel => exact ⟨_, pre ++ [s], ⟨bf, .slice none 0 0, []⟩, ⟨hgr'.out, hbx4.out, hkf.out, hown4.out, .inr ⟨hle, rfl, rfl⟩, (Array.getElem?_eq_some_iff.1 hbx4.out).1⟩⟩
    · go_wp2_with fail
      go_meet
      case rel => exact ⟨_, pre, s, ⟨hX1.out, hbx1.out, .of_below hB1.out, fun k e => .inl e, .inl ⟨by omega, rfl, rfl⟩, hlt1⟩⟩
  case rest =>
    obtain ⟨sv1, pre1, s1, hm⟩ := hcut
    obtain ⟨hXc, hbxc, hkc, hoc, halt, hltc⟩ := hm.out
    have hln1 : (pre1 ++ [s1]).length = pre1.length + 1 := by simp
    have hs1 : s1 ∈ pre1 ++ [s1] := List.mem_append_right _ (List.mem_singleton.2 rfl)
    have hp1 : pre1.length < 1000000 := by rcases halt with ⟨_, rfl, _⟩ | ⟨_, rfl, _⟩ <;> (try simp) <;> omega
    have hL1 : s1.L.length < 16384 := by
      rcases halt with ⟨_, _, rfl⟩ | ⟨_, _, rfl⟩
      · exact hL
      · simp
    obtain ⟨g1, off1, cap1, hform, _⟩ := RowAt.form hXc.rd.abv (by simp)
    rw [hln1] at hform
    subst hform
    obtain ⟨a3, c3, hv3, hc3⟩ := RowAt.shape (hXc.rd.each s1 hs1)
    have hget1 : (pre1 ++ [s1])[pre1.length]? = some s1 := by simp
    have hMc : Hid (Mgs wc sa n sc sent) := Lib.hid (hS'.out.keptOff hkc (fun k e e2 => hSo'.out k e (by
      rcases e2 with e2 | e2
      · exact .inr (.inl e2)
      · exact .inl e2)))
    have hlast := lgLast_any hXc.c5 hp1
    have hXc' := Lib.hid hXc
    have hbxc' := Lib.hid hbxc
    have hkc' := Lib.hid hkc
    have hoc' := Lib.hid hoc
    have halt' := Lib.hid halt
    clear hm hXc hbxc hkc hoc halt hS' hSo' hX1 hbx1 hB1 hX'
    go_upto_region 4 with (go_at_call 46; refine hlast.mono ?_; rintro x w3 ⟨rfl, hr3⟩)
    have hX3 := Lib.hid (hXc'.out.below hr3.below)
    have hbx3 := Lib.hid ((hr3.below.block _ hltc).trans hbxc'.out)
    have hM3 := Lib.hid (hMc.out.below hr3.below)
    have hB3 := Lib.hid hr3.below
    have hsv3 : Hid (RowAt w3 101 9 (.slice a3 s1.L.length c3) s1.L.length (s1.L.flatMap encP)) := Lib.hid (by
      have := hX3.out.rd.each s1 hs1
      unfold AtP at this
      rwa [hv3] at this)
    have hnb : ∀ k, (Value.slice a3 s1.L.length c3).ownBlock = some k → k ≠ w.heap.size ∧ k ≠ g1 ∧ k ≠ lb := fun k e => by
      have ht : TagV w3 101 (.slice a3 s1.L.length c3) := fun k hk => RowAt.tag hsv3.out hk
      have htb : TagV w3 44 (.slice (some ⟨w.heap.size, 0, none⟩) 0 0) := fun k hk => by simp [Value.ownBlock] at hk; subst hk; exact ⟨_, hbx3.out⟩
      exact ⟨fun e2 => ht.ne htb (by decide) k e (e2 ▸ rfl), fun e2 => ht.ne hX3.out.rd.svt (by decide) k e (e2 ▸ rfl), fun e2 => ht.ne (logt hX3.out.row) (by decide) k e (e2 ▸ own_lb lb)⟩
    have hg13 : g1 < w3.heap.size := hX3.out.rd.svt.lt g1 rfl
    have hlt3 : w.heap.size < w3.heap.size := (Array.getElem?_eq_some_iff.1 hbx3.out).1
    have hst : Hid (∀ w', KeptOff (fun k => (Value.slice a3 s1.L.length c3).ownBlock = some k) w3 w' → w'.cell? ⟨g1, off1 + pre1.length * 11 + 10, none⟩ = some (.slice a3 s1.L.length c3) ∧ w'.frozen? ⟨g1, off1 + pre1.length * 11 + 10, none⟩ = false) := Lib.hid (fun w' h => by
      have hab := hX3.out.rd.abv
      have hab' : AtT w' (.slice (some ⟨g1, off1, none⟩) (pre1.length + 1) cap1) (pre1 ++ [s1]) := RowAt.kept hab h (fun k e e2 => by simp [Value.ownBlock] at e; subst e; exact (hnb _ e2).2.1 rfl)
      refine ⟨hv3 ▸ AtT.cell hab' hget1, ?_⟩
      obtain ⟨cur, h0⟩ := RowAt.tag hab' (k := g1) rfl
      exact frozen_of_cells h0)
    have hent : Hid (∀ w', KeptOff (fun k => (Value.slice a3 s1.L.length c3).ownBlock = some k) w3 w' → w'.rangeAt w.heap.size 0 (encMs m) ∧ w'.cell? ⟨w.heap.size, 17, none⟩ = some (.int .i64 fl) ∧ w'.cell? ⟨w.heap.size, 18, none⟩ = some (.slice sa n sc)) := Lib.hid (fun w' h => by
      have := (h.block w.heap.size hlt3 (fun e => (hnb _ e).1 rfl)).trans hbx3.out
      rw [← hEA] at this
      have := entC_range this
      exact ⟨this.1, this.2.2⟩)
    have hcl : Hid (∀ w', Below w3.heap.size w3 w' → _) := Lib.hid (fun w' hb => cloneMs_any (hM3.out.below hb) hn)
    obtain ⟨i1, hi1, hy0, hy1, hy2⟩ := info_parts infoSp
    clear hlast hr3 hnb
    refine wp_region_Z (fun w' => KeptOff (fun k => (Value.slice a3 s1.L.length c3).ownBlock = some k) w3 w') 17 (by kernel_rfl) ?_
    have hHd : KeptOff (fun k => (Value.slice a3 s1.L.length c3).ownBlock = some k) w3 w3.drew := ⟨rfl, rfl, rfl, Nat.le_refl _, fun _ _ _ => rfl⟩
    refine wpAnyZ_take (i := 0) (oi := { dst := some 30, op := Op.move (Operand.tmp 4), type := 97, pos := "log.go:100", after := #[], guard := none }) (v := ?zv0_9) rfl (by kernel_rfl) (by kernel_rfl) (by kernel_rfl) (fun _ _ _ h => h) (by decide) (Or.inl ⟨by rfl, ?zy0_9⟩) (fun _ => hHd) ?zrest0_9
    case zy0_9 =>
      intro w _
      go_simp
      try with_reducible rfl
    try simp only [Act.put, List.setIfInBounds_toArray, List.set_cons_zero, List.set_cons_succ]
    refine wpAnyZ_take (i := 1) (oi := { dst := some 31, op := Op.move (Operand.tmp 4), type := 97, pos := "log.go:100", after := #[], guard := none }) (v := ?zv1_10) rfl (by kernel_rfl) (by kernel_rfl) (by kernel_rfl) (fun _ _ _ h => h) (by decide) (Or.inl ⟨by rfl, ?zy1_10⟩) (fun _ => hHd) ?zrest1_10
    case zy1_10 =>
      intro w _
      go_simp
      try with_reducible rfl
    try simp only [Act.put, List.setIfInBounds_toArray, List.set_cons_zero, List.set_cons_succ]
    refine wpAnyZ_take (i := 2) (oi := { dst := some 32, op := Op.nilCheck (Operand.tmp 31), type := 0, pos := "log.go:100", after := #[{ on := 1, ground := Ground.data }], guard := none }) (v := ?zv2_11) rfl (by kernel_rfl) (by kernel_rfl) (by kernel_rfl) (fun _ _ _ h => h) (by decide) (Or.inl ⟨by rfl, ?zy2_11⟩) (fun _ => hHd) ?zrest2_11
    case zy2_11 =>
      intro w _
      go_simp
      try with_reducible rfl
    try simp only [Act.put, List.setIfInBounds_toArray, List.set_cons_zero, List.set_cons_succ]
    refine wpAnyZ_take (i := 3) (oi := { dst := some 33, op := Op.fieldAddr 68 (Operand.tmp 32) 1, type := 0, pos := "log.go:100", after := #[{ on := 2, ground := Ground.data }], guard := none }) (v := ?zv3_12) rfl (by kernel_rfl) (by kernel_rfl) (by kernel_rfl) (fun _ _ _ h => h) (by decide) (Or.inl ⟨by rfl, ?zy3_12⟩) (fun _ => hHd) ?zrest3_12
    case zy3_12 =>
      intro w _
      go_simp
      try with_reducible rfl
    try simp only [Act.put, List.setIfInBounds_toArray, List.set_cons_zero, List.set_cons_succ]
    refine wpAnyZ_take (i := 5) (oi := { dst := some 35, op := Op.fieldAddr 44 (Operand.tmp 3) 0, type := 0, pos := "log.go:100", after := #[], guard := none }) (v := ?zv5_13) rfl (by kernel_rfl) (by kernel_rfl) (by kernel_rfl) (fun _ _ _ h => h) (by decide) (Or.inl ⟨by rfl, ?zy5_13⟩) (fun _ => hHd) ?zrest5_13
    case zy5_13 =>
      intro w _
      go_simp
      try with_reducible rfl
    try simp only [Act.put, List.setIfInBounds_toArray, List.set_cons_zero, List.set_cons_succ]
    refine wpAnyZ_take (i := 7) (oi := { dst := some 37, op := Op.fieldAddr 44 (Operand.tmp 3) 2, type := 0, pos := "log.go:100", after := #[], guard := none }) (v := ?zv7_14) rfl (by kernel_rfl) (by kernel_rfl) (by kernel_rfl) (fun _ _ _ h => h) (by decide) (Or.inl ⟨by rfl, ?zy7_14⟩) (fun _ => hHd) ?zrest7_14
    case zy7_14 =>
      intro w _
      go_simp
      try with_reducible rfl
    try simp only [Act.put, List.setIfInBounds_toArray, List.set_cons_zero, List.set_cons_succ]
    refine wpAnyZ_take (i := 9) (oi := { dst := some 39, op := Op.fieldAddr 44 (Operand.tmp 3) 3, type := 0, pos := "log.go:100", after := #[], guard := none }) (v := ?zv9_15) rfl (by kernel_rfl) (by kernel_rfl) (by kernel_rfl) (fun _ _ _ h => h) (by decide) (Or.inl ⟨by rfl, ?zy9_15⟩) (fun _ => hHd) ?zrest9_15
    case zy9_15 =>
      intro w _
      go_simp
      try with_reducible rfl
    try simp only [Act.put, List.setIfInBounds_toArray, List.set_cons_zero, List.set_cons_succ]
    refine wpAnyZ_load (i := 4) (oi := { dst := some 34, op := Op.load 66 (Operand.tmp 33), type := 66, pos := "log.go:100", after := #[{ on := 3, ground := Ground.data }], guard := none }) (v := ?zv4_16) rfl (by kernel_rfl) (by kernel_rfl) (by kernel_rfl) (fun _ _ _ h => h) (by decide) (by kernel_rfl) (by kernel_rfl) (Or.inl ⟨by rfl, ?zy4_16⟩) hHd ?zrest4_16
    case zy4_16 =>
      intro w hSw
      have c := (hst.out w hSw).1
      go_simp
      try with_reducible rfl
    try simp only [Act.put, List.setIfInBounds_toArray, List.set_cons_zero, List.set_cons_succ]
    refine wpAnyZ_load (i := 6) (oi := { dst := some 36, op := Op.load 42 (Operand.tmp 35), type := 42, pos := "log.go:100", after := #[{ on := 5, ground := Ground.data }], guard := none }) (v := .agg (encMs m).toArray) rfl (by kernel_rfl) (by kernel_rfl) (by kernel_rfl) (fun _ _ _ h => h) (by decide) (by kernel_rfl) (by kernel_rfl) (yieldsIf_load_mid (by rfl) 42 (.tmp 35) (by rfl) w.heap.size 0 (by rfl) (encMs m) _ (fun w' h => (hent.out w' h).1) Tryz.underlying42 rfl (by rw [hlmm]; exact infoMe)) hHd ?_
    try simp only [Act.put, List.setIfInBounds_toArray, List.set_cons_zero, List.set_cons_succ]
    refine wpAnyZ_load (i := 8) (oi := { dst := some 38, op := Op.load 29 (Operand.tmp 37), type := 29, pos := "log.go:100", after := #[{ on := 7, ground := Ground.data }], guard := none }) (v := ?zv8_17) rfl (by kernel_rfl) (by kernel_rfl) (by kernel_rfl) (fun _ _ _ h => h) (by decide) (by kernel_rfl) (by kernel_rfl) (Or.inl ⟨by rfl, ?zy8_17⟩) hHd ?zrest8_17
    case zy8_17 =>
      intro w hSw
      have c := (hent.out w hSw).2.1
      go_simp
      try with_reducible rfl
    try simp only [Act.put, List.setIfInBounds_toArray, List.set_cons_zero, List.set_cons_succ]
    refine wpAnyZ_load (i := 10) (oi := { dst := some 40, op := Op.load 37 (Operand.tmp 39), type := 37, pos := "log.go:100", after := #[{ on := 9, ground := Ground.data }], guard := none }) (v := ?zv10_18) rfl (by kernel_rfl) (by kernel_rfl) (by kernel_rfl) (fun _ _ _ h => h) (by decide) (by kernel_rfl) (by kernel_rfl) (Or.inl ⟨by rfl, ?zy10_18⟩) hHd ?zrest10_18
    case zy10_18 =>
      intro w hSw
      have c := (hent.out w hSw).2.2
      go_simp
      try with_reducible rfl
    try simp only [Act.put, List.setIfInBounds_toArray, List.set_cons_zero, List.set_cons_succ]
    refine wpAnyZ_ready (rs := [11]) (by kernel_rfl) (by simp) ?_
    refine AllReadyZ.cons (o := { dst := some 41, op := Op.call { callee := Callee.value (Operand.func 47), args := #[Operand.tmp 40], argTypes := #[37] }, type := 37, pos := "log.go:100", after := #[{ on := 10, ground := Ground.data }], guard := none }) rfl (fun K hK => ?_) AllReadyZ.nil
    go_simp
    refine (hcl.out _ ((Below.refl _ w3).drew)).mono ?_
    rintro x w5 ⟨a5, c5, rfl, hq5⟩
    have hHw := hHd.trans (KeptOff.of_below (S := fun k => (Value.slice a3 s1.L.length c3).ownBlock = some k) hq5.out.2.1)
    refine hK.out _ _ (fun _ => hHw) ?_
    clear hK K
    try simp only [Act.put, List.setIfInBounds_toArray, List.set_cons_zero, List.set_cons_succ]
    refine wpAnyZ_take (i := 12) (oi := { dst := some 42, op := Op.build 101 #[(0, Operand.tmp 36), (1, Operand.tmp 38), (2, Operand.tmp 41)], type := 101, pos := "log.go:100", after := #[{ on := 6, ground := Ground.data }, { on := 8, ground := Ground.data }, { on := 11, ground := Ground.data }], guard := none }) (v := .agg (encMs m ++ [Value.int .i64 fl, Value.slice a5 n c5]).toArray) rfl (by kernel_rfl) (by kernel_rfl) (by kernel_rfl) (fun _ _ _ h => h) (by decide) (yieldsIf_build (by rfl) 101 #[(0, .tmp 36), (1, .tmp 38), (2, .tmp 41)] (by rfl) #[(0, .agg (encMs m).toArray), (1, .int .i64 fl), (2, .slice a5 n c5)] (by simp only [List.map_toArray, List.map_cons, List.map_nil]; rfl) (fun w => build_step m fl a5 n c5 w)) (fun _ => hHw) ?_
    try simp only [Act.put, List.setIfInBounds_toArray, List.set_cons_zero, List.set_cons_succ]
    have hHa := hHw.trans (KeptOff.of_below (S := fun k => (Value.slice a3 s1.L.length c3).ownBlock = some k) ((Below.refl _ w5).alloc (Nat.le_refl _) (.cells (encMs m ++ [Value.int .i64 fl, Value.slice a5 n c5]).toArray 101)))
    have hna := heap_alloc_new w5 (.cells (encMs m ++ [Value.int .i64 fl, Value.slice a5 n c5]).toArray 101)
    refine wpAnyZ_ready (rs := [13]) (by kernel_rfl) (by simp) ?_
    refine AllReadyZ.cons (o := { dst := some 43, op := Op.buildSlice 66 1 #[(0, Operand.tmp 42)], type := 66, pos := "log.go:100", after := #[{ on := 12, ground := Ground.data }], guard := none }) rfl (fun K hK => ?_) AllReadyZ.nil
    refine step_buildSlice (by rfl) 66 1 #[(0, .tmp 42)] (by rfl) #[(0, .agg (encMs m ++ [Value.int .i64 fl, Value.slice a5 n c5]).toArray)] (by simp only [List.map_toArray, List.map_cons, List.map_nil]; rfl) (lit_step m fl a5 n c5 w5) ?_
    refine hK.out _ _ (fun _ => hHa) ?_
    clear hK K
    try simp only [Act.put, List.setIfInBounds_toArray, List.set_cons_zero, List.set_cons_succ]
    have hb35 : Below w3.heap.size w3 (w5.alloc (.cells (encMs m ++ [Value.int .i64 fl, Value.slice a5 n c5]).toArray 101)) := (((Below.refl _ w3).drew).trans (hq5.out.2.1.mono (Nat.le_refl _))).alloc hq5.out.2.1.size _
    have hav := Lib.hid (RowAt.kept (S := fun _ => False) hsv3.out (.of_below hb35) (fun _ _ e => e))
    have hXa := Lib.hid (hX3.out.below hb35)
    refine wpAnyZ_ready (rs := [14]) (by kernel_rfl) (by simp) ?_
    refine AllReadyZ.cons (o := { dst := some 44, op := Op.call { callee := Callee.builtin Builtin.append, args := #[Operand.tmp 34, Operand.tmp 43], argTypes := #[66, 66] }, type := 66, pos := "log.go:100", after := #[{ on := 4, ground := Ground.data }, { on := 13, ground := Ground.data }, { on := 11, ground := Ground.chain }], guard := none }) rfl (fun K hK => ?_) AllReadyZ.nil
    refine step_append_row (by rfl) (.tmp 34) (.tmp 43) 66 (by rfl) hav.out i1 _ 88 Tryz.underlying66 hi1 hy0 hy1 hy2 rfl (by omega) (by rfl) ⟨w5.heap.size, 0, none⟩ 1 (encMs m ++ [Value.int .i64 fl, Value.slice a5 n c5]) (by rfl) (by rfl) (fun j u hj => news_of hna j u hj) (fun u hu => flatP_one ⟨m, fl, .slice a5 n c5, sent⟩ u hu rfl) (by unfold maxLen; omega) (by omega) ?_
    intro g2 off2 cap2 w7 hR hk hn2
    refine hK.out _ _ (fun _ => (hHa.trans hk.out)) ?_
    clear hK K
    try simp only [Act.put, List.setIfInBounds_toArray, List.set_cons_zero, List.set_cons_succ]
    have hHb := hHa.trans hk.out
    have hfz5 := (hst.out _ hHb).2
    have hc5b := (hst.out _ hHb).1
    refine wpAnyZ_take (i := 15) (oi := { dst := some 45, op := Op.nilCheck (Operand.tmp 30), type := 0, pos := "log.go:100", after := #[{ on := 0, ground := Ground.data }, { on := 0, ground := Ground.phase }, { on := 1, ground := Ground.phase }, { on := 2, ground := Ground.phase }, { on := 3, ground := Ground.phase }, { on := 4, ground := Ground.phase }, { on := 5, ground := Ground.phase }, { on := 6, ground := Ground.phase }, { on := 7, ground := Ground.phase }, { on := 8, ground := Ground.phase }, { on := 9, ground := Ground.phase }, { on := 10, ground := Ground.phase }, { on := 11, ground := Ground.phase }, { on := 12, ground := Ground.phase }, { on := 13, ground := Ground.phase }, { on := 14, ground := Ground.phase }], guard := none }) (v := ?zv15_19) rfl (by kernel_rfl) (by kernel_rfl) (by kernel_rfl) (fun _ _ _ h => h) (by decide) (Or.inl ⟨by rfl, ?zy15_19⟩) (fun _ => hHb) ?zrest15_19
    case zy15_19 =>
      intro w _
      go_simp
      try with_reducible rfl
    try simp only [Act.put, List.setIfInBounds_toArray, List.set_cons_zero, List.set_cons_succ]
    refine wpAnyZ_take (i := 16) (oi := { dst := some 46, op := Op.fieldAddr 68 (Operand.tmp 45) 1, type := 0, pos := "log.go:100", after := #[{ on := 15, ground := Ground.data }, { on := 0, ground := Ground.phase }, { on := 1, ground := Ground.phase }, { on := 2, ground := Ground.phase }, { on := 3, ground := Ground.phase }, { on := 4, ground := Ground.phase }, { on := 5, ground := Ground.phase }, { on := 6, ground := Ground.phase }, { on := 7, ground := Ground.phase }, { on := 8, ground := Ground.phase }, { on := 9, ground := Ground.phase }, { on := 10, ground := Ground.phase }, { on := 11, ground := Ground.phase }, { on := 12, ground := Ground.phase }, { on := 13, ground := Ground.phase }, { on := 14, ground := Ground.phase }], guard := none }) (v := ?zv16_20) rfl (by kernel_rfl) (by kernel_rfl) (by kernel_rfl) (fun _ _ _ h => h) (by decide) (Or.inl ⟨by rfl, ?zy16_20⟩) (fun _ => hHb) ?zrest16_20
    case zy16_20 =>
      intro w _
      go_simp
      try with_reducible rfl
    try simp only [Act.put, List.setIfInBounds_toArray, List.set_cons_zero, List.set_cons_succ]
    refine wpAnyZ_ready (rs := [17]) (by kernel_rfl) (by simp) ?_
    refine AllReadyZ.cons (o := { dst := none, op := Op.store 66 (Operand.tmp 46) (Operand.tmp 44), type := 0, pos := "log.go:100", after := #[{ on := 16, ground := Ground.data }, { on := 14, ground := Ground.data }, { on := 14, ground := Ground.chain }, { on := 0, ground := Ground.phase }, { on := 1, ground := Ground.phase }, { on := 2, ground := Ground.phase }, { on := 3, ground := Ground.phase }, { on := 4, ground := Ground.phase }, { on := 5, ground := Ground.phase }, { on := 6, ground := Ground.phase }, { on := 7, ground := Ground.phase }, { on := 8, ground := Ground.phase }, { on := 9, ground := Ground.phase }, { on := 10, ground := Ground.phase }, { on := 11, ground := Ground.phase }, { on := 12, ground := Ground.phase }, { on := 13, ground := Ground.phase }, { on := 14, ground := Ground.phase }], guard := none }) rfl (fun K hK => ?_) AllReadyZ.nil
    go_simp
    refine hK.out _ _ (fun h => absurd h (by decide)) ?_
    clear hK K
    try simp only [Act.put, List.setIfInBounds_toArray, List.set_cons_zero, List.set_cons_succ]
    refine wpAnyZ_done (by kernel_rfl) ?_ _
    have hq5t := hq5.out.1
    have hb5 : Below w3.heap.size w3 w5 := ((Below.refl _ w3).drew).trans (hq5.out.2.1.mono (Nat.le_refl _))
    have h5a : ∀ k, (Value.slice a5 n c5).ownBlock = some k → ¬ (Value.slice a3 s1.L.length c3).ownBlock = some k := fun k e e2 => by
      have h1 := hq5.out.2.2 k e
      have h2 := RowAt.lt hsv3.out k e2
      have : w3.drew.heap.size = w3.heap.size := rfl
      omega
    have hpw : Sent w7 (.slice a5 n c5) sent ∧ TagV w7 42 (.slice a5 n c5) := by
      have hlw : sent.length = n := hMc.out.1
      have hM7 := (hq5t.1.below ((Below.refl _ w5).alloc (Nat.le_refl _) (.cells (encMs m ++ [Value.int .i64 fl, Value.slice a5 n c5]).toArray 101))).keptOff hk.out h5a
      exact ⟨⟨a5, c5, by rw [hlw], by rw [hlw]; exact hM7⟩, (hq5t.2.below ((Below.refl _ w5).alloc (Nat.le_refl _) (.cells (encMs m ++ [Value.int .i64 fl, Value.slice a5 n c5]).toArray 101))).kept hk.out h5a⟩
    have hmore := hXa.out.more (w1 := w7) (⟨m, fl, .slice a5 n c5, sent⟩ : Stp) (hb := g2) (o2 := off2) (c2 := cap2) (by rw [List.flatMap_append]; exact hR.out) (by rw [hv3]; exact hk.out) (by rw [hv3]; exact hn2.out) hpw
    rw [← Nat.add_assoc] at hmore
    have hsz7 := hHb.size
    have hkw : KeptOff (LOwn lb (.slice (some ⟨g, off, none⟩) (pre.length + 1) cap) (pre ++ [s])) w (w7.setCell ⟨g1, off1 + pre1.length * 11 + 10, none⟩ (.slice (some ⟨g2, off2, none⟩) (s1.L.length + 1) cap2)) := by
      refine (hkc'.out.mono (S' := LOwn lb (.slice (some ⟨g, off, none⟩) (pre.length + 1) cap) (pre ++ [s])) (fun k _ e => e.elim (fun e => .inr (.inl e)) .inl)).then_new (S' := fun k => (Value.slice a3 s1.L.length c3).ownBlock = some k ∨ k = g1) ?_ (fun k hk0 e => ?_)
      · exact ((KeptOff.of_below hB3.out).trans (hHb.mono (fun k _ e => .inl e))).trans ((KeptOff.set w7 ⟨g1, off1 + pre1.length * 11 + 10, none⟩ _).mono (fun k _ e => .inr e))
      · rcases e with e | e
        · rcases halt'.out with ⟨_, _, rfl⟩ | ⟨_, _, rfl⟩
          · exact .inr (.inr ⟨s1, List.mem_append_right _ (List.mem_singleton.2 rfl), hv3 ▸ e⟩)
          · simp only at hv3; rw [← hv3] at e; cases e
        · rcases hoc'.out k (e ▸ rfl) with h0 | h0
          · exact .inr (.inl h0)
          · omega
    have hg2n : (Value.slice a3 s1.L.length c3).ownBlock = some g2 ∨ w.heap.size ≤ g2 := hn2.out.imp id (fun h0 => by have := hkc'.out.size; have := hB3.out.size; have := hb35.size; omega)
    have hmore' := Lib.hid hmore
    have hkw' := Lib.hid hkw
    have hfr5 : Hid (∀ k, (Value.slice a5 n c5).ownBlock = some k → w.heap.size ≤ k) := Lib.hid (fun k e => by have := hq5.out.2.2 k e; have h3 : w3.drew.heap.size = w3.heap.size := rfl; have := hkc'.out.size; have := hB3.out.size; omega)
    have d6 := hmore.c6
    have f6 := hmore.fz 6
    have a1 : IntKind.i64.wrap (len + 1) = len + 1 := IntWalk.i64_in _ (by omega)
    clear hmore hkw hpw hfz5 hc5b hHb hHa hHw hHd hb35 hb5 hq5t h5a hst hent hcl hsv3 hM3 hX3 hbx3 hXa hav hna hR hk hn2 hq5 hMc hXc' hbxc' hkc' hB3
    generalize w7.setCell ⟨g1, off1 + pre1.length * 11 + 10, none⟩ (.slice (some ⟨g2, off2, none⟩) (s1.L.length + 1) cap2) = w8 at *
    go_wp2
    go_end0
    refine ⟨rfl, ⟨.slice (some ⟨g1, off1, none⟩) (pre1.length + 1) cap1, .slice (some ⟨g2, off2, none⟩) (s1.L.length + 1) cap2, ⟨m, fl, .slice a5 n c5, sent⟩, rfl, ?_, ?_, ?_, hfr5.out⟩⟩
    · have := hmore'.out.setLen (len + 1)
      have e : putSs every pre s bf (.slice (some ⟨g2, off2, none⟩) (s1.L.length + 1) cap2) ⟨m, fl, .slice a5 n c5, sent⟩ = pre1 ++ [⟨s1.kept, .slice (some ⟨g2, off2, none⟩) (s1.L.length + 1) cap2, s1.L ++ [⟨m, fl, .slice a5 n c5, sent⟩]⟩] := by
        unfold putSs
        rcases halt'.out with ⟨h0, rfl, rfl⟩ | ⟨h0, rfl, rfl⟩
        · rw [if_neg (by omega)]
        · rw [if_pos h0]; rfl
      rw [e]
      exact this
    · exact hkw'.out.trans ((KeptOff.set w8 ⟨lb, 6, none⟩ _).mono (fun k _ e => .inl e))
    · have e : ∀ t ∈ putSs every pre s bf (.slice (some ⟨g2, off2, none⟩) (s1.L.length + 1) cap2) ⟨m, fl, .slice a5 n c5, sent⟩, t ∈ pre ++ [s] ∨ t.v = .slice (some ⟨g2, off2, none⟩) (s1.L.length + 1) cap2 := fun t ht => by
        unfold putSs at ht
        split at ht
        · rcases List.mem_append.1 ht with ht | ht
          · exact .inl ht
          · simp at ht; subst ht; exact .inr rfl
        · rcases List.mem_append.1 ht with ht | ht
          · exact .inl (List.mem_append_left _ ht)
          · simp at ht; subst ht; exact .inr rfl
      rintro k (e0 | e0 | ⟨t, ht, e0⟩)
      · exact .inl (.inl e0)
      · exact (hoc'.out k e0).imp (fun h => .inr (.inl h)) id
      · rcases e t ht with h1 | h1
        · exact .inl (.inr (.inr ⟨t, h1, e0⟩))
        · rw [h1] at e0
          simp [Value.ownBlock] at e0
          subst e0
          rcases hg2n with h2 | h2
          · rcases halt'.out with ⟨_, _, rfl⟩ | ⟨_, _, rfl⟩
            · exact .inl (.inr (.inr ⟨s1, List.mem_append_right _ (List.mem_singleton.2 rfl), hv3 ▸ h2⟩))
            · simp only at hv3; rw [← hv3] at h2; cases h2
          · exact .inr h2
end Go.Proofs.YtminfmjgmmkaoaaGreatDoor
