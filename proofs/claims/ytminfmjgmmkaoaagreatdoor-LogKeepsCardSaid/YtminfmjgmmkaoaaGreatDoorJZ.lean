/-
  Operations in a round's frame: whole rows loaded and stored, a slice built, an append, a call of yield; the marks that ranges over functions leave. No program in this text.
  All entries of a log, one by one.
  A region that draws its order, in a round's frame: a class of worlds is shown behind each operation, loads are taken first. No program in this text.
-/
import Derived.Test.YtminfmjgmmkaoaaGreatDoorIB
import Derived.Test.YtminfmjgmmkaoaaGreatDoorIZ
import Derived.LoopIn
import Derived.BigFrameIn
import Derived.OwnWalkIn
import Derived.TacticsInMore
import Derived.RangeFuncLeaves
import Derived.Test.YtminfmjgmmkaoaaGreatDoorID
import Derived.Deep.RegionHeld
import Derived.OrdersIn
import Derived.RangeFuncNested
namespace Go.Proofs.YtminfmjgmmkaoaaGreatDoor
open Go Go.RowKit Go.Lib Go.Deep
set_option linter.unusedVariables false

section
variable {F : Fence} {n : Nat} {P : Program} {ops : Array Oper} {rest : List Oper} {o : Oper} {a : Act} {w : World} {Q : Exit → Act → World → Prop}
theorem wpListIn_load_row (hgd : o.guard = none) (ty : TypeId) (x : Operand) (ho : o.op = .load ty x) (b p : Nat) (hx : a.eval x = .pointer (some ⟨b, p, none⟩)) (cs : List Value) (d : TypeDesc) (hc : w.rangeAt b p cs)
    (hu : P.underlying ty = some d) (hd : d.isRow = true) (hi : (P.info? ty).map (·.size) = some cs.length) (h : wpListIn F n P ops Q rest (a.put o.dst (.agg cs.toArray)) w) : wpListIn F n P ops Q (o :: rest) a w := by
  refine wpListIn_plain hgd fun K hK' => ?_
  unfold Oper.wpIn
  refine ⟨by simp [Oper.about, ho], ?_⟩
  rw [Oper.semAt_plain F _ _ (by rw [ho]; intro c hc'; cases hc')]
  unfold execOp
  simp only [ho, hx, Instr.loadAt, Instr.sureAddr, Sem.run_bind, Sem.run_pure, Result.andThen_ok, run_loadVar_mid w b p ty cs d hc hu hd hi]
  exact hK' _ _ h
theorem wpListIn_store_row (hgd : o.guard = none) (ty : TypeId) (x y : Operand) (ho : o.op = .store ty x y) (g : Nat) (cells : Array Value) (hx : a.eval x = .pointer (some ⟨g, 0, none⟩)) (hy : a.eval y = .agg cells)
    (t : TypeId) (old : Array Value) (hg : w.heap[g]? = some (.cells old t (0, 0))) (hi : (P.info? ty).map (·.size) = some cells.size) (hold : old.size = cells.size) (h1 : cells.all (·.oneCell') = true)
    (h : wpListIn F n P ops Q rest (a.put o.dst undef) (w.setRow g cells)) : wpListIn F n P ops Q (o :: rest) a w := by
  refine wpListIn_plain hgd fun K hK' => ?_
  unfold Oper.wpIn
  refine ⟨by simp [Oper.about, ho], ?_⟩
  rw [Oper.semAt_plain F _ _ (by rw [ho]; intro c hc'; cases hc')]
  unfold execOp
  simp only [ho, hx, hy, Instr.storeAt, Instr.sureAddr, Sem.run_bind, Sem.run_pure, Result.andThen_ok, run_storeVar_row w g t ty old cells hg hi hold h1]
  exact hK' _ _ h
theorem wpListIn_buildSlice_to (hgd : o.guard = none) (t : TypeId) (m : Nat) (parts : Array (Nat × Operand)) (ho : o.op = .buildSlice t m parts) (vals : Array (Nat × Value)) (hv : parts.map (fun (i, x) => (i, a.eval x)) = vals) {u : Value} {w2 : World}
    (hb : (Instr.buildSlice t m vals).run P w = .ok u w2) (h : wpListIn F n P ops Q rest (a.put o.dst u) w2) : wpListIn F n P ops Q (o :: rest) a w := by
  refine wpListIn_plain hgd fun K hK' => ?_
  unfold Oper.wpIn
  refine ⟨by simp [Oper.about, ho], ?_⟩
  rw [Oper.semAt_plain F _ _ (by rw [ho]; intro c hc'; cases hc')]
  unfold execOp
  simp only [ho, hv]
  simp [hb, Result.andThen]
  exact hK' _ _ h
theorem wpListIn_append_row (hgd : o.guard = none) (s x : Operand) (t : TypeId) (ho : o.op = .call { callee := .builtin .append, args := #[s, x], argTypes := #[t, t] })
    {e : TypeId} {sz m : Nat} {v : Value} {xs : List Value} (h : RowAt w e sz v m xs) (i : TypeInfo) (z : Value) (bytes : Nat) (ht : P.underlying t = some (.slice e)) (hi : P.info? e = some i) (hz : i.zero = some z) (hsize : i.size = sz) (hby : i.bytes = bytes)
    (hzs : z.cells.size = sz) (hsz : 0 < sz) (hs : a.eval s = v) (ad : Addr) (c : Nat) (news : List Value) (hx : a.eval x = .slice (some ad) 1 c) (hl : news.length = sz) (hnews : ∀ j u, news[j]? = some u → w.cell? (ad.add j) = some u) (h1 : ∀ u ∈ news, u.oneCell' = true)
    (h63 : m + 1 ≤ maxLen) (hbytes : (m + 1) * bytes ≤ 140737488355328)
    (hK : ∀ g off cap w', Hid (RowIn w' e sz g off (m + 1) cap (xs ++ news)) → Hid (KeptOff (fun k => v.ownBlock = some k) w w') → Hid (v.ownBlock = some g ∨ w.heap.size ≤ g) → wpListIn F n P ops Q rest (a.put o.dst (.slice (some ⟨g, off, none⟩) (m + 1) cap)) w') :
    wpListIn F n P ops Q (o :: rest) a w := by
  refine wpListIn_plain hgd fun K hK' => ?_
  unfold Oper.wpIn
  obtain ⟨g, off, cap, w', hrun, r1, r2, r3⟩ := h.append (P := P) t o.type i z bytes ht hi hz hsize hby hzs hsz ad c news hl hnews h1 h63 hbytes
  refine ⟨by simp [Oper.about, ho, resolve, go_sem], ?_⟩
  rw [Oper.semAt_plain F _ _ (by rw [ho]; intro c hc'; cases hc')]
  simp [execOp, ho, resolve, invoke, builtin, hs, hx, hrun, Result.andThen]
  exact hK' _ _ (hK g off cap w' r1 r2 r3)
theorem exec_yield {l : Nat} {ρ : Operand → Value} (x y : Operand) (ts : Array TypeId) (ho : o.op = .call { callee := .value x, args := #[y], argTypes := ts }) (hx : ρ x = .func (.yield l) #[] #[]) (v : Value) (hy : ρ y = v) : (execOp ρ o).run P w = (Instr.yield l #[v]).run P w := by
  simp [execOp, ho, resolve, invoke, go_sem, hx, hy]
theorem wpListIn_yield {r l : Nat} (hgd : o.guard = none) (x y : Operand) (ts : Array TypeId) (ho : o.op = .call { callee := .value x, args := #[y], argTypes := ts }) (hx : a.eval x = .func (.yield l) #[] #[]) (v : Value) (hy : a.eval y = v)
    {R : Ending → World → Prop} (hc : YieldAt Fence.wide 0 P l #[v] w R) (h : ∀ e w', R e w' → ∃ u, e = .returned u ∧ wpListIn (Fence.wide.inRound r) n P ops Q rest (a.put o.dst u) w') : wpListIn (Fence.wide.inRound r) n P ops Q (o :: rest) a w := by
  refine wpListIn_plain hgd fun K hK' => ?_
  unfold Oper.wpIn
  refine ⟨fun _ _ => trivial, ?_⟩
  rw [Oper.semAt_plain _ _ _ (by rw [ho]; intro c hc'; cases hc')]
  obtain ⟨fn, tmps, assign, body, hyy, hR⟩ := hc
  have he := exec_yield (P := P) (w := w) x y ts ho hx v hy
  rw [he, hyy]
  have hR' : RoundIn (Fence.wide.inRound r) (n - 1) P l fn tmps assign body w R := ⟨trivial, fun c cs _ => hR.2 c cs (room_wide _)⟩
  refine ⟨fun h0 => (by cases h0), hR'.mono fun e w' hRe => ?_⟩
  obtain ⟨u, rfl, hA⟩ := h e w' hRe
  exact hK' _ _ hA
end
/-- The same with no panic let out. -/
def noPanic (Q : Exit → Act → World → Prop) : Exit → Act → World → Prop
  | .panic _, _, _ => False
  | e, a, w => Q e a w
theorem noPanic_le (Q : Exit → Act → World → Prop) : ∀ e a w, noPanic Q e a w → Q e a w := fun e a w h => by
  cases e <;> first | exact h | exact h.elim
/-! The marks. -/
def marksOf (Ds : List Nat) : List Deferred := Ds.map fun D => { target := .collected D, args := #[] }
def Marks (Ds : List Nat) (w : World) : Prop := Ds.Nodup ∧ ∀ D ∈ Ds, w.heap[D]? = some (.deferred (some []))
theorem leaves_marks {n : Nat} {P : Program} {fn : Func} {tmps : Array Value} {R : Ending → World → Prop} {u : FrameMode} (hu : u ≠ .run) : ∀ (Ds : List Nat) (w : World), Marks Ds w → (∀ w', KeptOff (fun k => k ∈ Ds) w w' → LeavesInM Fence.wide n P fn tmps R [] u w') →
    LeavesInM Fence.wide n P fn tmps R (marksOf Ds) u w
  | [], w, _, h => h w (KeptOff.refl _ _)
  | D :: Ds, w, hm, h => by
    obtain ⟨hn, hb⟩ := hm
    obtain ⟨h1, h2⟩ := List.nodup_cons.1 hn
    have hk := KeptOff.putObj w D (.deferred none)
    refine ⟨hu, .inl ⟨D, _, rfl, run_takeDeferred (hb D (List.mem_cons_self ..)), leaves_marks hu Ds _ ⟨h2, fun D' hD' => ?_⟩ fun w' hk' => h w' ?_⟩⟩
    · exact (World.putObj_heap_other (fun e => h1 (by rw [← e]; exact hD'))).trans (hb D' (List.mem_cons_of_mem _ hD'))
    · exact (hk.mono (fun k _ e => by rw [e]; exact List.mem_cons_self ..)).trans (hk'.mono (fun k _ e => List.mem_cons_of_mem _ e))
end Go.Proofs.YtminfmjgmmkaoaaGreatDoor
namespace Go.Proofs.YtminfmjgmmkaoaaGreatDoor
open Go.ChangeShapes Go.WideShapes Go.ChangeAt Go.Shelf Go.RowKit Go.Lib Go.Sort Go.Deep
set_option linter.unusedVariables false
set_option maxRecDepth 4000
set_option linter.unusedSimpArgs false
attribute [local go_sem] Oper.semAt_some

theorem lgWay_any {w : World} {lb : Nat} : Calls Tryz.prog 34 #[.pointer (some ⟨lb, 0, none⟩)] w fun e w' => e = .returned (.func (.func 49) #[] #[.pointer (some ⟨w.heap.size, 0, none⟩)]) ∧ w' = w.alloc (.cells #[.pointer (some ⟨lb, 0, none⟩)] 28) := by
  go_enter Tryz.func34, Tryz.ntmps34
  go_wp2
  go_ret
  exact ⟨rfl, rfl⟩
/-- What the way over a log's entries reads. -/
def HW (b : World) (pb lb : Nat) (v : Wv) (sv : Value) (ss : List Sth) (k : Nat) : Prop := k < b.heap.size ∨ k = pb ∨ k = lb ∨ sv.ownBlock = some k ∨ ∃ S ∈ ss, SRead v S k
/-- What stands ahead of a stretch. -/
def WayR (b W0 : World) (pb lb yb l : Nat) (v : Wv) (W : Wd) (sv : Value) (ss : List Sth) (J : (Nat → Prop) → List En → World → Prop) (i : Nat) (Ds : List Nat) (w : World) : Prop :=
  ∃ Z, J Z (toldAll W (ss.take i)) w ∧ Z yb ∧ (∀ D ∈ Ds, Z D) ∧ Marks Ds w ∧ (∀ q, Z q → q < w.heap.size ∧ W0.heap.size ≤ q) ∧ w.heap[yb]? = some (.cells #[.func (.yield l) #[] #[]] 103 (0, 0)) ∧ KeptOff (fun q => ¬ HW b pb lb v sv ss q) W0 w
/-- What stands between two entries of a stretch. -/
def WayI (Zo HWp : Nat → Prop) (w2 : World) (J : (Nat → Prop) → List En → World → Prop) (done : List En) (Zi : Nat → Prop) (pre : List En) (X : World) : Prop :=
  J (fun q => Zo q ∨ Zi q) (done ++ pre) X ∧ (∀ q, Zi q → w2.heap.size ≤ q) ∧ KeptOff (fun q => ¬ (Zo q ∨ HWp q)) w2 X
theorem WayI.steps {Zo HWp : Nat → Prop} {w2 : World} {J : (Nat → Prop) → List En → World → Prop} {done : List En} (hJ : StepsOn J) (hZo : ∀ q, Zo q ∨ HWp q → q < w2.heap.size) : StepsOn (WayI Zo HWp w2 J done) := by
  intro Z Z' s X Y ⟨h1, h2, h3⟩ hk hz
  have hs := h3.size
  refine ⟨hJ _ _ _ X Y h1 (hk.mono (fun q _ e => .inr e)) (fun q hq => ?_), fun q hq => ?_, h3.then_new hk (fun q hq e => absurd (h2 q e) (by omega))⟩
  · rcases hq with e | e
    · exact .inl (.inl e)
    · exact (hz q e).imp .inr id
  · rcases hz q hq with e | e
    · exact h2 q e
    · omega
/-- How a round's early end is kept. -/
def WayX (Zo HWp : Nat → Prop) (w2 : World) (K : (Nat → Prop) → List En → World → Prop) (done : List En) (c : Code) (Zi : Nat → Prop) (pre : List En) (X : World) : Prop := c = .ret ∧ WayI Zo HWp w2 K done Zi pre X
theorem AtT.range {w : World} {v : Value} {ss : List Sth} {k g off c : Nat} {S : Sth} (h : AtT w v ss) (hv : v = .slice (some ⟨g, off, none⟩) ss.length c) (hp : ss[k]? = some S) : w.rangeAt g (off + k * 11) (encT S) := by
  intro j u hj
  rcases h with ⟨e, _⟩ | ⟨g', off', cap', e, hr⟩
  · rw [hv] at e; cases e
  · rw [hv] at e
    simp at e
    obtain ⟨⟨rfl, rfl⟩, rfl⟩ := e
    have hl : j < 11 := by have := (List.getElem?_eq_some_iff.1 hj).1; simpa [encT, encSt] using this
    have := hr.cell (j := k * 11 + j) (u := u) (by rw [flatOf_get encT_length ss k j S hp hl]; exact hj)
    rwa [← Nat.add_assoc] at this
def z11 : Array Value := #[.int .i64 0, .int .i64 0, .int .i64 0, .int .i64 0, .int .i64 0, .int .i64 0, .int .i64 0, .int .i64 0, .int .i64 0, .int .i64 0, .slice none 0 0]
theorem toldAll_snoc {W : Wd} {ss : List Sth} {i : Nat} {S : Sth} (h : ss[i]? = some S) : toldAll W (ss.take (i + 1)) = toldAll W (ss.take i) ++ told W S.kept S.L := by
  rw [List.take_add_one, h, toldAll_append]
  simp [toldAll]
/-- Ahead of each round of the loop over stretches. -/
def WayL (b W0 : World) (pb lb l n : Nat) (v : Wv) (W : Wd) (sv : Value) (ss : List Sth) (J : (Nat → Prop) → List En → World → Prop) (sl : Value) (a : Act) (w : World) : Prop :=
  ∃ (u4 u12 u13 u14 u15 u16 u17 u18 u19 u20 u26 : Value) (i : Nat) (Ds : List Nat), a = { tmps := #[.func (.yield l) #[] #[], .pointer (some ⟨pb, 0, none⟩), .pointer (some ⟨W0.heap.size, 0, none⟩), undef, u4, undef, .pointer (some ⟨lb, 0, none⟩), .pointer (some ⟨lb, 0, none⟩), .pointer (some ⟨lb, 5, none⟩), sl, .int .i64 (n : Int), .int .i64 (i : Int), u12, u13, u14, u15, u16, u17, u18, u19, u20, undef, undef, undef, undef, undef, u26], defers := marksOf Ds } ∧
    i ≤ n ∧ Hid (WayR b W0 pb lb W0.heap.size l v W sv ss J i Ds w)
def wayMu (n : Nat) (a : Act) (_ : World) : Nat := n - (intOf (a.tmps.getD 11 undef)).toNat
theorem told_pre {W : Wd} {ss : List Sth} {i : Nat} {S : Sth} {pre : List En} {x : En} (h : ss[i]? = some S) (hp : pre ++ [x] <+: told W S.kept S.L) : toldAll W (ss.take i) ++ pre ++ [x] <+: toldAll W ss := by
  obtain ⟨r, hr⟩ := hp
  refine ⟨r ++ toldAll W (ss.drop (i + 1)), ?_⟩
  have h1 := toldAll_snoc (W := W) h
  have h2 : toldAll W ss = toldAll W (ss.take (i + 1)) ++ toldAll W (ss.drop (i + 1)) := by rw [← toldAll_append, List.take_append_drop]
  rw [h2, h1, ← hr]
  simp [List.append_assoc]
theorem told_pre0 {W : Wd} {ss : List Sth} {i : Nat} {S : Sth} {pre : List En} (h : ss[i]? = some S) (hp : pre <+: told W S.kept S.L) : toldAll W (ss.take i) ++ pre <+: toldAll W ss := by
  obtain ⟨r, hr⟩ := hp
  refine ⟨r ++ toldAll W (ss.drop (i + 1)), ?_⟩
  have h1 := toldAll_snoc (W := W) h
  have h2 : toldAll W ss = toldAll W (ss.take (i + 1)) ++ toldAll W (ss.drop (i + 1)) := by rw [← toldAll_append, List.take_append_drop]
  rw [h2, h1, ← hr]
  simp [List.append_assoc]
set_option maxHeartbeats 16000000 in
theorem lgWay1_gives {b w : World} {eb : Addr} (hE : ErrIs b eb) (hT : ErrT b) (hb : Below b.heap.size b w) {pb lb : Nat} {v : Wv} {W : Wd} {every len : Int} {sv : Value} {ss : List Sth} {st : Sta} {stuck : Bool} (hp : w.heap[pb]? = some (.cells #[.pointer (some ⟨lb, 0, none⟩)] 28 (0, 0)))
    (hrow : w.heap[lb]? = some (.cells (logC v W every sv len st stuck) 71 (0, 0))) (rd : LogRd w v W sv ss) (ok : ∀ S ∈ ss, StaOk S.kept ∧ ∀ p ∈ S.L, In64 p.ev.v) (hn : ss.length < 16384) (hL : ∀ S ∈ ss, S.L.length < 16384) (hsl : ∀ S ∈ ss, ∀ p ∈ S.L, p.sent.length ≤ 16384) :
    GivesZ Tryz.prog 49 #[.pointer (some ⟨pb, 0, none⟩)] PayE (toldAll W ss) (HW b pb lb v sv ss) w := by
  intro l J K W0 hKW hJ hK hY h0
  have mixed := mixed
  have hWb := Lib.hid (hb.trans (hKW.below (fun k _ e => Nat.le_of_not_lt fun hh => e (.inl hh)) hb.size))
  have hp0 := Lib.hid ((hKW.block pb (Array.getElem?_eq_some_iff.1 hp).1 (fun e => e (.inr (.inl rfl)))).trans hp)
  have hr0 := Lib.hid ((hKW.block lb (Array.getElem?_eq_some_iff.1 hrow).1 (fun e => e (.inr (.inr (.inl rfl))))).trans hrow)
  have hab : Hid (AtT W0 sv ss) := Lib.hid (RowAt.kept rd.abv hKW (fun k hk e => e (.inr (.inr (.inr (.inl hk))))))
  have hsr : Hid (∀ S ∈ ss, SthRd W0 v W S) := Lib.hid (fun S hS => (rd.sth hS).kept hKW (fun k hk e => e (.inr (.inr (.inr (.inr ⟨S, hS, hk⟩))))))
  have hHlt : Hid (∀ k, HW b pb lb v sv ss k → k < W0.heap.size) := Lib.hid (fun k hk => by
    rcases hk with hk | rfl | rfl | hk | ⟨S, hS, hk⟩
    · have := hWb.out.size; omega
    · exact (Array.getElem?_eq_some_iff.1 hp0.out).1
    · exact (Array.getElem?_eq_some_iff.1 hr0.out).1
    · obtain ⟨cur, h1⟩ := RowAt.tag hab.out hk
      exact (Array.getElem?_eq_some_iff.1 h1).1
    · exact (hsr.out S hS).lt k hk)
  have hJ' := Lib.hid hJ
  have hK' := Lib.hid hK
  have hY' := Lib.hid hY
  have hEb := Lib.hid hE
  have hTb := Lib.hid hT
  obtain ⟨sa, sc, hsv, -⟩ := RowAt.shape rd.abv
  have hst : Hid (WayR b W0 pb lb W0.heap.size l v W sv ss J 0 [] (W0.alloc (.cells #[.func (.yield l) #[] #[]] 103))) := Lib.hid (by
    have hbl := (Below.refl _ W0).alloc (Nat.le_refl _) (.cells #[.func (.yield l) #[] #[]] 103)
    refine ⟨fun q => q = W0.heap.size, ?_, rfl, fun D hD => (by cases hD), ⟨List.nodup_nil, fun D hD => (by cases hD)⟩, fun q e => by subst e; simp, heap_alloc_new W0 _, .of_below hbl⟩
    exact hJ _ _ [] W0 _ h0 (.of_below hbl) (fun q e => .inr (Nat.le_of_eq e.symm)))
  have hbl := (Below.refl _ W0).alloc (Nat.le_refl _) (.cells #[.func (.yield l) #[] #[]] 103)
  have c1 := row_cell ((hbl.block _ (Array.getElem?_eq_some_iff.1 hp0.out).1).trans hp0.out) 0 rfl
  have c5 : (W0.alloc (.cells #[.func (.yield l) #[] #[]] 103)).cell? ⟨lb, 5, none⟩ = some (.slice sa ss.length sc) := by rw [← hsv]; exact row_cell ((hbl.block _ (Array.getElem?_eq_some_iff.1 hr0.out).1).trans hr0.out) 5 rfl
  clear hbl
  clear hJ hK hY hE hT h0 hKW hb hp hrow rd
  refine (callsIn_wide (n := 6)).1 ?_
  refine callsIn_of_wp_marks Tryz.func49 rfl trivial (wpIn_mono (Q := noPanic (bodyPostM Fence.wide 6 Tryz.prog Tryz.f49 fun e W' => (∃ v, e = .returned v) ∧ ∃ Z, J Z (toldAll W ss) W' ∨ ∃ pre, pre <+: toldAll W ss ∧ K Z pre W')) ?_ (noPanic_le _)) rfl
  simp only [Tryz.ntmps49, List.size_toArray, List.length_cons, List.length_nil, Nat.reduceAdd, Nat.reduceSub, Array.replicate_succ, Array.replicate_zero, List.push_toArray, List.append_toArray, List.nil_append, List.cons_append]
  refine wpIn_wide.2 ?_
  go_wp2_with fail
  refine (wpIn_wide (n := 6)).1 ?_
  clear c1 c5
  generalize W0.alloc (.cells #[.func (.yield l) #[] #[]] 103) = W1 at *
  refine wpIn_loop (WayL b W0 pb lb l ss.length v W sv ss J (.slice sa ss.length sc)) (wayMu ss.length) ⟨_, _, _, _, _, _, _, _, _, _, _, 0, [], rfl, Nat.zero_le _, hst⟩ ?_
  clear hst
  rintro a wr ⟨u4, u12, u13, u14, u15, u16, u17, u18, u19, u20, u26, i, Ds, rfl, hi, hR⟩
  obtain ⟨Z, hJZ0, hZy, hZD, hM0, hZb, hyb0, hKw0⟩ := hR.out
  clear hR
  have hJZ := Lib.hid hJZ0
  have hM := Lib.hid hM0
  have hyb := Lib.hid hyb0
  have hKw := Lib.hid hKw0
  clear hJZ0 hM0 hyb0 hKw0
  by_cases hlt : i < ss.length
  · obtain ⟨S, hS⟩ : ∃ S, ss[i]? = some S := ⟨_, List.getElem?_eq_getElem hlt⟩
    have hSm := List.mem_of_getElem? hS
    obtain ⟨g, off, c, hv, -⟩ := RowAt.form hab.out (by omega)
    rw [hsv] at hv
    obtain ⟨rfl, rfl⟩ : sa = some ⟨g, off, none⟩ ∧ sc = c := by simpa using hv
    have hlt3 : (i : Int) < (ss.length : Int) := by omega
    have hi0 : (0 : Int) ≤ (i : Int) := by omega
    have hlx : (encT S).length = 11 := rfl
    have hlw : (wordC v W).length = 4 := rfl
    have habr : AtT wr sv ss := RowAt.kept hab.out hKw.out (fun k hk e => e (.inr (.inr (.inr (.inl hk)))))
    have hrg : Hid (wr.rangeAt g (off + i * 11) (encT S)) := Lib.hid (habr.range hsv hS)
    clear habr
    have hA := heap_alloc_new wr (.cells z11 68)
    have hC := Lib.hid ((Below.refl _ wr).alloc (Nat.le_refl _) (.cells z11 68))
    have hx11 : Hid ((encT S).toArray.size = 11 ∧ (encT S).toArray.all (·.oneCell') = true) := Lib.hid ⟨rfl, by
      obtain ⟨a, c, e, -⟩ := RowAt.shape ((hsr.out S hSm).stp)
      simp [encT, encSt, e, Value.oneCell']⟩
    simp only [z11] at hA hC
    have hXT : ∃ XT, encT S = XT := ⟨_, rfl⟩
    obtain ⟨XT, hXT0⟩ := hXT
    rw [hXT0] at hlx hrg hx11
    have hXT := Lib.hid hXT0
    clear hXT0
    refine wpIn_wide.2 ?_
    go_upto_region 4 with (first
      | (refine wpList_load_mid rfl 68 (.tmp 13) rfl g (off + i * 11) rfl XT _ hrg.out Tryz.underlying68 rfl (by rw [hlx]; exact infoTh11) ?_)
      | (refine wpList_store_row rfl 68 (.tmp 4) (.tmp 14) rfl wr.heap.size XT.toArray rfl rfl 68 _ hA (by rw [hx11.out.1]; exact infoTh11) (by rw [hx11.out.1]; rfl) hx11.out.2 ?_))
    have hX1 := Lib.hid (setRow_heap (new := XT.toArray) hA)
    have hB1 := Lib.hid (below_row hC.out (g := wr.heap.size) (Nat.le_refl _) XT.toArray)
    clear hA hC
    generalize (wr.alloc (Obj.cells _ 68)).setRow wr.heap.size XT.toArray = w1 at *
    have hx1 : wr.heap.size < w1.heap.size := (Array.getElem?_eq_some_iff.1 hX1.out).1
    have hk1 : Hid (∀ w', Below w1.heap.size w1 w' → KeptOff (fun q => ¬ HW b pb lb v sv ss q) W0 w') := Lib.hid (fun w' h => (hKw.out.trans (.of_below hB1.out)).trans (.of_below h))
    have hc1 : Hid (∀ w', Below w1.heap.size w1 w' → w'.cell? ⟨pb, 0, none⟩ = some (.pointer (some ⟨lb, 0, none⟩))) := Lib.hid (fun w' h => row_cell (((hk1.out w' h).block pb (Array.getElem?_eq_some_iff.1 hp0.out).1 (fun e => e (.inr (.inl rfl)))).trans hp0.out) 0 rfl)
    have hw1 : Hid (∀ w', Below w1.heap.size w1 w' → w'.rangeAt lb 0 (wordC v W)) := Lib.hid (fun w' h => logC_world (((hk1.out w' h).block lb (Array.getElem?_eq_some_iff.1 hr0.out).1 (fun e => e (.inr (.inr (.inl rfl))))).trans hr0.out))
    have hxr : Hid (∀ w', Below w1.heap.size w1 w' → w'.rangeAt wr.heap.size 0 XT) := Lib.hid (fun w' h => by
      have := range_block ((h.block _ hx1).trans hX1.out)
      simpa using this)
    have hse : Hid (∀ w', Calls Tryz.prog 50 #[.agg XT.toArray, .agg (wordC v W).toArray, .int .i64 0] w' fun e w2 => e = .returned (.func (.func 69) #[] #[.pointer (some ⟨w'.heap.size, 0, none⟩), .pointer (some ⟨w'.heap.size + 1, 0, none⟩), .pointer (some ⟨w'.heap.size + 1 + 1, 0, none⟩)]) ∧
      Hid (Tri w' w2 (.cells XT.toArray 68) (.cells (wordC v W).toArray 26) (.cells #[.int .i64 0] 3))) := Lib.hid (fun w' => by rw [← hXT.out]; exact spEntries_any (f := 0))
    generalize hcw : wordC v W = cw at *
    have hcw' := Lib.hid hcw
    clear hcw
    refine wp_region_held_drew (S := fun w' => Below w1.heap.size w1 w') (by kernel_rfl) (Below.refl _ w1).drew (fun hHeld => ?_)
    clear hHeld
    have hHd : Below w1.heap.size w1 w1.drew := (Below.refl _ w1).drew
    refine wpAnyH_take (i := 0) (oi := { dst := some 15, op := Op.load 68 (Operand.tmp 4), type := 68, pos := "log.go:125", after := #[], guard := none }) (v := .agg (XT).toArray) rfl (by kernel_rfl) (by kernel_rfl) (by kernel_rfl) (fun _ _ _ h => h) (yieldsIf_load_mid (by rfl) 68 (.tmp 4) (by rfl) wr.heap.size 0 (by rfl) (XT) _ (fun w' h => hxr.out w' h) Tryz.underlying68 rfl (by rw [hlx]; exact infoTh11)) hHd ?_
    try simp only [Act.put, List.setIfInBounds_toArray, List.set_cons_zero, List.set_cons_succ]
    refine wpAnyH_take (i := 1) (oi := { dst := some 16, op := Op.load 28 (Operand.tmp 1), type := 28, pos := "log.go:125", after := #[], guard := none }) (v := ?vv1_1) rfl (by kernel_rfl) (by kernel_rfl) (by kernel_rfl) (fun _ _ _ h => h) (Or.inl ⟨by rfl, ?hy1_1⟩) hHd ?rest1_1
    case hy1_1 =>
      intro w hSw
      have c := hc1.out w hSw
      go_simp
      try with_reducible rfl
    try simp only [Act.put, List.setIfInBounds_toArray, List.set_cons_zero, List.set_cons_succ]
    refine wpAnyH_take (i := 2) (oi := { dst := some 17, op := Op.nilCheck (Operand.tmp 16), type := 0, pos := "log.go:125", after := #[{ on := 1, ground := Ground.data }], guard := none }) (v := ?vv2_2) rfl (by kernel_rfl) (by kernel_rfl) (by kernel_rfl) (fun _ _ _ h => h) (Or.inl ⟨by rfl, ?hy2_2⟩) hHd ?rest2_2
    case hy2_2 =>
      intro w hSw
      go_simp
      try with_reducible rfl
    try simp only [Act.put, List.setIfInBounds_toArray, List.set_cons_zero, List.set_cons_succ]
    refine wpAnyH_take (i := 3) (oi := { dst := some 18, op := Op.fieldAddr 71 (Operand.tmp 17) 0, type := 0, pos := "log.go:125", after := #[{ on := 2, ground := Ground.data }], guard := none }) (v := ?vv3_3) rfl (by kernel_rfl) (by kernel_rfl) (by kernel_rfl) (fun _ _ _ h => h) (Or.inl ⟨by rfl, ?hy3_3⟩) hHd ?rest3_3
    case hy3_3 =>
      intro w hSw
      go_simp
      try with_reducible rfl
    try simp only [Act.put, List.setIfInBounds_toArray, List.set_cons_zero, List.set_cons_succ]
    refine wpAnyH_take (i := 4) (oi := { dst := some 19, op := Op.load 26 (Operand.tmp 18), type := 26, pos := "log.go:125", after := #[{ on := 3, ground := Ground.data }], guard := none }) (v := .agg (cw).toArray) rfl (by kernel_rfl) (by kernel_rfl) (by kernel_rfl) (fun _ _ _ h => h) (yieldsIf_load_mid (by rfl) 26 (.tmp 18) (by rfl) lb 0 (by rfl) (cw) _ (fun w' h => hw1.out w' h) Tryz.underlying26 rfl (by rw [hlw]; exact infoWo)) hHd ?_
    try simp only [Act.put, List.setIfInBounds_toArray, List.set_cons_zero, List.set_cons_succ]
    obtain ⟨wd, hwd⟩ : ∃ wd, wd = w1.drew := ⟨_, rfl⟩
    rw [← hwd] at hHd ⊢
    clear hwd
    refine wpAnyH_ready (rs := [5]) (by kernel_rfl) (by simp) ?_
    refine AllReadyH.cons (o := { dst := some 20, op := Op.call { callee := Callee.value (Operand.func 50), args := #[Operand.tmp 15, Operand.tmp 19, Operand.const (Value.int IntKind.i64 0)], argTypes := #[68, 26, 3] }, type := 80, pos := "log.go:125", after := #[{ on := 0, ground := Ground.data }, { on := 4, ground := Ground.data }], guard := none }) rfl (fun K hK => ?_) AllReadyH.nil
    go_simp
    refine (hse.out wd).mono ?_
    rintro e w2 ⟨rfl, hq2⟩
    have hHw := hHd.trans (hq2.out.b.mono hHd.size)
    refine hK.out _ _ hHw (fun hHeld => ?_)
    clear hHeld hK K
    try simp only [Act.put, List.setIfInBounds_toArray, List.set_cons_zero, List.set_cons_succ]
    refine wpAnyH_done (by kernel_rfl) ?_ _
    go_wp2_with fail
    refine (wpIn_wide (n := 6)).1 ?_
    have t0 := Lib.hid hq2.out.a
    have t1 := Lib.hid hq2.out.s
    have t2 := Lib.hid hq2.out.m
    have tsz := hq2.out.sz
    have hBw2 := Lib.hid (hB1.out.trans (hHw.mono hB1.out.size))
    have hK2 := Lib.hid (hk1.out w2 hHw)
    have hx2 := (Array.getElem?_eq_some_iff.1 ((hHw.block _ hx1).trans hX1.out)).1
    have had : wr.heap.size < wd.heap.size := Nat.lt_of_lt_of_le hx1 hHd.size
    clear hc1 hxr hw1 hse hq2 hHw hHd hX1 hB1 hk1 hrg hx1
    generalize wd.heap.size = ad at *
    have hSr : SthRd w2 v W S := (hsr.out S hSm).kept hK2.out (fun k hk e => e (.inr (.inr (.inr (.inr ⟨S, hSm, hk⟩)))))
    have hB2 : Below b.heap.size b w2 := hWb.out.trans (hK2.out.below (fun k _ e => Nat.le_of_not_lt fun hh => e (.inl hh)) hWb.out.size)
    have hgv := spEntries1_gives (f := 0) hEb.out hTb.out hB2 (xb := ad) (wb := ad + 1) (fb := ad + 1 + 1) (v := v) (W := W) (S := S) (by rw [hXT.out]; exact t0.out) (by rw [hcw'.out]; exact t1.out) t2.out (Nat.zero_le _) hSr (ok S hSm) (hL S hSm) (hsl S hSm)
    obtain ⟨Zo, hZo⟩ : ∃ Zo : Nat → Prop, Zo = fun q => Z q ∨ q = wr.heap.size ∨ q = ad ∨ q = ad + 1 ∨ q = ad + 1 + 1 := ⟨_, rfl⟩
    have hsw := hBw2.out.size
    have hJo : Hid (J Zo (toldAll W (ss.take i)) w2) := Lib.hid (hJ'.out Z Zo _ wr w2 hJZ.out (.of_below hBw2.out) (fun q hq => by
      rw [hZo] at hq
      rcases hq with e | e
      · exact .inl e
      · exact .inr (by omega)))
    have hZob : ∀ q, Zo q → q < w2.heap.size ∧ W0.heap.size ≤ q := fun q hq => by
      rw [hZo] at hq
      have h1 := hKw.out.size
      rcases hq with e | e
      · have := hZb q e; exact ⟨by omega, this.2⟩
      · exact ⟨by omega, by omega⟩
    have hin : ∀ q, Zo q ∨ HW b pb lb v sv ss q → q < w2.heap.size := fun q hq => by
      rcases hq with e | e
      · exact (hZob q e).1
      · have := hHlt.out q e; have := hK2.out.size; omega
    have hHE : ∀ q, HE b ad (ad + 1) (ad + 1 + 1) v S q → Zo q ∨ HW b pb lb v sv ss q := fun q hq => by
      rcases hq with e | e | e | e | e
      · exact .inr (.inl e)
      · left; rw [hZo]; exact .inr (.inr (.inl e))
      · left; rw [hZo]; exact .inr (.inr (.inr (.inl e)))
      · left; rw [hZo]; exact .inr (.inr (.inr (.inr e)))
      · exact .inr (.inr (.inr (.inr (.inr ⟨S, hSm, e⟩))))
    have hZyo : Zo W0.heap.size := by rw [hZo]; exact .inl hZy
    have hyb2 := Lib.hid ((hBw2.out.block _ (Array.getElem?_eq_some_iff.1 hyb.out).1).trans hyb.out)
    have hM2 : Hid (Marks Ds w2) := Lib.hid ⟨hM.out.1, fun D hD => (hBw2.out.block _ (Array.getElem?_eq_some_iff.1 (hM.out.2 D hD)).1).trans (hM.out.2 D hD)⟩
    have hZDo : ∀ D ∈ Ds, Zo D := fun D hD => by rw [hZo]; exact .inl (hZD D hD)
    clear t0 t1 t2 hJZ hM hyb hBw2 hSr hB2 hZo
    have hgv' := Lib.hid hgv
    clear hgv
    refine wpIn_rangeFunc_Z (gf := 69) (lb := #[.pointer (some ⟨ad, 0, none⟩), .pointer (some ⟨ad + 1, 0, none⟩), .pointer (some ⟨ad + 1 + 1, 0, none⟩)]) rfl (enters_of Tryz.func69 (by kernel_rfl) rfl) (H := HE b ad (ad + 1) (ad + 1 + 1) v S) (fun k hk => hin k (hHE k hk)) hgv'.out
      (fun G x vs X h => by obtain ⟨a, c, rfl, _⟩ := h; rfl) (WayI Zo (HW b pb lb v sv ss) w2 J (toldAll W (ss.take i))) (WayX Zo (HW b pb lb v sv ss) w2 K (toldAll W (ss.take i))) (WayI.steps hJ'.out hin) (fun c Z Z' s X Y h hk hz => ⟨h.1, WayI.steps hK'.out hin Z Z' s X Y h.2 hk hz⟩)
      ⟨hJ'.out Zo _ _ w2 w2 (by rw [List.append_nil]; exact hJo.out) (KeptOff.refl _ _) (fun q hq => .inl (hq.elim id False.elim)), fun q hq => hq.elim, KeptOff.refl _ _⟩ ?round ?done ?stop
    case round =>
      intro l1 Zi G pre x vs X hI hpre hpay hG hZlt hsz hvs
      obtain ⟨hJX0, hZi, hKX0⟩ := hI
      obtain ⟨ea, ec, rfl, hMx0, hTx0, hGx⟩ := hpay
      have hJX := Lib.hid hJX0
      have hKX := Lib.hid hKX0
      have hMx := Lib.hid hMx0
      have hTx := Lib.hid hTx0
      clear hJX0 hKX0 hMx0 hTx0 hgv'
      have hA := heap_alloc_new X (.cells z19 44)
      have hC := Lib.hid ((Below.refl _ X).alloc (Nat.le_refl _) (.cells z19 44))
      simp only [z19] at hA hC
      have hE1 : Hid ((entC x.ev x.bf x.fl (.slice ea x.sent.length ec)).toArray.size = 19 ∧ (entC x.ev x.bf x.fl (.slice ea x.sent.length ec)).toArray.all (·.oneCell') = true ∧ (entC x.ev x.bf x.fl (.slice ea x.sent.length ec)).length = 19) := Lib.hid ⟨rfl, entC_one _ _ _ _ _ _, rfl⟩
      have hET : ∃ ET, entC x.ev x.bf x.fl (.slice ea x.sent.length ec) = ET := ⟨_, rfl⟩
      obtain ⟨ET, hET0⟩ := hET
      rw [hET0] at hE1 ⊢
      have hET := Lib.hid hET0
      clear hET0
      have hpre' : Hid (toldAll W (ss.take i) ++ pre ++ [x] <+: toldAll W ss) := Lib.hid (told_pre hS (by simpa using hpre))
      gi_wp2_with (first
        | (refine wpListIn_store_row rfl 44 (.tmp 5) (.tmp 21) rfl X.heap.size ET.toArray rfl rfl 44 _ hA (by rw [hE1.out.1]; exact infoEn) (by rw [hE1.out.1]; rfl) hE1.out.2.1 ?_))
      have hXe := Lib.hid (setRow_heap (new := ET.toArray) hA)
      have hBa := Lib.hid (below_row hC.out (g := X.heap.size) (Nat.le_refl _) ET.toArray)
      clear hA hC
      generalize (X.alloc (Obj.cells _ 44)).setRow X.heap.size ET.toArray = Wa at *
      refine ⟨.of_below hBa.out, fun Wb hkb hsb => ?_⟩
      have hwX := hKX.out.size
      have hwa := hBa.out.size
      have hxl := (Array.getElem?_eq_some_iff.1 hXe.out).1
      -- what stands in Wb
      have hkb0 : Hid (KeptOff (fun q => Zi q ∧ ¬ G q) X Wb) := Lib.hid ((KeptOff.of_below hBa.out).trans hkb)
      have hXb := Lib.hid ((hkb.block _ (Array.getElem?_eq_some_iff.1 hXe.out).1 (fun e => by have := hZlt _ e.1; omega)).trans hXe.out)
      have hkw2 : Hid (KeptOff (fun q => ¬ (Zo q ∨ HW b pb lb v sv ss q)) w2 Wb) := Lib.hid (hKX.out.trans (hkb0.out.mono (fun q _ e h => by have := hZi q e.1; have := hin q h; omega)))
      have cy : Wb.cell? ⟨W0.heap.size, 0, none⟩ = some (.func (.yield l) #[] #[]) := row_cell ((hkw2.out.block _ (Array.getElem?_eq_some_iff.1 hyb2.out).1 (fun e => e (.inl hZyo))).trans hyb2.out) 0 rfl
      have hXr : Hid (Wb.rangeAt X.heap.size 0 ET) := Lib.hid (by have := range_block hXb.out; simpa using this)
      obtain ⟨Zs, hZs⟩ : ∃ Zs : Nat → Prop, Zs = fun q => (Zo q ∨ Zi q) ∨ q = X.heap.size := ⟨_, rfl⟩
      have hJs : J Zs (toldAll W (ss.take i) ++ pre) Wb := hJ'.out (fun q => Zo q ∨ Zi q) Zs _ X Wb hJX.out (hkb0.out.mono (fun q _ e => .inr e.1)) (fun q hq => by
        rw [hZs] at hq
        rcases hq with e | e
        · exact .inl e
        · exact .inr (Nat.le_of_eq e.symm))
      have hpw : PayE G x #[.agg ET.toArray] Wb := ⟨ea, ec, by rw [hET.out], hMx.out.keptOff hkb0.out (fun q e e2 => e2.2 (hGx q e)), hTx.out.kept hkb0.out (fun q e e2 => e2.2 (hGx q e)), hGx⟩
      have hyy := hY'.out Zs G _ x #[.agg ET.toArray] Wb hJs hpre'.out hpw (fun q e => by rw [hZs]; exact .inl (.inr (hG q e))) (fun q e => by
        rw [hZs] at e
        rcases e with (e | e) | e
        · have := (hZob q e).1; omega
        · have := hZlt q e; omega
        · omega)
      have hyy' := Lib.hid hyy
      clear hyy hJs hpw hXe hBa hJX hMx hTx hkb
      have hfinF : Hid (∀ (w5 : World) (bl : Bool), KeptOff (fun k => ¬ Zs k ∧ ¬ HW b pb lb v sv ss k) Wb w5 → (if bl = true then J (fun k => Zs k ∧ ¬ G k) (toldAll W (ss.take i) ++ pre ++ [x]) w5 else K (fun k => Zs k ∧ ¬ G k) (toldAll W (ss.take i) ++ pre ++ [x]) w5) →
          KeptOff (fun k => ¬ Zi k ∧ ¬ HE b ad (ad + 1) (ad + 1 + 1) v S k) Wb w5 ∧ WayI Zo (HW b pb lb v sv ss) w2 (if bl = true then J else K) (toldAll W (ss.take i)) (fun k => Zi k ∧ ¬ G k) (pre ++ [x]) w5) := Lib.hid (fun w5 bl hk5 hif => by
        have hk6 : KeptOff (fun k => ¬ Zi k ∧ ¬ HE b ad (ad + 1) (ad + 1 + 1) v S k) Wb w5 := hk5.mono (fun q _ e => by
          rw [hZs] at e
          exact ⟨fun h => e.1 (.inl (.inr h)), fun h => (hHE q h).elim (fun h => e.1 (.inl (.inl h))) e.2⟩)
        refine ⟨hk6, ?_, fun q e => hZi q e.1, hkw2.out.trans (hk5.mono (fun q _ e h => by
          rw [hZs] at e
          exact h.elim (fun h => e.1 (.inl (.inl h))) e.2))⟩
        have hsub : ∀ k, (Zo k ∨ (Zi k ∧ ¬ G k)) → (Zs k ∧ ¬ G k) ∨ w5.heap.size ≤ k := fun k hk => by
          rw [hZs]
          rcases hk with e | e
          · exact .inl ⟨.inl (.inl e), fun hg => by have := hZi k (hG k hg); have := (hZob k e).1; omega⟩
          · exact .inl ⟨.inl (.inr e.1), e.2⟩
        rw [← List.append_assoc]
        cases bl with
        | true => exact hJ'.out _ _ _ w5 w5 hif (KeptOff.refl _ _) hsub
        | false => exact hK'.out _ _ _ w5 w5 hif (KeptOff.refl _ _) hsub)
      clear hkw2 hXb hkb0 hin hHE hZob hZi hZlt hG hGx hZDo ok hL hsl hZs hpre hpre' hKX hET hwX hwa hsb hsz hxl
      obtain ⟨R, hR0⟩ : ∃ R : Exit → Act → World → Prop, ∀ e a3 W3, R e a3 W3 ↔ KeptOff (fun k => ¬ Zi k ∧ ¬ HE b ad (ad + 1) (ad + 1 + 1) v S k) Wb W3 ∧ LeftZ (WayI Zo (HW b pb lb v sv ss) w2 J (toldAll W (ss.take i))) (WayX Zo (HW b pb lb v sv ss) w2 K (toldAll W (ss.take i))) (fun k => Zi k ∧ ¬ G k) (pre ++ [x]) W3 e := ⟨_, fun _ _ _ => Iff.rfl⟩
      have hR := Lib.hid hR0
      clear hR0
      refine wpIn_mono (Q := R) ?_ (fun e a3 W3 h => (hR.out e a3 W3).1 h)
      simp only [Act.put]
      have hfinR : Hid (∀ (w5 : World) (bl : Bool), KeptOff (fun k => ¬ Zs k ∧ ¬ HW b pb lb v sv ss k) Wb w5 → (if bl = true then J (fun k => Zs k ∧ ¬ G k) (toldAll W (ss.take i) ++ pre ++ [x]) w5 else K (fun k => Zs k ∧ ¬ G k) (toldAll W (ss.take i) ++ pre ++ [x]) w5) →
          Hid ((bl = true → ∀ a3, R .normal a3 w5) ∧ (bl = false → ∀ a3, R .ret a3 w5))) := Lib.hid (fun w5 bl h1 h2 => by
        have h3 := hfinF.out w5 bl h1 h2
        refine ⟨fun e a3 => (hR.out _ _ _).2 ?_, fun e a3 => (hR.out _ _ _).2 ?_⟩
        · subst e; exact h3
        · subst e; exact ⟨h3.1, rfl, h3.2⟩)
      clear hR hfinF
      gi_wp2_with (first
        | (refine wpListIn_load_row rfl 44 (.tmp 5) rfl X.heap.size 0 rfl ET _ hXr.out Tryz.underlying44 rfl (by rw [hE1.out.2.2]; exact infoEn) ?_)
        | (refine wpListIn_yield rfl (.tmp 22) (.tmp 23) _ rfl rfl _ rfl hyy'.out ?_; rintro e w5 ⟨bl, rfl, hk5, hif⟩; refine ⟨_, rfl, ?_⟩; have hfin := hfinR.out w5 bl hk5 hif; clear hk5 hif))
      · exact hfin.out.2 (by simpa using ‹(!bl) = true›) _
      · exact hfin.out.1 (by simpa using ‹(!bl) = false›) _
    case done =>
      intro D Zf W2 hD hZfD hI hdef
      have hfin : Hid (WayR b W0 pb lb W0.heap.size l v W sv ss J (i + 1) (D :: Ds) W2) := Lib.hid (by
        obtain ⟨hJf, hZfb, hKf⟩ := hI
        have hwf := hKf.size
        have hD2 : D < W2.heap.size := (Array.getElem?_eq_some_iff.1 hdef).1
        refine ⟨fun q => (Zo q ∨ Zf q) ∧ q < W2.heap.size, ?_, ⟨.inl hZyo, by have := (hZob _ hZyo).1; omega⟩, fun D' hD' => ?_, ⟨List.nodup_cons.2 ⟨fun h => by have := (hZob D (hZDo D h)).1; omega, hM2.out.1⟩, fun D' hD' => ?_⟩, fun q hq => ⟨hq.2, ?_⟩, (hKf.block _ (Array.getElem?_eq_some_iff.1 hyb2.out).1 (fun e => e (.inl hZyo))).trans hyb2.out, hK2.out.trans (hKf.mono (fun q _ e h => e (.inr h)))⟩
        · rw [toldAll_snoc hS]
          exact hJ'.out _ _ _ W2 W2 (by simpa using hJf) (KeptOff.refl _ _) (fun q hq => .inl hq.1)
        · rcases List.mem_cons.1 hD' with rfl | hD'
          · exact ⟨.inr hZfD, hD2⟩
          · exact ⟨.inl (hZDo D' hD'), by have := (hZob D' (hZDo D' hD')).1; omega⟩
        · rcases List.mem_cons.1 hD' with rfl | hD'
          · exact hdef
          · exact (hKf.block _ (Array.getElem?_eq_some_iff.1 (hM2.out.2 D' hD')).1 (fun e => e (.inl (hZDo D' hD')))).trans (hM2.out.2 D' hD')
        · rcases hq.1 with e | e
          · exact (hZob q e).2
          · have h5 := hZfb q e; have h6 := hK2.out.size; omega)
      have a1 : IntKind.i64.wrap ((i : Int) + 1) = (i : Int) + 1 := IntWalk.i64_in _ (by omega)
      clear hI hdef hZfD hM2 hZDo hyb2 hZyo hHE hin hZob hJo hgv'
      dsimp only [Exit.inBlock, Exit.then]
      clear ok hL hsl hZb hZD
      go_wp2
      refine ⟨⟨_, _, _, _, _, _, _, _, _, _, _, i + 1, D :: Ds, by go_num, by omega, hfin⟩, by simp [wayMu, intOf]; omega⟩
    case stop =>
      intro D c Zf pre W2 hD hZfD hpre hI hdef
      obtain ⟨rfl, hJf, hZfb, hKf⟩ := hI
      have hMf : Marks (D :: Ds) W2 := ⟨List.nodup_cons.2 ⟨fun h => by have := (hZob D (hZDo D h)).1; omega, hM2.out.1⟩, fun D' hD' => by
        rcases List.mem_cons.1 hD' with rfl | hD'
        · exact hdef
        · exact (hKf.block _ (Array.getElem?_eq_some_iff.1 (hM2.out.2 D' hD')).1 (fun e => e (.inl (hZDo D' hD')))).trans (hM2.out.2 D' hD')⟩
      have hend : Hid (∀ w', KeptOff (fun k => k ∈ D :: Ds) W2 w' → (∃ Z, J Z (toldAll W ss) w' ∨ ∃ pre, pre <+: toldAll W ss ∧ K Z pre w')) := Lib.hid (fun w' hk => ⟨fun q => Zo q ∨ Zf q, .inr ⟨_, told_pre0 hS (by simpa using hpre), hK'.out _ _ _ W2 w' hJf (hk.mono (fun q _ e => by
        rcases List.mem_cons.1 e with rfl | e
        · exact .inr hZfD
        · exact .inl (hZDo q e))) (fun q e => .inl e)⟩⟩)
      have hMf' := Lib.hid hMf
      clear hMf hJf hZfb hKf hdef hpre hZfD hM2 hZDo hyb2 hZyo hHE hin hZob hJo hgv' ok hL hsl hZb hZD
      gi_wp2
      exact leaves_marks (by simp) (D :: Ds) W2 hMf'.out (fun w' hk => ⟨_, results_none rfl _ _ _, ⟨_, rfl⟩, hend.out w' hk⟩)
  · obtain rfl : i = ss.length := by omega
    have hend : Hid (∀ w', KeptOff (fun k => k ∈ Ds) wr w' → (∃ Z, J Z (toldAll W ss) w' ∨ ∃ pre, pre <+: toldAll W ss ∧ K Z pre w')) := Lib.hid (fun w' hk => ⟨Z, .inl (hJ'.out _ _ _ wr w' (by simpa using hJZ.out) (hk.mono (fun q _ e => hZD q e)) (fun q e => .inl e))⟩)
    have hnl : ¬ (ss.length : Int) < (ss.length : Int) := by omega
    clear hJZ hyb hKw ok hL hsl hZb hZD
    gi_wp2
    exact leaves_marks (by simp) Ds wr hM.out (fun w' hk => ⟨_, results_none rfl _ _ _, ⟨_, rfl⟩, hend.out w' hk⟩)
end Go.Proofs.YtminfmjgmmkaoaaGreatDoor
namespace Go.Proofs.YtminfmjgmmkaoaaGreatDoor
open Go
set_option linter.unusedVariables false

section
variable {r n : Nat} {P : Program} {ops : Array Oper} {Q : Exit → Act → World → Prop} {md : Region.Mode} {S : World → Prop}
theorem yieldsIf_wpOpInR {i : Nat} {o : Oper} {v : Value} {a : Act} (hi : ops[i]? = some o) (hnd : ∀ c, o.op ≠ .defer c) (hy : YieldsIf P ops S o v a) {K : Act → World → Prop} {w : World} (hS : S w) (h : K (a.put o.dst v) w) : wpOpIn (Fence.wide.inRound r) n P ops Q i K a w := by
  unfold Go.wpOpIn
  simp only [hi]
  have hab : ∀ f, o.about P w a.eval = some f → (Fence.wide.inRound r).fn f := fun f hf => trivial
  rcases hy with ⟨hw, hv⟩ | ⟨hw, rfl⟩
  · simp only [hw, if_true, Oper.wpIn, Oper.semAt_plain (Fence.wide.inRound r) _ _ hnd, hv w hS, Oper.uponIn]; exact ⟨hab, h⟩
  · simp only [hw, Bool.false_eq_true, if_false]; exact ⟨hab, h⟩
theorem wpOpIn_putIfR {j : Nat} {oi oj : Oper} {v : Value} (hj : ops[j]? = some oj) (hnd : ∀ c, oj.op ≠ .defer c) (hap : oi.apart ops oj = true)
    (hsi : ∀ cs b, oi.op ≠ .select cs b) (hsj : ∀ cs b, oj.op ≠ .select cs b)
    (hQ : ∀ c a w, Q (.panic c) (a.put oi.dst v) w → Q (.panic c) a w) {K : Act → World → Prop} {a : Act} {w : World}
    (hy : YieldsIf P ops S oi v a) (h : wpOpIn (Fence.wide.inRound r) n P ops Q j K (a.put oi.dst v) w) :
    wpOpIn (Fence.wide.inRound r) n P ops Q j (fun a' w' => YieldsIf P ops S oi v a' ∧ K (a'.put oi.dst v) w') a w := by
  obtain ⟨h1, h2, h3⟩ := Oper.apart_spec hap
  have keep : ∀ (a : Act), YieldsIf P ops S oi v a → ∀ u, YieldsIf P ops S oi v (a.put oj.dst u) := fun a hy u =>
    hy.of_same (execOp_put oi hsi a oj.dst u h3) (wanted_put oi a oj.dst u h3)
  have keepD : ∀ d, YieldsIf P ops S oi v { a with defers := d :: a.defers } := fun d => hy.of_same rfl rfl
  unfold wpOpIn at *
  simp only [hj] at *
  rw [wanted_put oj a oi.dst v h1, about_put oj w a oi.dst v h1] at h
  split
  · rename_i hw
    simp only [hw, if_true] at h
    unfold Oper.wpIn at *
    rw [about_put oj w a oi.dst v h1] at h
    refine ⟨h.1, ?_⟩
    have h := h.2
    rw [Oper.semAt_plain (Fence.wide.inRound r) _ _ hnd, execOp_put oj hsj a oi.dst v h1] at h
    rw [Oper.semAt_plain (Fence.wide.inRound r) _ _ hnd]
    generalize (execOp a.eval oj).run P w = r at *
    cases r with
    | ok x w' =>
      cases x <;> simp only [Oper.uponIn] at h ⊢
      case value u => exact ⟨keep a hy u, by rw [← Act.put_comm a v u h2]; exact h⟩
      case skip => exact ⟨keep a hy _, by rw [← Act.put_comm a v undef h2]; exact h⟩
      case defer d =>
        refine ⟨keep _ (keepD d) _, ?_⟩
        rw [← Act.put_comm _ v undef h2, ← Act.put_defers]
        exact h
      case enter f args =>
        refine ⟨h.1, CallsIn.mono h.2 fun e w'' he => ?_⟩
        cases e with
        | returned u => exact ⟨keep a hy u, by rw [← Act.put_comm a v u h2]; exact he⟩
        | panicked c => exact hQ _ _ _ he
        | outgrown => exact he
      case row row args => exact ⟨h.1, RowsIn.mono h.2 fun u w'' he => ⟨keep a hy u, by rw [← Act.put_comm a v u h2]; exact he⟩⟩
      case round l f tmps assign body =>
        refine ⟨h.1, RoundIn.mono h.2 fun e w'' he => ?_⟩
        cases e with
        | returned u => exact ⟨keep a hy u, by rw [← Act.put_comm a v u h2]; exact he⟩
        | panicked c => exact hQ _ _ _ he
        | outgrown => exact he
    | halt x w' =>
      cases x <;> simp only [Oper.uponIn] at h ⊢
      case panic u => exact hQ _ _ _ h
  · rename_i hw
    simp only [hw] at h
    exact ⟨h.1, keep a hy _, by rw [← Act.put_comm a v undef h2]; exact h.2⟩
def wpAnyR (r n : Nat) (P : Program) (md : Region.Mode) (ops : Array Oper) (Q : Exit → Act → World → Prop) (S : World → Prop) : Nat → Array Bool → Act → World → Prop
  | 0, listed, a, w => Region.ready md ops listed = [] ∧ Q .normal a w
  | f + 1, listed, a, w =>
    (Region.ready md ops listed = [] → Q .normal a w) ∧
    ∀ i ∈ Region.ready md ops listed, wpOpIn (Fence.wide.inRound r) n P ops Q i (fun a' w' => S w' ∧ wpAnyR r n P md ops Q S f (listed.setIfInBounds i true) a' w') a w
theorem wpAnyIn_of_R : ∀ (f : Nat) (listed : Array Bool) (a : Act) (w : World), wpAnyR r n P md ops Q S f listed a w → wpAnyIn (Fence.wide.inRound r) n P md ops Q f listed a w
  | 0, _, _, _, h => h
  | f + 1, _, _, _, h => ⟨h.1, fun i hi => wpOpIn_mono (fun a' w' h' => wpAnyIn_of_R f _ a' w' h'.2) (h.2 i hi)⟩
def noDefer (ops : Array Oper) : Bool := ops.all fun o => match o.op with
  | .defer _ => false
  | _ => true
theorem noDefer_spec {ops : Array Oper} (h : noDefer ops = true) {j : Nat} {o : Oper} (hj : ops[j]? = some o) : ∀ c, o.op ≠ .defer c := fun c e => by
  unfold noDefer at h
  rw [Array.all_eq_true_iff_forall_mem] at h
  have := h o (Array.mem_of_getElem? hj)
  rw [e] at this
  cases this
theorem wpAnyR_first {i : Nat} {oi : Oper} {v : Value} (hi : ops[i]? = some oi) (hnd : noDefer ops = true) (hsel : ∀ (j : Nat) (o : Oper) cs b, ops[j]? = some o → o.op ≠ .select cs b)
    (hQ : ∀ c a w, Q (.panic c) (a.put oi.dst v) w → Q (.panic c) a w) :
    ∀ (f : Nat) (listed : Array Bool) (a : Act) (w : World),
      (∀ j oj, ops[j]? = some oj → j ≠ i → listed.getD j true = false → (∀ e ∈ oj.after, Region.binds md e = true → e.on ≠ i) → oi.apart ops oj = true) →
      i ∈ Region.ready md ops listed → YieldsIf P ops S oi v a → S w →
      wpAnyR r n P md ops Q S f (listed.setIfInBounds i true) (a.put oi.dst v) w → wpAnyR r n P md ops Q S (f + 1) listed a w := by
  intro f
  induction f with
  | zero =>
    intro listed a w _ hr hy hS H
    refine ⟨fun h => (by rw [h] at hr; cases hr), fun j hj => ?_⟩
    by_cases hji : j = i
    · subst hji; exact yieldsIf_wpOpInR hi (noDefer_spec hnd hi) hy hS ⟨hS, H⟩
    · have := ready_mono hj hji
      rw [H.1] at this
      cases this
  | succ f ih =>
    intro listed a w hfree hr hy hS H
    refine ⟨fun h => (by rw [h] at hr; cases hr), fun j hj => ?_⟩
    by_cases hji : j = i
    · subst hji; exact yieldsIf_wpOpInR hi (noDefer_spec hnd hi) hy hS ⟨hS, H⟩
    · have h1 := H.2 j (ready_mono hj hji)
      obtain ⟨hjun, oj, hoj, hall⟩ := mem_ready.1 hj
      have hnot : ∀ e ∈ oj.after, Region.binds md e = true → e.on ≠ i := fun e he hb heq => by
        have h1 := hall e he hb
        have h0 := (mem_ready.1 hr).1
        rw [heq] at h1
        rcases Nat.lt_or_ge i listed.size with h' | h'
        · simp [h'] at h0 h1; rw [h0] at h1; cases h1
        · simp [Array.getElem?_eq_none h'] at h1
      have h2 := wpOpIn_putIfR hoj (noDefer_spec hnd hoj) (hfree j oj hoj hji hjun hnot) (fun cs b => hsel i oi cs b hi) (fun cs b => hsel j oj cs b hoj) hQ hy h1
      have hfree' : ∀ k ok, ops[k]? = some ok → k ≠ i → (listed.setIfInBounds j true).getD k true = false →
          (∀ e ∈ ok.after, Region.binds md e = true → e.on ≠ i) → oi.apart ops ok = true := fun k ok hk hki hun hno => by
        refine hfree k ok hk hki ?_ hno
        by_cases hjk : j = k
        · subst hjk; exact hjun
        · rw [getD_set_ne true hjk] at hun; exact hun
      refine wpOpIn_mono (fun a' w' h3 => ⟨h3.2.1, ih (listed.setIfInBounds j true) a' w' hfree' (ready_mono hr (Ne.symm hji)) h3.1 h3.2.1 ?_⟩) h2
      rw [Array.setIfInBounds_comm _ _ hji]
      exact h3.2.2
theorem wpAnyR_take {i : Nat} {oi : Oper} {v : Value} {f : Nat} {listed : Array Bool} {a : Act} {w : World} (hi : ops[i]? = some oi) (hnd : noDefer ops = true)
    (hs : Region.noSelect ops = true) (hf : Region.free md ops listed i = true) (hr : (Region.ready md ops listed).contains i = true)
    (hQ : ∀ c a w, Q (.panic c) (a.put oi.dst v) w → Q (.panic c) a w) (hy : YieldsIf P ops S oi v a) (hS : S w)
    (h : wpAnyR r n P md ops Q S f (listed.setIfInBounds i true) (a.put oi.dst v) w) : wpAnyR r n P md ops Q S (f + 1) listed a w :=
  wpAnyR_first hi hnd (Region.noSelect_spec hs) hQ f listed a w (Region.free_spec hi hf) (by simpa using hr) hy hS h
/-- One operation alone may come up: a call of a Go function, as its contract tells. -/
theorem wpAnyR_call {i : Nat} {o : Oper} {fn : FuncId} {args : Array Value} {f : Nat} {listed : Array Bool} {a : Act} {w : World} (hr : Region.ready md ops listed = [i]) (hi : ops[i]? = some o) (hnd : ∀ c, o.op ≠ .defer c) (hw : Region.wanted o (yielded ops a.tmps) = true)
    (he : (execOp a.eval o).run P w = .ok (.enter fn args) w) {R : Ending → World → Prop} (hc : Calls P fn args w R)
    (h : ∀ e w', R e w' → ∃ v, e = .returned v ∧ S w' ∧ wpAnyR r n P md ops Q S f (listed.setIfInBounds i true) (a.put o.dst v) w') : wpAnyR r n P md ops Q S (f + 1) listed a w := by
  refine ⟨fun h0 => (by rw [hr] at h0; cases h0), fun j hj => ?_⟩
  rw [hr] at hj
  obtain rfl := List.mem_singleton.1 hj
  unfold wpOpIn
  simp only [hi, hw, if_true, Oper.wpIn, Oper.semAt_plain (Fence.wide.inRound r) _ _ hnd, he, Oper.uponIn]
  refine ⟨fun _ _ => trivial, fun h0 => (by cases h0), (callsIn_wide.2 hc).mono fun e w' hR => ?_⟩
  obtain ⟨v, rfl, hS, hA⟩ := h e w' hR
  exact ⟨hS, hA⟩
theorem wpAnyR_done {listed : Array Bool} {a : Act} {w : World} (hr : Region.ready md ops listed = []) (h : Q .normal a w) : ∀ f, wpAnyR r n P md ops Q S f listed a w
  | 0 => ⟨hr, h⟩
  | _ + 1 => ⟨fun _ => h, by rw [hr]; simp⟩
theorem wpIn_region_R {id : Nat} {a : Act} {w : World} (S : World → Prop) (hm : P.follows .mixedOrders = true)
    (h : wpAnyR r n P .any ops Q S ops.size (Array.replicate ops.size false) a w.drew) : (Code.region id ops true).wpIn (Fence.wide.inRound r) n P Q a w :=
  wpIn_region_any hm (wpAnyIn_of_R _ _ _ _ h)
end
end Go.Proofs.YtminfmjgmmkaoaaGreatDoor
