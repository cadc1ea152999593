/-
  A log's Do.
  A log's last event out of its memory; whether the program computes at all.
  Names, in plain data: which are old, which are new.
  Try and Do at a log that has just been made; the law of names where the world may not be, where the message may not be done.
  The law of names where the message may not be done.
  The law of names where the message is done.
-/
import Derived.Test.YtminfmjgmmkaoaaGreatDoorGO
namespace Go.Proofs.YtminfmjgmmkaoaaGreatDoor
open Go.ChangeShapes Go.WideShapes Go.ChangeAt Go.Shelf Go.RowKit Go.Lib Go.Sort Go.Deep
set_option linter.unusedVariables false
set_option maxRecDepth 4000
set_option linter.unusedSimpArgs false

theorem run_storeMid {P : Program} {w : World} {g o : Nat} {cur : Array Value} {T ty : TypeId} (cs : List Value) (hg : w.heap[g]? = some (.cells cur T (0, 0))) (hfit : o + cs.length ≤ cur.size) (h1 : ∀ u ∈ cs, u.oneCell' = true) (hi : (P.info? ty).map (·.size) = some cs.length) :
    (storeVar ty ⟨g, o, none⟩ (.agg cs.toArray)).run P w = .ok () (w.setRow g (cur.toList.take o ++ cs ++ cur.toList.drop (o + cs.length)).toArray) := by
  have hst := run_storeCells_at P g o T cs 0 cur w hg (by omega) h1
  simp only [Nat.add_zero] at hst
  cases hq : P.info? ty with
  | none => simp [hq] at hi
  | some i =>
    have hs : cs.length = i.size := by simp [hq] at hi; omega
    simp [storeVar, sizeOf, typeInfo, hq, Value.cells, hs, hst]
section
variable {P : Program} {ops : Array Oper} {E : Prop} {o : Oper} {a : Act} {w : World} {K : Act → World → Prop} {Q : Exit → Act → World → Prop}
theorem wp_store_midrow (ty : TypeId) (x y : Operand) (ho : o.op = .store ty x y) (g p : Nat) (cs : List Value) (hx : a.eval x = .pointer (some ⟨g, p, none⟩)) (hy : a.eval y = .agg cs.toArray)
    {cur : Array Value} {T : TypeId} (hg : w.heap[g]? = some (.cells cur T (0, 0))) (hfit : p + cs.length ≤ cur.size) (h1 : ∀ u ∈ cs, u.oneCell' = true) (hi : (P.info? ty).map (·.size) = some cs.length)
    (h : K (a.put o.dst undef) (w.setRow g (cur.toList.take p ++ cs ++ cur.toList.drop (p + cs.length)).toArray)) : Oper.wp P o a w K Q := by
  unfold Oper.wp execOp
  simp only [ho, hx, hy, Instr.storeAt, Instr.sureAddr, Sem.run_bind, Sem.run_pure, Result.andThen_ok, run_storeMid cs hg hfit h1 hi]
  exact h
theorem step_store_midrow (hgd : o.guard = none) (ty : TypeId) (x y : Operand) (ho : o.op = .store ty x y) (g p : Nat) (cs : List Value) (hx : a.eval x = .pointer (some ⟨g, p, none⟩)) (hy : a.eval y = .agg cs.toArray)
    {cur : Array Value} {T : TypeId} (hg : w.heap[g]? = some (.cells cur T (0, 0))) (hfit : p + cs.length ≤ cur.size) (h1 : ∀ u ∈ cs, u.oneCell' = true) (hi : (P.info? ty).map (·.size) = some cs.length)
    (h : K (a.put o.dst undef) (w.setRow g (cur.toList.take p ++ cs ++ cur.toList.drop (p + cs.length)).toArray)) : if Region.wanted o (yielded ops a.tmps) = true then Oper.wp P o a w K Q else E := by
  have hw : Region.wanted o (yielded ops a.tmps) = true := by simp [Region.wanted, hgd]
  rw [if_pos hw]
  exact wp_store_midrow ty x y ho g p cs hx hy hg hfit h1 hi h
end
section
variable {w w' : World} {lb : Nat} {v : Wv} {W : Wd} {every len : Int} {sv : Value} {ss : List Sth} {st : Sta} {stuck : Bool}
theorem encSt_ones (s : Sta) : ∀ u ∈ encSt s, u.oneCell' = true := by
  intro u hu
  simp only [encSt, List.mem_cons, List.not_mem_nil, or_false] at hu
  rcases hu with rfl | rfl | rfl | rfl | rfl | rfl | rfl | rfl | rfl | rfl <;> rfl
theorem LogX.setState (h : LogX w lb v W every sv ss len st stuck) (st' : Sta) : LogX (w.setRow lb ((logC v W every sv len st stuck).toList.take 7 ++ encSt st' ++ (logC v W every sv len st stuck).toList.drop (7 + (encSt st').length)).toArray) lb v W every sv ss len st' stuck :=
  ⟨setRow_heap h.row, h.rd.keptLb h.row (KeptOff.row _ _ _), h.apart⟩
/-- Where a block of another type is written. -/
theorem LogX.keptE (h : LogX w lb v W every sv ss len st stuck) {b : Nat} {cs : Array Value} {e : TypeId} (hk : KeptOff (fun k => k = b) w w') (hb : w.heap[b]? = some (.cells cs e (0, 0))) (hne : e ≠ 62 ∧ e ≠ 65 ∧ e ≠ 68 ∧ e ≠ 101 ∧ e ≠ 42 ∧ e ≠ 71) : LogX w' lb v W every sv ss len st stuck := by
  have ht : TagV w e (.slice (some ⟨b, 0, none⟩) 0 0) := fun k hk => by simp [Value.ownBlock] at hk; subst hk; exact ⟨_, hb⟩
  have n : ∀ {v' : Value} {e' : TypeId}, TagV w e' v' → e ≠ e' → ∀ k, v'.ownBlock = some k → ¬ k = b := fun h' hn k e1 e2 => ht.ne h' hn k (e2 ▸ rfl) e1
  refine ⟨(hk.block lb h.lt (n (logt h.row) hne.2.2.2.2.2 lb (own_lb lb))).trans h.row, h.rd.kept hk (n h.rd.wtag.1 hne.1) (n h.rd.wtag.2 hne.2.1) (n h.rd.svt hne.2.2.1) (fun s hs => n (h.rd.stt hs) hne.2.2.2.1) (fun s hs p hp => n (h.rd.sents s hs p hp).2 hne.2.2.2.2.1), h.apart⟩
theorem LogX.own_lt (h : LogX w lb v W every sv ss len st stuck) : ∀ k, LOwn lb sv ss k → k < w.heap.size := by
  rintro k (rfl | e | ⟨s, hs, e⟩)
  · exact h.lt
  · exact h.rd.svt.lt k e
  · exact (h.rd.stt hs).lt k e
end
set_option maxHeartbeats 8000000 in
theorem lgDo_no {w : World} {lb : Nat} {m : M} {uv kv : Value} {e : Int} (he : e ≠ 0)
    (hn : ∀ w', Below w.heap.size w w' → Calls Tryz.prog 30 #[.pointer (some ⟨lb, 0, none⟩), m.val, uv, kv] w' fun x w2 => ∃ EA SA, x = .returned (.tuple #[.agg EA, .agg SA, .int .i64 e]) ∧ Hid (EA.size = 19 ∧ SA.size = 10 ∧ EA.all (·.oneCell') = true ∧ SA.all (·.oneCell') = true ∧ Below w'.heap.size w' w2)) :
    Calls Tryz.prog 11 #[.pointer (some ⟨lb, 0, none⟩), m.val, uv, kv] w fun x w' => x = .returned (.tuple #[.agg z19, .int .i64 e]) ∧ Below w.heap.size w w' := by
  have hn' := fun (o1 o2 : Obj) => hn _ (((Below.refl _ w).alloc (Nat.le_refl _) o1).alloc (by simp) o2)
  have hb0 : Hid (Below w.heap.size w ((w.alloc (.cells (encMs m).toArray 42)).alloc (.cells z19 44))) := Lib.hid (((Below.refl _ w).alloc (Nat.le_refl _) _).alloc (by simp) _)
  have hR0 : Hid (((w.alloc (.cells (encMs m).toArray 42)).alloc (.cells z19 44)).heap[w.heap.size + 1]? = some (.cells z19 44 (0, 0))) := Lib.hid (by have := heap_alloc_new (w.alloc (.cells (encMs m).toArray 42)) (.cells z19 44); rwa [World.size_alloc] at this)
  have hL : Hid (∀ o, ((w.alloc (.cells (encMs m).toArray 42)).alloc o).rangeAt w.heap.size 0 (encMs m)) := Lib.hid (fun o => by
    have := range_block (((Below.refl _ (w.alloc (.cells (encMs m).toArray 42))).alloc (Nat.le_refl _) o).block w.heap.size (by simp) |>.trans (heap_alloc_new w (.cells (encMs m).toArray 42)))
    simpa using this)
  simp only [M.val_eq] at hn' ⊢
  have hlm : (encMs m).length = 7 := rfl
  have he' : (e != 0) = true := by simpa using he
  generalize encMs m = cm at *
  clear hn
  go_enter Tryz.func11, Tryz.ntmps11
  go_wp2_with (first
    | (refine wpList_load_mid rfl 42 (.tmp 5) rfl w.heap.size 0 rfl cm _ (hL.out _) Tryz.underlying42 rfl (by rw [hlm]; exact infoMe) ?_)
    | fail)
  refine (hn' _ _).mono ?_
  rintro x w2 ⟨EA, SA, rfl, hq⟩
  have hB2 := Lib.hid (hb0.out.trans (hq.out.2.2.2.2.mono hb0.out.size))
  have hR2 := Lib.hid ((hq.out.2.2.2.2.block _ (Array.getElem?_eq_some_iff.1 hR0.out).1).trans hR0.out)
  have hEs := hq.out.1
  have hSs := hq.out.2.1
  have hE1 := Lib.hid hq.out.2.2.1
  have hS1 := Lib.hid hq.out.2.2.2.1
  have hEi : Hid ((Tryz.prog.info? 44).map (·.size) = some EA.size) := Lib.hid (by rw [hEs]; exact infoEn)
  have hSi : Hid ((Tryz.prog.info? 34).map (·.size) = some SA.size) := Lib.hid (by rw [hSs]; exact infoS10)
  have hA : Hid (((w2.alloc (.cells z19 44)).alloc (.cells z10 34)).heap[w2.heap.size]? = some (.cells z19 44 (0, 0))) := Lib.hid ((((Below.refl _ (w2.alloc (.cells z19 44))).alloc (Nat.le_refl _) _).block w2.heap.size (by simp)).trans (heap_alloc_new w2 _))
  have hB : Hid (((w2.alloc (.cells z19 44)).alloc (.cells z10 34)).heap[w2.heap.size + 1]? = some (.cells z10 34 (0, 0))) := Lib.hid (by have := heap_alloc_new (w2.alloc (.cells z19 44)) (.cells z10 34); rwa [World.size_alloc] at this)
  have hC : Hid (Below w2.heap.size w2 ((w2.alloc (.cells z19 44)).alloc (.cells z10 34))) := Lib.hid (((Below.refl _ w2).alloc (Nat.le_refl _) _).alloc (by simp) _)
  clear hq hn' hR0 hL
  have hB' := Lib.hid ((setRow_other ((w2.alloc (.cells z19 44)).alloc (.cells z10 34)) w2.heap.size (w2.heap.size + 1) EA (by omega)).trans hB.out)
  have hz19 : z19.size = EA.size := hEs.symm
  have hz10 : z10.size = SA.size := hSs.symm
  go_upto_region 2 with (first
    | (refine wpList_store_row rfl 44 (.tmp 10) (.tmp 19) rfl w2.heap.size EA rfl rfl 44 z19 hA.out hEi.out hz19 hE1.out ?_)
    | (refine wpList_store_row rfl 34 (.tmp 11) (.tmp 20) rfl (w2.heap.size + 1) SA rfl rfl 34 z10 hB'.out hSi.out hz10 hS1.out ?_))
  have hA2 := (setRow_other (((w2.alloc (.cells z19 44)).alloc (.cells z10 34)).setRow w2.heap.size EA) (w2.heap.size + 1) w2.heap.size SA (by omega)).trans (setRow_heap (new := EA) hA.out)
  have hC2 := Lib.hid (below_row (below_row hC.out (g := w2.heap.size) (Nat.le_refl _) EA) (g := w2.heap.size + 1) (by omega) SA)
  have hl : w.heap.size + 1 < w2.heap.size := (Array.getElem?_eq_some_iff.1 hR2.out).1
  have hR3 := Lib.hid ((hC2.out.block _ hl).trans hR2.out)
  have hA3 := Lib.hid hA2
  simp only [z19, z10] at hA3 hC2 hR3
  clear hA2 hA hB hB' hC
  generalize (((w2.alloc (Obj.cells _ 44)).alloc (Obj.cells _ 34)).setRow w2.heap.size EA).setRow (w2.heap.size + 1) SA = W3 at *
  have hBf := Lib.hid ((hB2.out.trans (hC2.out.mono hB2.out.size)))
  go_wp2_with (first
    | (refine wpList_store_row rfl 44 (.tmp 8) (.tmp 24) rfl (w.heap.size + 1) z19 rfl rfl 44 z19 hR3.out infoEn rfl z19_one ?_))
  have hR4 := Lib.hid (setRow_heap (new := z19) hR3.out)
  have hfin := Lib.hid (below_row (g := w.heap.size + 1) hBf.out (by omega) z19)
  generalize W3.setRow (w.heap.size + 1) z19 = W4 at *
  exact bodyPost_ret (results_row_tmp (fn := Tryz.f11) rfl _ W4 _ 44 z19 _ rfl hR4.out Tryz.underlying44 rfl infoEn) rfl ⟨rfl, hfin.out⟩
theorem entC_one (m : M) (s : Sta) (f : Int) (a : Option Addr) (n c : Nat) : (entC m s f (.slice a n c)).toArray.all (·.oneCell') = true := by simp [entC, encMs, encSt, Value.oneCell']
/-- What Do leaves. -/
def DoQ (w : World) (lb : Nat) (v : Wv) (W : Wd) (every : Int) (sv : Value) (pre : List Sth) (s : Sth) (len : Int) (st : Sta) (m : M) (st2 : Sta) (fl : Int) (sent : List M) (sa : Option Addr) (n sc : Nat) (w' : World) : Prop :=
  Mgs w' sa n sc sent ∧ (∀ k, (Value.slice sa n sc).ownBlock = some k → w.heap.size ≤ k) ∧
  ∃ sv' v1 p, p = (⟨m, fl, p.sv, sent⟩ : Stp) ∧ LogX w' lb v W every sv' (putSs every pre s st v1 p) (len + 1) st2 (fl != 0) ∧ KeptOff (LOwn lb sv (pre ++ [s])) w w' ∧ (∀ k, LOwn lb sv' (putSs every pre s st v1 p) k → LOwn lb sv (pre ++ [s]) k ∨ w.heap.size ≤ k) ∧ (∀ k, p.sv.ownBlock = some k → w.heap.size ≤ k)
set_option maxHeartbeats 16000000 in
theorem lgDo_ok {w : World} {lb : Nat} {v : Wv} {W : Wd} {every len uid : Int} {sv : Value} {pre : List Sth} {s : Sth} {st st2 : Sta} {stuck : Bool} {m : M} {uv kv : Value} {fl : Int} {os : List Ot} {kept : List M}
    (hX : LogX w lb v W every sv (pre ++ [s]) len st stuck) (hp : pre.length < 16384) (hL0 : s.L.length < 16384) (hlen : 0 ≤ len ∧ len < 16384) (hos : os.length ≤ 16384)
    (hn : ∀ w', Below w.heap.size w w' → Calls Tryz.prog 30 #[.pointer (some ⟨lb, 0, none⟩), m.val, uv, kv] w' (NextR w' st m uid kept (st2, os, fl) W)) :
    Calls Tryz.prog 11 #[.pointer (some ⟨lb, 0, none⟩), m.val, uv, kv] w fun x w' => ∃ sa sc, x = .returned (.tuple #[.agg (entC m st fl (.slice sa os.length sc)).toArray, .int .i64 0]) ∧ Hid (DoQ w lb v W every sv pre s len st m st2 fl (nameL kept (mgs W st.s m.k.t uid os os.length) uid) sa os.length sc w') := by
  have hXh := Lib.hid hX
  have hown0 := Lib.hid hX.own_lt
  clear hX
  have hn' := fun (o1 o2 : Obj) => hn _ (((Below.refl _ w).alloc (Nat.le_refl _) o1).alloc (by simp) o2)
  have hb0 : Hid (Below w.heap.size w ((w.alloc (.cells (encMs m).toArray 42)).alloc (.cells z19 44))) := Lib.hid (((Below.refl _ w).alloc (Nat.le_refl _) _).alloc (by simp) _)
  have hR0 : Hid (((w.alloc (.cells (encMs m).toArray 42)).alloc (.cells z19 44)).heap[w.heap.size + 1]? = some (.cells z19 44 (0, 0))) := Lib.hid (by have := heap_alloc_new (w.alloc (.cells (encMs m).toArray 42)) (.cells z19 44); rwa [World.size_alloc] at this)
  have hL : Hid (∀ o, ((w.alloc (.cells (encMs m).toArray 42)).alloc o).rangeAt w.heap.size 0 (encMs m)) := Lib.hid (fun o => by
    have := range_block (((Below.refl _ (w.alloc (.cells (encMs m).toArray 42))).alloc (Nat.le_refl _) o).block w.heap.size (by simp) |>.trans (heap_alloc_new w (.cells (encMs m).toArray 42)))
    simpa using this)
  simp only [M.val_eq] at hn' ⊢
  have hlm : (encMs m).length = 7 := rfl
  generalize hcmE : encMs m = cm at *
  clear hn
  go_enter Tryz.func11, Tryz.ntmps11
  go_wp2_with (first
    | (refine wpList_load_mid rfl 42 (.tmp 5) rfl w.heap.size 0 rfl cm _ (hL.out _) Tryz.underlying42 rfl (by rw [hlm]; exact infoMe) ?_)
    | fail)
  refine (hn' _ _).mono ?_
  rintro x w2 ⟨sa, sc, rfl, hq0⟩
  have hq : Hid ((entC m st fl (.slice sa os.length sc)).toArray.size = 19 ∧ (encSt st2).toArray.size = 10 ∧ (entC m st fl (.slice sa os.length sc)).toArray.all (·.oneCell') = true ∧ (encSt st2).toArray.all (·.oneCell') = true ∧ RowKit.Below _ _ w2) := Lib.hid ⟨rfl, rfl, entC_one _ _ _ _ _ _, encSt_one st2, hq0.out.2.1⟩
  have hEv : ∃ EA, (entC m st fl (.slice sa os.length sc)).toArray = EA := ⟨_, rfl⟩
  obtain ⟨EA, hEA⟩ := hEv
  have hSv : ∃ SA, (encSt st2).toArray = SA := ⟨_, rfl⟩
  obtain ⟨SA, hSA⟩ := hSv
  rw [hEA, hSA] at hq ⊢
  have hM2 := Lib.hid hq0.out.1
  have hfr2 := Lib.hid hq0.out.2.2
  have hB2 := Lib.hid (hb0.out.trans (hq.out.2.2.2.2.mono hb0.out.size))
  have hR2 := Lib.hid ((hq.out.2.2.2.2.block _ (Array.getElem?_eq_some_iff.1 hR0.out).1).trans hR0.out)
  have hEs := hq.out.1
  have hSs := hq.out.2.1
  have hE1 := Lib.hid hq.out.2.2.1
  have hS1 := Lib.hid hq.out.2.2.2.1
  have hEi : Hid ((Tryz.prog.info? 44).map (·.size) = some EA.size) := Lib.hid (by rw [hEs]; exact infoEn)
  have hSi : Hid ((Tryz.prog.info? 34).map (·.size) = some SA.size) := Lib.hid (by rw [hSs]; exact infoS10)
  have hA : Hid (((w2.alloc (.cells z19 44)).alloc (.cells z10 34)).heap[w2.heap.size]? = some (.cells z19 44 (0, 0))) := Lib.hid ((((Below.refl _ (w2.alloc (.cells z19 44))).alloc (Nat.le_refl _) _).block w2.heap.size (by simp)).trans (heap_alloc_new w2 _))
  have hB : Hid (((w2.alloc (.cells z19 44)).alloc (.cells z10 34)).heap[w2.heap.size + 1]? = some (.cells z10 34 (0, 0))) := Lib.hid (by have := heap_alloc_new (w2.alloc (.cells z19 44)) (.cells z10 34); rwa [World.size_alloc] at this)
  have hC : Hid (Below w2.heap.size w2 ((w2.alloc (.cells z19 44)).alloc (.cells z10 34))) := Lib.hid (((Below.refl _ w2).alloc (Nat.le_refl _) _).alloc (by simp) _)
  clear hq hq0 hn' hR0 hL
  have hB' := Lib.hid ((setRow_other ((w2.alloc (.cells z19 44)).alloc (.cells z10 34)) w2.heap.size (w2.heap.size + 1) EA (by omega)).trans hB.out)
  have hz19 : z19.size = EA.size := hEs.symm
  have hz10 : z10.size = SA.size := hSs.symm
  go_upto_region 2 with (first
    | (refine wpList_store_row rfl 44 (.tmp 10) (.tmp 19) rfl w2.heap.size EA rfl rfl 44 z19 hA.out hEi.out hz19 hE1.out ?_)
    | (refine wpList_store_row rfl 34 (.tmp 11) (.tmp 20) rfl (w2.heap.size + 1) SA rfl rfl 34 z10 hB'.out hSi.out hz10 hS1.out ?_))
  have hA2 := (setRow_other (((w2.alloc (.cells z19 44)).alloc (.cells z10 34)).setRow w2.heap.size EA) (w2.heap.size + 1) w2.heap.size SA (by omega)).trans (setRow_heap (new := EA) hA.out)
  have hC2 := Lib.hid (below_row (below_row hC.out (g := w2.heap.size) (Nat.le_refl _) EA) (g := w2.heap.size + 1) (by omega) SA)
  have hl : w.heap.size + 1 < w2.heap.size := (Array.getElem?_eq_some_iff.1 hR2.out).1
  have hR3 := Lib.hid ((hC2.out.block _ hl).trans hR2.out)
  have hA3 := Lib.hid hA2
  have hS2b := Lib.hid (setRow_heap (new := SA) hB'.out)
  simp only [z19, z10] at hA3 hC2 hR3 hS2b
  clear hA2 hA hB hB' hC
  generalize (((w2.alloc (Obj.cells _ 44)).alloc (Obj.cells _ 34)).setRow w2.heap.size EA).setRow (w2.heap.size + 1) SA = W3 at *
  have hBf := Lib.hid ((hB2.out.trans (hC2.out.mono hB2.out.size)))
  have hBf := Lib.hid ((hB2.out.trans (hC2.out.mono hB2.out.size)))
  have hX3 := Lib.hid (hXh.out.below hBf.out)
  have hM3 := Lib.hid (hM2.out.below hC2.out)
  have hSo : ∀ k, (Value.slice sa os.length sc).ownBlock = some k → ¬ LOwn lb sv (pre ++ [s]) k := fun k e e2 => by
    have h1 := hfr2.out k e
    have h2 := hown0.out k e2
    simp at h1
    omega
  have hfr2' : Hid (∀ k, (Value.slice sa os.length sc).ownBlock = some k → w.heap.size + 2 ≤ k) := Lib.hid (fun k e => by have h1 := hfr2.out k e; simp at h1; omega)
  have hput := lgPut_any (bf := st) (m := m) (fl := fl) hX3.out hp hL0 hlen hM3.out hos hSo
  rw [hEA] at hput
  have hrg : W3.rangeAt w2.heap.size 0 EA.toList := range_block hA3.out
  have hEl : EA.toList.length = 19 := by rw [Array.length_toList]; exact hEs
  have hEt : EA.toList.toArray = EA := by simp
  have hl2 : w2.heap.size < W3.heap.size := (Array.getElem?_eq_some_iff.1 hA3.out).1
  clear hM2 hB2 hR2 hC2 hSo hfr2
  go_wp2_with (first
    | (refine wpList_load_mid rfl 44 (.tmp 10) rfl w2.heap.size 0 rfl EA.toList _ hrg Tryz.underlying44 rfl (by rw [hEl]; exact infoEn) ?_; rw [hEt])
    | fail)
  refine hput.mono ?_
  rintro x w6 ⟨rfl, hq6⟩
  obtain ⟨sv', v1, p, hpe, hX6, hk6, ho6, hfp⟩ := hq6.out
  have hl3 : w.heap.size + 1 < W3.heap.size := (Array.getElem?_eq_some_iff.1 hR3.out).1
  have hE6 := Lib.hid ((hk6.block w2.heap.size hl2 (fun e => by have := hown0.out _ e; omega)).trans hA3.out)
  have hS6 := Lib.hid ((hk6.block (w2.heap.size + 1) (Array.getElem?_eq_some_iff.1 hS2b.out).1 (fun e => by have := hown0.out _ e; omega)).trans hS2b.out)
  have hR6 := Lib.hid ((hk6.block (w.heap.size + 1) hl3 (fun e => by have := hown0.out _ e; omega)).trans hR3.out)
  have hlb0 : lb < w.heap.size := hXh.out.lt
  have hX6' := Lib.hid hX6
  have hk6' := Lib.hid hk6
  have ho6' := Lib.hid ho6
  have hpe' := Lib.hid hpe
  have hfp' := Lib.hid hfp
  have hM6 := Lib.hid (hM3.out.keptOff hk6 (fun k e e2 => by have h1 := hfr2'.out k e; have h2 := hown0.out k e2; omega))
  have hst5 : Hid (∀ w', KeptOff (fun k => k = lb) w6 w' → w'.rangeAt (w2.heap.size + 1) 0 (encSt st2) ∧ w'.cell? ⟨w2.heap.size, 17, none⟩ = some (.int .i64 fl)) := Lib.hid (fun w' h => by
    have h1 := (h.block _ (Array.getElem?_eq_some_iff.1 hS6.out).1 (by omega)).trans hS6.out
    have h2 := (h.block _ (Array.getElem?_eq_some_iff.1 hE6.out).1 (by omega)).trans hE6.out
    rw [← hSA] at h1
    rw [← hEA] at h2
    exact ⟨range_block h1, (entC_range h2).2.2.1⟩)
  have hlst : (encSt st2).length = 10 := rfl
  clear hput hrg hX3 hM3 hA3 hS2b hR3 hq6 hX6 hk6 ho6 hpe hfp
  go_upto_region 5 with fail
  have hHd : KeptOff (fun k => k = lb) w6 w6.drew := ⟨rfl, rfl, rfl, Nat.le_refl _, fun _ _ _ => rfl⟩
  refine wp_region_held_drew (S := fun w' => KeptOff (fun k => k = lb) w6 w') (by kernel_rfl) hHd (fun hHeld => ?_)
  clear hHeld
  refine wpAnyH_take (i := 0) (oi := { dst := some 29, op := Op.move (Operand.tmp 0), type := 28, pos := "log.go:111", after := #[], guard := none }) (v := ?vv0_1) rfl (by kernel_rfl) (by kernel_rfl) (by kernel_rfl) (fun _ _ _ h => h) (Or.inl ⟨by rfl, ?hy0_1⟩) hHd ?rest0_1
  case hy0_1 =>
    intro w hSw
    go_simp
    try with_reducible rfl
  try simp only [Act.put, List.setIfInBounds_toArray, List.set_cons_zero, List.set_cons_succ]
  refine wpAnyH_take (i := 1) (oi := { dst := some 30, op := Op.move (Operand.tmp 0), type := 28, pos := "log.go:111", after := #[{ on := 8, ground := Ground.gcOnly Departure.lateStores }], guard := none }) (v := ?vv1_2) rfl (by kernel_rfl) (by kernel_rfl) (by kernel_rfl) (fun _ _ _ h => h) (Or.inl ⟨by rfl, ?hy1_2⟩) hHd ?rest1_2
  case hy1_2 =>
    intro w hSw
    go_simp
    try with_reducible rfl
  try simp only [Act.put, List.setIfInBounds_toArray, List.set_cons_zero, List.set_cons_succ]
  refine wpAnyH_take (i := 2) (oi := { dst := some 31, op := Op.load 34 (Operand.tmp 11), type := 34, pos := "log.go:111", after := #[], guard := none }) (v := .agg (encSt st2).toArray) rfl (by kernel_rfl) (by kernel_rfl) (by kernel_rfl) (fun _ _ _ h => h) (yieldsIf_load_mid (by rfl) 34 (.tmp 11) (by rfl) (w2.heap.size + 1) 0 (by rfl) (encSt st2) _ (fun w' h => (hst5.out w' h).1) Tryz.underlying34 rfl (by rw [hlst]; exact infoS10)) hHd ?_
  try simp only [Act.put, List.setIfInBounds_toArray, List.set_cons_zero, List.set_cons_succ]
  refine wpAnyH_take (i := 3) (oi := { dst := some 32, op := Op.fieldAddr 44 (Operand.tmp 10) 2, type := 0, pos := "log.go:111", after := #[], guard := none }) (v := ?vv3_3) rfl (by kernel_rfl) (by kernel_rfl) (by kernel_rfl) (fun _ _ _ h => h) (Or.inl ⟨by rfl, ?hy3_3⟩) hHd ?rest3_3
  case hy3_3 =>
    intro w hSw
    go_simp
    try with_reducible rfl
  try simp only [Act.put, List.setIfInBounds_toArray, List.set_cons_zero, List.set_cons_succ]
  refine wpAnyH_take (i := 4) (oi := { dst := some 33, op := Op.load 29 (Operand.tmp 32), type := 29, pos := "log.go:111", after := #[{ on := 3, ground := Ground.data }], guard := none }) (v := ?vv4_4) rfl (by kernel_rfl) (by kernel_rfl) (by kernel_rfl) (fun _ _ _ h => h) (Or.inl ⟨by rfl, ?hy4_4⟩) hHd ?rest4_4
  case hy4_4 =>
    intro w hSw
    have c := (hst5.out w hSw).2
    go_simp
    try with_reducible rfl
  try simp only [Act.put, List.setIfInBounds_toArray, List.set_cons_zero, List.set_cons_succ]
  refine wpAnyH_take (i := 5) (oi := { dst := some 34, op := Op.binOp BinOp.neq 29 (Operand.tmp 33) (Operand.const (Value.int IntKind.i64 0)) 29, type := 4, pos := "log.go:111", after := #[{ on := 4, ground := Ground.data }], guard := none }) (v := ?vv5_5) rfl (by kernel_rfl) (by kernel_rfl) (by kernel_rfl) (fun _ _ _ h => h) (Or.inl ⟨by rfl, ?hy5_5⟩) hHd ?rest5_5
  case hy5_5 =>
    intro w hSw
    go_simp
    try with_reducible rfl
  try simp only [Act.put, List.setIfInBounds_toArray, List.set_cons_zero, List.set_cons_succ]
  refine wpAnyH_take (i := 6) (oi := { dst := some 35, op := Op.nilCheck (Operand.tmp 29), type := 0, pos := "log.go:111", after := #[{ on := 0, ground := Ground.data }, { on := 0, ground := Ground.phase }, { on := 1, ground := Ground.textOnly Departure.lateStores }, { on := 2, ground := Ground.phase }, { on := 3, ground := Ground.textOnly Departure.lateStores }, { on := 4, ground := Ground.textOnly Departure.lateStores }, { on := 5, ground := Ground.textOnly Departure.lateStoresUnsure }], guard := none }) (v := ?vv6_6) rfl (by kernel_rfl) (by kernel_rfl) (by kernel_rfl) (fun _ _ _ h => h) (Or.inl ⟨by rfl, ?hy6_6⟩) hHd ?rest6_6
  case hy6_6 =>
    intro w hSw
    go_simp
    try with_reducible rfl
  try simp only [Act.put, List.setIfInBounds_toArray, List.set_cons_zero, List.set_cons_succ]
  refine wpAnyH_take (i := 7) (oi := { dst := some 36, op := Op.fieldAddr 71 (Operand.tmp 35) 4, type := 0, pos := "log.go:111", after := #[{ on := 6, ground := Ground.data }, { on := 0, ground := Ground.phase }, { on := 1, ground := Ground.textOnly Departure.lateStores }, { on := 2, ground := Ground.phase }, { on := 3, ground := Ground.textOnly Departure.lateStores }, { on := 4, ground := Ground.textOnly Departure.lateStores }, { on := 5, ground := Ground.textOnly Departure.lateStoresUnsure }], guard := none }) (v := ?vv7_7) rfl (by kernel_rfl) (by kernel_rfl) (by kernel_rfl) (fun _ _ _ h => h) (Or.inl ⟨by rfl, ?hy7_7⟩) hHd ?rest7_7
  case hy7_7 =>
    intro w hSw
    go_simp
    try with_reducible rfl
  try simp only [Act.put, List.setIfInBounds_toArray, List.set_cons_zero, List.set_cons_succ]
  have hXd : LogX w6.drew lb v W every sv' (putSs every pre s st v1 p) (len + 1) st stuck := hX6'.out.below ((Below.refl _ w6).drew)
  refine wpAnyH_ready (rs := [8]) (by kernel_rfl) (by simp) ?_
  refine AllReadyH.cons (o := { dst := none, op := Op.store 34 (Operand.tmp 36) (Operand.tmp 31), type := 0, pos := "log.go:111", after := #[{ on := 7, ground := Ground.data }, { on := 2, ground := Ground.data }, { on := 0, ground := Ground.phase }, { on := 1, ground := Ground.textOnly Departure.lateStores }, { on := 2, ground := Ground.phase }, { on := 3, ground := Ground.textOnly Departure.lateStores }, { on := 4, ground := Ground.textOnly Departure.lateStores }, { on := 5, ground := Ground.textOnly Departure.lateStoresUnsure }], guard := none }) rfl (fun K hK => ?_) AllReadyH.nil
  refine step_store_midrow (by rfl) 34 (.tmp 36) (.tmp 31) (by rfl) lb 7 (encSt st2) (by rfl) (by rfl) hXd.row (Nat.le_of_ble_eq_true rfl) (encSt_ones st2) (by rw [hlst]; exact infoS10) ?_
  refine hK.out _ _ (hHd.trans (KeptOff.row _ _ _)) (fun hHeld => ?_)
  clear hHeld hK K
  try simp only [Act.put, List.setIfInBounds_toArray, List.set_cons_zero, List.set_cons_succ]
  have hX7 := hXd.setState st2
  have hH7 := hHd.trans (KeptOff.row w6.drew lb ((logC v W every sv' (len + 1) st stuck).toList.take 7 ++ encSt st2 ++ (logC v W every sv' (len + 1) st stuck).toList.drop (7 + (encSt st2).length)).toArray)
  have d17 := hX7.c17
  have f17 := hX7.fz 17
  generalize w6.drew.setRow lb ((logC v W every sv' (len + 1) st stuck).toList.take 7 ++ encSt st2 ++ (logC v W every sv' (len + 1) st stuck).toList.drop (7 + (encSt st2).length)).toArray = w7 at *
  refine wpAnyH_take (i := 9) (oi := { dst := some 37, op := Op.nilCheck (Operand.tmp 30), type := 0, pos := "log.go:111", after := #[{ on := 1, ground := Ground.data }, { on := 0, ground := Ground.phase }, { on := 1, ground := Ground.phase }, { on := 2, ground := Ground.phase }, { on := 3, ground := Ground.phase }, { on := 4, ground := Ground.phase }, { on := 5, ground := Ground.phase }, { on := 6, ground := Ground.phase }, { on := 7, ground := Ground.phase }, { on := 8, ground := Ground.phase }], guard := none }) (v := ?vv9_8) rfl (by kernel_rfl) (by kernel_rfl) (by kernel_rfl) (fun _ _ _ h => h) (Or.inl ⟨by rfl, ?hy9_8⟩) hH7 ?rest9_8
  case hy9_8 =>
    intro w hSw
    go_simp
    try with_reducible rfl
  try simp only [Act.put, List.setIfInBounds_toArray, List.set_cons_zero, List.set_cons_succ]
  refine wpAnyH_take (i := 10) (oi := { dst := some 38, op := Op.fieldAddr 71 (Operand.tmp 37) 5, type := 0, pos := "log.go:111", after := #[{ on := 9, ground := Ground.data }, { on := 0, ground := Ground.phase }, { on := 1, ground := Ground.phase }, { on := 2, ground := Ground.phase }, { on := 3, ground := Ground.phase }, { on := 4, ground := Ground.phase }, { on := 5, ground := Ground.phase }, { on := 6, ground := Ground.phase }, { on := 7, ground := Ground.phase }, { on := 8, ground := Ground.phase }], guard := none }) (v := ?vv10_9) rfl (by kernel_rfl) (by kernel_rfl) (by kernel_rfl) (fun _ _ _ h => h) (Or.inl ⟨by rfl, ?hy10_9⟩) hH7 ?rest10_9
  case hy10_9 =>
    intro w hSw
    go_simp
    try with_reducible rfl
  try simp only [Act.put, List.setIfInBounds_toArray, List.set_cons_zero, List.set_cons_succ]
  refine wpAnyH_ready (rs := [11]) (by kernel_rfl) (by simp) ?_
  refine AllReadyH.cons (o := { dst := none, op := Op.store 4 (Operand.tmp 38) (Operand.tmp 34), type := 0, pos := "log.go:111", after := #[{ on := 10, ground := Ground.data }, { on := 5, ground := Ground.data }, { on := 8, ground := Ground.chain }, { on := 0, ground := Ground.phase }, { on := 1, ground := Ground.phase }, { on := 2, ground := Ground.phase }, { on := 3, ground := Ground.phase }, { on := 4, ground := Ground.phase }, { on := 5, ground := Ground.phase }, { on := 6, ground := Ground.phase }, { on := 7, ground := Ground.phase }, { on := 8, ground := Ground.phase }], guard := none }) rfl (fun K hK => ?_) AllReadyH.nil
  go_simp
  refine hK.out _ _ (hH7.trans (KeptOff.set _ ⟨lb, 17, none⟩ _)) (fun hHeld => ?_)
  clear hHeld hK K
  try simp only [Act.put, List.setIfInBounds_toArray, List.set_cons_zero, List.set_cons_succ]
  refine wpAnyH_done (by kernel_rfl) ?_ _
  have hX9 := hX7.setStuck (fl != 0)
  have hk9 := hH7.trans (KeptOff.set w7 ⟨lb, 17, none⟩ (.bool (fl != 0)))
  clear hX7 hH7 d17 f17 hXd hHd
  have hX9' := Lib.hid hX9
  have hE9 := Lib.hid ((hk9.block _ (Array.getElem?_eq_some_iff.1 hE6.out).1 (by omega)).trans hE6.out)
  have hR9 := Lib.hid ((hk9.block _ (Array.getElem?_eq_some_iff.1 hR6.out).1 (by omega)).trans hR6.out)
  have hk9' := Lib.hid hk9
  clear hX9 hk9 hE6 hS6 hR6 hst5
  generalize w7.setCell ⟨lb, 17, none⟩ (.bool (fl != 0)) = w9 at *
  have hEt2 : EA.toList.toArray = EA := by simp
  have hrg : w9.rangeAt w2.heap.size 0 EA.toList := range_block hE9.out
  have hz19 : z19.size = EA.size := hEs.symm
  go_wp2_with (first
    | (refine wpList_load_mid rfl 44 (.tmp 10) rfl w2.heap.size 0 rfl EA.toList _ hrg Tryz.underlying44 rfl (by rw [hEl]; exact infoEn) ?_; rw [hEt2])
    | (refine wpList_store_row rfl 44 (.tmp 8) (.tmp 39) rfl (w.heap.size + 1) EA rfl rfl 44 z19 hR9.out hEi.out hz19 hE1.out ?_))
  have hR10 := Lib.hid (setRow_heap (new := EA) hR9.out)
  have hkr : Hid (KeptOff (fun k => k = w.heap.size + 1) w9 (w9.setRow (w.heap.size + 1) EA)) := Lib.hid (KeptOff.row _ _ _)
  have hX10 : Hid (LogX (w9.setRow (w.heap.size + 1) EA) lb v W every sv' (putSs every pre s st v1 p) (len + 1) st2 (fl != 0)) := Lib.hid (hX9'.out.keptE hkr.out hR9.out (by decide))
  have hM10 := Lib.hid ((hM6.out.keptOff hk9'.out (fun k e => by have := hfr2'.out k e; omega)).keptOff hkr.out (fun k e => by have := hfr2'.out k e; omega))
  have hkF : Hid (KeptOff (LOwn lb sv (pre ++ [s])) w (w9.setRow (w.heap.size + 1) EA)) := Lib.hid ((((KeptOff.of_below (S := LOwn lb sv (pre ++ [s])) hBf.out).trans hk6'.out).trans (hk9'.out.mono (fun k _ e => .inl e))).then_new hkr.out (fun k hk0 e => by omega))
  have hown10 : Hid (∀ k, LOwn lb sv' (putSs every pre s st v1 p) k → LOwn lb sv (pre ++ [s]) k ∨ w.heap.size ≤ k) := Lib.hid (fun k e => (ho6'.out k e).imp id (fun h => by have := hBf.out.size; omega))
  have hfp10 : Hid (∀ k, p.sv.ownBlock = some k → w.heap.size ≤ k) := Lib.hid (fun k e => by have := hfp'.out k e; have := hBf.out.size; omega)
  generalize w9.setRow (w.heap.size + 1) EA = w10 at *
  exact bodyPost_ret (results_row_tmp (fn := Tryz.f11) rfl _ w10 _ 44 EA _ rfl hR10.out Tryz.underlying44 rfl hEi.out) rfl ⟨sa, sc, by rw [hEA]; rfl, hM10.out, (fun k e => by have := hfr2'.out k e; omega), sv', v1, p, hpe'.out, hX10.out, hkF.out, hown10.out, hfp10.out⟩
end Go.Proofs.YtminfmjgmmkaoaaGreatDoor
namespace Go.Proofs.YtminfmjgmmkaoaaGreatDoor
open Go.ChangeShapes Go.WideShapes Go.ChangeAt Go.Shelf Go.RowKit Go.Lib Go.Sort Go.Deep
set_option linter.unusedVariables false
set_option maxRecDepth 4000
set_option linter.unusedSimpArgs false

section
variable {w : World} {lb : Nat} {v : Wv} {W : Wd} {every len : Int} {sv : Value} {ss : List Sth} {st : Sta} {stuck : Bool}
theorem LogX.form (h : LogX w lb v W every sv ss len st stuck) (hp : 0 < ss.length) : ∃ g off cap, sv = .slice (some ⟨g, off, none⟩) ss.length cap := by
  obtain ⟨g, off, cap, e, _⟩ := RowAt.form h.rd.abv hp
  exact ⟨g, off, cap, e⟩
theorem LogX.last_none (h : LogX w lb v W every sv ss len st stuck) (hp : 0 < ss.length) (hl : len = 0) : LastIs w lb none := fun w' hb => by
  obtain ⟨g, off, cap, rfl⟩ := h.form hp
  subst hl
  exact lgLastM_none (h.below hb).c5 hp (h.below hb).c6
theorem AtP.msg {w : World} {hb o2 n c2 j : Nat} {L : List Stp} {p : Stp} (h : AtP w (.slice (some ⟨hb, o2, none⟩) n c2) L) (hp : L[j]? = some p) : MsgAt w hb (o2 + j * 9) p.ev := by
  rcases h with ⟨e, _⟩ | ⟨g', off', cap', e, hr⟩
  · cases e
  · simp at e
    obtain ⟨⟨rfl, rfl⟩, _, rfl⟩ := e
    have hc : ∀ c u, c < 9 → (encP p)[c]? = some u → w.cell? ⟨hb, o2 + j * 9 + c, none⟩ = some u := fun c u hc hu => by
      have := hr.cell (j := j * 9 + c) (u := u) (by rw [flatOf_get encP_length L j c p hp hc]; exact hu)
      rwa [← Nat.add_assoc] at this
    exact ⟨hr.lt, hc 0 _ (by omega) rfl, hc 1 _ (by omega) rfl, hc 2 _ (by omega) rfl, hc 3 _ (by omega) rfl, hc 4 _ (by omega) rfl, hc 5 _ (by omega) rfl, hc 6 _ (by omega) rfl⟩
theorem LogX.last_some {pre : List Sth} {s : Sth} {L : List Stp} {p : Stp} (h : LogX w lb v W every sv (pre ++ [s]) len st stuck) (hL : s.L = L ++ [p]) (hl : len ≠ 0) (hp : pre.length < 16384) (hn : L.length < 16384) : LastIs w lb (some p.ev) := fun w' hb => by
  have hx := h.below hb
  obtain ⟨g, off, cap, rfl⟩ := h.form (by simp)
  obtain ⟨a2, c2, hv, hc⟩ := RowAt.shape (hx.rd.each s (List.mem_append_right _ (List.mem_singleton.2 rfl)))
  obtain ⟨hb2, o2, c3, hf, _⟩ := RowAt.form (hx.rd.each s (List.mem_append_right _ (List.mem_singleton.2 rfl))) (by rw [hL]; simp)
  have hln : (pre ++ [s]).length = pre.length + 1 := by simp
  have hlL : s.L.length = L.length + 1 := by rw [hL]; simp
  have hsp : AtP w' (.slice (some ⟨hb2, o2, none⟩) s.L.length c3) s.L := hf ▸ hx.rd.each s (List.mem_append_right _ (List.mem_singleton.2 rfl))
  have hms := AtP.msg (j := L.length) (p := p) hsp (by rw [hL]; simp)
  have hx' := hx
  rw [hln] at hx'
  have hcell := AtT.cell (k := pre.length) hx'.rd.abv (s := s) (by simp)
  rw [hf, hlL] at hcell
  exact lgLastM_some hx'.c5 (by omega) hx'.c6 hl hcell (by omega) hms
/-- Whether it may be done. -/
theorem LogX.refuses (h : LogX w lb v W every sv ss len st stuck) (hp : 0 < ss.length) (hl : len < 16384) {l : Option M} (hla : LastIs w lb l) {m : M} (hf : followsB l m = true) {uid : Int} (hu : lcountB uid = true) :
    ∀ w', Below w.heap.size w w' → Calls Tryz.prog 42 #[.pointer (some ⟨lb, 0, none⟩), m.val, .int .i64 uid] w' fun x w2 => x = .returned (.int .i64 (refP m stuck)) ∧ Below w'.heap.size w' w2 := fun w' hb => by
  obtain ⟨g, off, cap, rfl⟩ := h.form hp
  exact lgRefusal_any (h.below hb).c5 hp (h.below hb).c6 hl (h.below hb).c17 (hla.below hb) hf hu
end
set_option maxHeartbeats 4000000 in
theorem awake10_any {w : World} {eb : Addr} (hE : ErrIs w eb) : Calls Tryz.prog 9 #[] w fun e w' => e = .returned (.bool true) ∧ Below w.heap.size w w' := by
  have hW : Wds w ⟨none, 0, 0, none, 0, 0⟩ ⟨[], 0, [], 0⟩ := ⟨⟨rfl, Nat.le_refl _, Nat.zero_le _, by simp, .inl rfl⟩, ⟨rfl, Nat.le_refl _, Nat.zero_le _, .inl rfl⟩, by decide, by decide⟩
  have hnew := lgNew_ok (every := 1) hW hE (by decide) (by omega)
  simp only [Wv.val, Sta.val, Sta.cells, Sta.zero, List.map_cons, List.map_nil, List.cons_append, List.nil_append] at hnew
  clear hW hE
  go_enter Tryz.func9, Tryz.ntmps9
  go_wp2_with fail
  refine hnew.mono ?_
  rintro e w1 ⟨lb, rfl, hq⟩
  obtain ⟨hlb, hB, v, g, hg, hL⟩ := hq.out
  have hk := lgKept_any hL.x.c5 (by omega)
  have hB' := Lib.hid hB
  clear hnew hq hB hL
  go_wp2_with (go_at_call 19; refine hk.mono ?_; rintro e w2 ⟨rfl, rfl⟩)
  go_ret
  exact ⟨rfl, hB'.out⟩
end Go.Proofs.YtminfmjgmmkaoaaGreatDoor
namespace Go.Proofs.YtminfmjgmmkaoaaGreatDoor
open Go.ChangeShapes Go.WideShapes Go.ChangeAt Go.Shelf Go.RowKit Go.Lib Go.Sort Go.Deep
set_option linter.unusedVariables false
set_option maxRecDepth 4000
set_option linter.unusedSimpArgs false

theorem nameL_get (kept : List M) : ∀ (l : List M) (u : Int) (i : Nat), i < l.length → (nameL kept l u).getD i default = match kept.find? (fitB (l.getD i default)) with
    | some k => { l.getD i default with u := k.u }
    | none => { l.getD i default with u := nameU kept (l.take i) u }
  | [], u, i, h => by simp at h
  | m :: l, u, 0, h => by
    simp only [nameL, List.getD_cons_zero, List.take_zero, nameU]
    cases kept.find? (fitB m) <;> simp
  | m :: l, u, i + 1, h => by
    have ih := fun u => nameL_get kept l u i (by simpa using h)
    simp only [nameL, List.getD_cons_succ, List.take_succ_cons, nameU]
    split
    · rw [List.getD_cons_succ, ih u]
    · rw [List.getD_cons_succ, ih (u + 1)]
theorem nameL_nil (ms : List M) (u : Int) : ∀ k, k < ms.length → (nameL [] ms u).getD k default = { ms.getD k default with u := nameU [] (ms.take k) u } := fun k hk => by
  rw [nameL_get _ _ _ _ hk]
  simp
theorem nameU_nil : ∀ (l : List M) (u : Int), nameU [] l u = u + l.length
  | [], u => by simp [nameU]
  | m :: l, u => by
    simp only [nameU, List.find?_nil]
    rw [nameU_nil l (u + 1)]
    simp only [List.length_cons]
    omega
/-- The first doing's names are the numbers in order. -/
theorem name_first (W : Wd) (n t u : Int) (o : List Ot) : nameL [] (mgs W n t u o o.length) u = mgs W n t u o o.length := by
  have hl := nameL_length [] (mgs W n t u o o.length) u
  refine List.ext_getElem (by rw [hl]) fun i h1 h2 => ?_
  have hi : i < o.length := by rwa [mgs_length] at h2
  have := nameL_nil (mgs W n t u o o.length) u i h2
  simp only [List.getD_eq_getElem?_getD, List.getElem?_eq_getElem h1, List.getElem?_eq_getElem h2, Option.getD_some] at this
  rw [this, nameU_nil]
  have hg := mgs_get W n t u o o.length i hi
  simp only [List.getD_eq_getElem?_getD, List.getElem?_eq_getElem h2, Option.getD_some] at hg
  rw [hg]
  simp only [mgOf, List.length_take, mgs_length, Nat.min_eq_left (Nat.le_of_lt hi)]
end Go.Proofs.YtminfmjgmmkaoaaGreatDoor
namespace Go.Proofs.YtminfmjgmmkaoaaGreatDoor
open Go.ChangeShapes Go.WideShapes Go.ChangeAt Go.Shelf Go.RowKit Go.Lib Go.Sort Go.Deep
set_option linter.unusedVariables false
set_option maxRecDepth 4000
set_option linter.unusedSimpArgs false

/-- A log that nothing was done in, at the beginning. -/
def Fresh (w : World) (lb : Nat) (v : Wv) (W : Wd) (every : Int) (g : Nat) : Prop := LogOf w lb v W every (.slice (some ⟨g, 0, none⟩) 1 1) [⟨Sta.zero, .slice none 0 0, []⟩] Sta.zero false
theorem Fresh.below {w w' : World} {lb g : Nat} {v : Wv} {W : Wd} {every : Int} (h : Fresh w lb v W every g) (hb : Below w.heap.size w w') : Fresh w' lb v W every g := (h.x.below hb).of h.every h.pos rfl
end Go.Proofs.YtminfmjgmmkaoaaGreatDoor
namespace Go.Proofs.YtminfmjgmmkaoaaGreatDoor
open Go.ChangeShapes Go.WideShapes Go.ChangeAt Go.Shelf Go.RowKit Go.Lib Go.Sort Go.Deep
set_option linter.unusedVariables false
set_option maxRecDepth 4000
set_option linter.unusedSimpArgs false

end Go.Proofs.YtminfmjgmmkaoaaGreatDoor
namespace Go.Proofs.YtminfmjgmmkaoaaGreatDoor
open Go.ChangeShapes Go.WideShapes Go.ChangeAt Go.Shelf Go.RowKit Go.Lib Go.Sort Go.Deep
set_option linter.unusedVariables false
set_option maxRecDepth 4000
set_option linter.unusedSimpArgs false

end Go.Proofs.YtminfmjgmmkaoaaGreatDoor
