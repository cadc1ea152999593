/-
  A log's Back, walked.
-/
import Derived.Test.YtminfmjgmmkaoaaGreatDoorJG
import Derived.Sort.CutIn
namespace Go.Proofs.YtminfmjgmmkaoaaGreatDoor
open Go.ChangeShapes Go.WideShapes Go.ChangeAt Go.Shelf Go.RowKit Go.Lib Go.Sort Go.Deep
set_option linter.unusedVariables false
set_option maxRecDepth 4000
set_option linter.unusedSimpArgs false
attribute [local go_sem] Oper.semAt_some

section
variable {F : Fence} {n : Nat} {P : Program} {ops : Array Oper} {rest : List Oper} {o : Oper} {a : Act} {w : World} {Q : Exit → Act → World → Prop}
theorem wpListIn_store_midrow (hgd : o.guard = none) (ty : TypeId) (x y : Operand) (ho : o.op = .store ty x y) (g p : Nat) (cs : List Value) (hx : a.eval x = .pointer (some ⟨g, p, none⟩)) (hy : a.eval y = .agg cs.toArray)
    {cur : Array Value} {T : TypeId} (hg : w.heap[g]? = some (.cells cur T (0, 0))) (hfit : p + cs.length ≤ cur.size) (h1 : ∀ u ∈ cs, u.oneCell' = true) (hi : (P.info? ty).map (·.size) = some cs.length) {new : Array Value} (hnew : (cur.toList.take p ++ cs ++ cur.toList.drop (p + cs.length)).toArray = new)
    (h : wpListIn F n P ops Q rest (a.put o.dst undef) (w.setRow g new)) : wpListIn F n P ops Q (o :: rest) a w := by
  subst hnew
  refine wpListIn_plain hgd fun K hK' => ?_
  unfold Oper.wpIn
  refine ⟨by simp [Oper.about, ho], ?_⟩
  rw [Oper.semAt_plain F _ _ (by rw [ho]; intro c hc'; cases hc')]
  unfold execOp
  simp only [ho, hx, hy, Instr.storeAt, Instr.sureAddr, Sem.run_bind, Sem.run_pure, Result.andThen_ok, run_storeMid cs hg hfit h1 hi]
  exact hK' _ _ h
end
theorem logC_stuck (v : Wv) (W : Wd) (every : Int) (sv : Value) (len : Int) (st : Sta) (stuck b : Bool) : (logC v W every sv len st stuck).setIfInBounds 17 (.bool b) = logC v W every sv len st b := rfl
set_option maxHeartbeats 16000000 in
theorem lgBack_any {b w : World} {eb : Addr} (hE : ErrIs b eb) (hT : ErrT b) {lb c p : Nat} {v0 : Wv} {W : Wd} {every : Int} {sv : Value} {ss : List Sth} {st : Sta} {stuck : Bool} {m : M} (h : LogIs b w lb v0 W every sv ss st stuck c) (hc : c ≤ 1000) (hpa : PartA W m ss p) :
    Calls Tryz.prog 14 #[.pointer (some ⟨lb, 0, none⟩), m.val] w fun e w' => ∃ a cc, e = .returned (.slice a (total ss - p) cc) ∧ Hid (BackQ b w lb v0 W every sv ss st stuck c p a cc w') := by
  have mixed := mixed
  have hcnt := h.cnt
  have hple := hpa.1
  obtain ⟨i0, hi0, hz0, hz1, hz2⟩ := info_parts infoEy
  obtain ⟨sa, sc, hsv, -⟩ := RowAt.shape h.of.rd.abv
  have hmv : m.val = .agg (encMs m).toArray := rfl
  have hmm : m.cells = (encMs m).toArray := rfl
  have hlm : (encMs m).length = 7 := rfl
  have hwb := Lib.hid (fun w' => lgWayBack_any (w := w') (lb := lb) (m := m))
  have hend : Hid (∀ (w2 : World) (st2 : Sta) (stuck2 : Bool), LogX w2 lb v0 W every sv ss (total ss) st2 stuck2 → Calls Tryz.prog 36 #[.pointer (some ⟨lb, 0, none⟩), .agg (encMs m).toArray] w2 fun e w' => e = .returned (.tuple #[]) ∧ Hid (EndQ w2 lb v0 W every sv ss (total ss) st2 stuck2 p w')) := Lib.hid (fun w2 st2 stuck2 hX => lgEnd_any hX h.of.pos (by have := h.n; omega) (fun S hS => by have := L_le_total hS; omega) hpa)
  have hgw : Hid (∀ (w5 : World) (pb mb : Nat), Below w.heap.size w w5 → w5.heap[pb]? = some (.cells #[.pointer (some ⟨lb, 0, none⟩)] 28 (0, 0)) → w5.heap[mb]? = some (.cells (encMs m).toArray 42 (0, 0)) → GivesR Tryz.prog 51 #[.pointer (some ⟨pb, 0, none⟩), .pointer (some ⟨mb, 0, none⟩)] PayE ((toldAll W ss).drop p).reverse (HB b pb mb v0 sv ss) (RdL lb v0 W every sv (total ss)) w5) := Lib.hid (fun w5 pb mb hb5 h1 h2 => by
    have hm := h.may (by omega)
    exact lgWayBack1_gives hE hT (h.base.trans (hb5.mono h.base.size)) h1 h2 (h.of.rd.below hb5) hm.ok hm.n hm.L hm.sl hpa)
  simp only [hmv, hmm] at hwb ⊢
  have hcc : (Value.agg (encMs m).toArray).cells = (encMs m).toArray := rfl
  have h' := Lib.hid h
  have hpa' := Lib.hid hpa
  obtain ⟨ML, hML⟩ : ∃ ML, encMs m = ML := ⟨_, rfl⟩
  rw [hML] at hwb hend hgw hcc hlm ⊢
  have hb1 := Lib.hid ((Below.refl _ w).alloc (Nat.le_refl _) (.cells #[.pointer (some ⟨lb, 0, none⟩)] 28))
  have hb2 := Lib.hid (hb1.out.alloc hb1.out.size (.cells ML.toArray 42))
  have hA1 := heap_alloc_new w (.cells #[.pointer (some ⟨lb, 0, none⟩)] 28)
  have hs1 : (w.alloc (.cells #[.pointer (some ⟨lb, 0, none⟩)] 28)).heap.size = w.heap.size + 1 := by simp
  have hA2 := heap_alloc_new (w.alloc (.cells #[.pointer (some ⟨lb, 0, none⟩)] 28)) (.cells ML.toArray 42)
  rw [hs1] at hA2
  have hA12 := (((Below.refl _ (w.alloc (.cells #[.pointer (some ⟨lb, 0, none⟩)] 28))).alloc (Nat.le_refl _) (.cells ML.toArray 42)).block w.heap.size (by omega)).trans hA1
  have hs2 : ((w.alloc (.cells #[.pointer (some ⟨lb, 0, none⟩)] 28)).alloc (.cells ML.toArray 42)).heap.size = w.heap.size + 1 + 1 := by simp
  have hmd : Hid (∀ w', Below w.heap.size w w' → _) := Lib.hid (fun w' hb => lgMade_any (w := w') (lb := lb) (by rw [← hsv]; exact (h.of.x.below hb).c5) h.of.pos)
  have hm2 := hmd.out _ hb2.out
  have c20 : ((w.alloc (.cells #[.pointer (some ⟨lb, 0, none⟩)] 28)).alloc (.cells ML.toArray 42)).cell? ⟨w.heap.size, 0, none⟩ = some (.pointer (some ⟨lb, 0, none⟩)) := row_cell hA12 0 rfl
  have hA12' := Lib.hid hA12
  have hA2' := Lib.hid hA2
  have hs2' := Lib.hid hs2
  have hlbw := h.of.x.lt
  have hlbb := h.own lb (.inl rfl)
  have hnle : total ss - p ≤ 1000 := by omega
  clear hsv h hmv hmm hA12 hA2 hA1 hs1 hb1 hmd hpa hML hs2
  refine (callsIn_wide (n := 6)).1 ?_
  refine callsIn_of_wp_marks Tryz.func14 rfl trivial (wpIn_mono (Q := noPanic (bodyPostM Fence.wide 6 Tryz.prog Tryz.f14 fun e w' => ∃ a cc, e = .returned (.slice a (total ss - p) cc) ∧ Hid (BackQ b w lb v0 W every sv ss st stuck c p a cc w'))) ?_ (noPanic_le _)) rfl
  simp only [Tryz.ntmps14, List.size_toArray, List.length_cons, List.length_nil, Nat.reduceAdd, Nat.reduceSub, Array.replicate_succ, Array.replicate_zero, List.push_toArray, List.append_toArray, List.nil_append, List.cons_append]
  refine wpIn_wide.2 ?_
  go_upto_region 1 with (fail)
  generalize (w.alloc (.cells #[.pointer (some ⟨lb, 0, none⟩)] 28)).alloc (.cells ML.toArray 42) = w2 at *
  have hb3 := Lib.hid (hb2.out.alloc hb2.out.size (.cells #[.slice none 0 0] 47))
  have hb23 := Lib.hid ((Below.refl _ w2).alloc (Nat.le_refl _) (.cells #[.slice none 0 0] 47))
  have hA3 := Lib.hid (heap_alloc_new w2 (.cells #[.slice none 0 0] 47))
  have hmr3 : Hid ((w2.alloc (.cells #[.slice none 0 0] 47)).rangeAt (w.heap.size + 1) 0 ML) := Lib.hid (by
    have := range_block ((hb23.out.block _ (Array.getElem?_eq_some_iff.1 hA2'.out).1).trans hA2'.out)
    simpa using this)
  have c23 := row_cell ((hb23.out.block _ (Array.getElem?_eq_some_iff.1 hA12'.out).1).trans hA12'.out) 0 rfl
  have hs3 : (w2.alloc (.cells #[.slice none 0 0] 47)).heap.size = w.heap.size + 1 + 1 + 1 := by rw [World.size_alloc, hs2'.out]
  have hs3' := Lib.hid hs3
  have hA3s : Hid ((w2.alloc (.cells #[.slice none 0 0] 47)).heap[w.heap.size + 1 + 1]? = some (.cells #[.slice none 0 0] 47 (0, 0))) := Lib.hid (by have := hA3.out; rwa [hs2'.out] at this)
  have hbx0 := Lib.hid ((hb23.out.block _ (Array.getElem?_eq_some_iff.1 hA12'.out).1).trans hA12'.out)
  have hbm0 := Lib.hid ((hb23.out.block _ (Array.getElem?_eq_some_iff.1 hA2'.out).1).trans hA2'.out)
  clear hs3 hA3
  go_upto_region 4 with (go_at_call 32; refine hm2.mono ?_; rintro e w' ⟨rfl, rfl⟩)
  simp only [hs2'.out]
  clear c20 hm2 hb2 hA12' hA2' hb23
  generalize w2.alloc (.cells #[.slice none 0 0] 47) = w3 at *
  have hwb3 := hwb.out w3
  rw [hs3'.out] at hwb3
  go_wp2_with (refine wpList_load_mid rfl 42 (.tmp 3) rfl (w.heap.size + 1) 0 rfl ML _ hmr3.out Tryz.underlying42 rfl (by rw [hlm]; exact infoMe) ?_)
  refine hwb3.mono ?_
  rintro e w5 ⟨rfl, hw5⟩
  have hb35 : Below w3.heap.size w3 w5 := by rw [hw5]; exact ((Below.refl _ w3).alloc (Nat.le_refl _) _).alloc (by simp) _
  have hb45 := (((Below.refl _ (w3.alloc (.cells #[.pointer (some ⟨lb, 0, none⟩)] 28))).alloc (Nat.le_refl _) (.cells ML.toArray 42)))
  have hs5 : w5.heap.size = w.heap.size + 1 + 1 + 1 + 1 + 1 := by rw [hw5]; simp [hs3'.out]
  have hpb := Lib.hid (show w5.heap[w.heap.size + 1 + 1 + 1]? = some (.cells #[.pointer (some ⟨lb, 0, none⟩)] 28 (0, 0)) from by
    have h1 := heap_alloc_new w3 (.cells #[.pointer (some ⟨lb, 0, none⟩)] 28)
    rw [hs3'.out] at h1
    rw [hw5]
    exact (hb45.block _ (Array.getElem?_eq_some_iff.1 h1).1).trans h1)
  have hmb := Lib.hid (show w5.heap[w.heap.size + 1 + 1 + 1 + 1]? = some (.cells ML.toArray 42 (0, 0)) from by
    have h1 := heap_alloc_new (w3.alloc (.cells #[.pointer (some ⟨lb, 0, none⟩)] 28)) (.cells ML.toArray 42)
    rw [World.size_alloc, hs3'.out] at h1
    rw [hw5]
    exact h1)
  have hB5 := Lib.hid (hb3.out.trans (hb35.mono hb3.out.size))
  have hbx5 := Lib.hid ((hb35.block _ (Array.getElem?_eq_some_iff.1 hA3s.out).1).trans hA3s.out)
  have hl2 := Lib.hid ((hb35.block _ (Array.getElem?_eq_some_iff.1 hbx0.out).1).trans hbx0.out)
  have hl3 := Lib.hid ((hb35.block _ (Array.getElem?_eq_some_iff.1 hbm0.out).1).trans hbm0.out)
  have hs5' := Lib.hid hs5
  clear hs5 hw5 hb35 hb45 hwb3 hwb hmr3 c23 hA3s hbx0 hbm0 hb3
  have hg := Lib.hid (hgw.out w5 _ _ hB5.out hpb.out hmb.out)
  have h := h'.out
  have hHlt : Hid (∀ k, HB b (w.heap.size + 1 + 1 + 1) (w.heap.size + 1 + 1 + 1 + 1) v0 sv ss k → k < w5.heap.size ∧ k ≠ lb ∧ (k < w.heap.size ∨ k = w.heap.size + 1 + 1 + 1 ∨ k = w.heap.size + 1 + 1 + 1 + 1)) := Lib.hid (fun k hk => by
    have h1 := h.base.size
    have h2 := hs5'.out
    have hne : ∀ {v' : Value} {e : TypeId}, TagV w e v' → e ≠ 71 → v'.ownBlock = some k → k < w.heap.size ∧ k ≠ lb := fun ht hn hk' => ⟨ht.lt k hk', fun e => ht.ne (logt h.of.row) hn k hk' (e ▸ own_lb lb)⟩
    have fin : (k < w.heap.size ∧ k ≠ lb) → k < w5.heap.size ∧ k ≠ lb ∧ (k < w.heap.size ∨ k = w.heap.size + 1 + 1 + 1 ∨ k = w.heap.size + 1 + 1 + 1 + 1) := fun e => ⟨by omega, e.2, .inl e.1⟩
    rcases hk with hk | rfl | rfl | hk | ⟨S, hS, hk⟩
    · exact fin ⟨by omega, by omega⟩
    · exact ⟨by omega, by omega, .inr (.inl rfl)⟩
    · exact ⟨by omega, by omega, .inr (.inr rfl)⟩
    · exact fin (hne h.of.rd.svt (by decide) hk)
    · rcases hk with hk | hk | hk | ⟨q, hq, hk⟩
      · exact fin (hne h.of.rd.wtag.1 (by decide) hk)
      · exact fin (hne h.of.rd.wtag.2 (by decide) hk)
      · exact fin (hne (h.of.rd.stt hS) (by decide) hk)
      · exact fin (hne (h.of.rd.sents S hS q hq).2 (by decide) hk))
  clear h
  obtain ⟨Bx, hBx0⟩ : ∃ Bx : List (Nat × Obj), Bx = [(w.heap.size, .cells #[.pointer (some ⟨lb, 0, none⟩)] 28 (0, 0)), (w.heap.size + 1, .cells ML.toArray 42 (0, 0)), (w.heap.size + 1 + 1 + 1, .cells #[.pointer (some ⟨lb, 0, none⟩)] 28 (0, 0)), (w.heap.size + 1 + 1 + 1 + 1, .cells ML.toArray 42 (0, 0))] := ⟨_, rfl⟩
  have hBx := Lib.hid hBx0
  have hI0 : Hid (BackI w lb (w.heap.size + 1 + 1) Bx v0 W every sv (total ss) st stuck (fun _ => False) [] w5) := Lib.hid ⟨⟨.slice none 0 0, [], ⟨rfl, .nil⟩, hbx5.out, ⟨.nil _ _ _, fun y hy => (by cases hy)⟩, by have := hs5'.out; omega, by omega, fun e => e, fun k e => ⟨fun e => e, by
    rcases e with e | ⟨y, hy, _⟩
    · cases e
    · cases hy⟩, fun k e => e.elim⟩, by
    have := (hB5.out.block lb hlbw).trans h'.out.of.row
    simpa [backSt, backStuck] using this, .of_below hB5.out, hlbw, fun q hq => by
    rw [hBx0] at hq
    simp only [List.mem_cons, List.not_mem_nil, or_false] at hq
    rcases hq with rfl | rfl | rfl | rfl
    · exact ⟨hl2.out, fun e => e⟩
    · exact ⟨hl3.out, fun e => e⟩
    · exact ⟨hpb.out, fun e => e⟩
    · exact ⟨hmb.out, fun e => e⟩⟩
  have hBxm : Hid ((w.heap.size, (Obj.cells #[.pointer (some ⟨lb, 0, none⟩)] 28 (0, 0))) ∈ Bx ∧ (w.heap.size + 1, (Obj.cells ML.toArray 42 (0, 0))) ∈ Bx ∧ (w.heap.size + 1 + 1 + 1, (Obj.cells #[.pointer (some ⟨lb, 0, none⟩)] 28 (0, 0))) ∈ Bx ∧ (w.heap.size + 1 + 1 + 1 + 1, (Obj.cells ML.toArray 42 (0, 0))) ∈ Bx) := Lib.hid (by rw [hBx0]; simp)
  have hBxt : Hid (∀ q ∈ Bx, ∃ cs ty, q.2 = .cells cs ty (0, 0) ∧ (ty = 28 ∨ ty = 42) ∧ w.heap.size ≤ q.1) := Lib.hid (fun q hq => by
    rw [hBx0] at hq
    simp only [List.mem_cons, List.not_mem_nil, or_false] at hq
    rcases hq with rfl | rfl | rfl | rfl
    · exact ⟨_, _, rfl, .inl rfl, by simp⟩
    · exact ⟨_, _, rfl, .inr rfl, by simp⟩
    · exact ⟨_, _, rfl, .inl rfl, by simp only; omega⟩
    · exact ⟨_, _, rfl, .inr rfl, by simp only; omega⟩)
  clear hBx0 hpb hmb hl2 hl3 hbx5 hgw
  obtain ⟨T, hT0⟩ : ∃ T, ((toldAll W ss).drop p).reverse = T := ⟨_, rfl⟩
  have hTl : T.length = total ss - p := by rw [← hT0, List.length_reverse, List.length_drop, toldAll_length]
  rw [hT0] at hg
  have hTT := Lib.hid hT0
  clear hT0 hBx
  go_wp2_with fail
  refine (wpIn_wide (n := 6)).1 ?_
  refine wpIn_rangeFunc_R (gf := 51) (lb := #[.pointer (some ⟨w.heap.size + 1 + 1 + 1, 0, none⟩), .pointer (some ⟨w.heap.size + 1 + 1 + 1 + 1, 0, none⟩)]) rfl (enters_of Tryz.func51 (by kernel_rfl) rfl) (H := HB b (w.heap.size + 1 + 1 + 1) (w.heap.size + 1 + 1 + 1 + 1) v0 sv ss) (Rd := RdL lb v0 W every sv (total ss)) (fun k hk => (hHlt.out k hk).1) hg.out (fun G x vs X h => by obtain ⟨a, c, rfl, _⟩ := h; rfl) (BackI w lb (w.heap.size + 1 + 1) Bx v0 W every sv (total ss) st stuck) (fun _ _ _ _ => False) (BackI.steps _ _ _ _ _ _ _ _ _ _ _) (fun _ _ _ _ _ _ h _ _ => h) (fun Z s X h => ⟨_, _, h.2.1⟩) hI0.out ?round ?done (fun _ _ _ _ _ _ _ _ h _ => h.elim)
  case round =>
    intro l1 Z G pre x vs X hI hpre hpay hG hZlt hsz hvs
    obtain ⟨⟨v, L, h1, h2a, h3a, h4, h5, h6, h7, h8⟩, hlb0, hkX0, -, hst0⟩ := hI
    obtain ⟨ea, ec, rfl, hMa, hTa, hGx⟩ := hpay
    have h2 := Lib.hid h2a
    have h3 := Lib.hid h3a
    have hMx := Lib.hid hMa
    have hTx := Lib.hid hTa
    have hlbX := Lib.hid hlb0
    have hkX := Lib.hid hkX0
    have hstX := Lib.hid hst0
    clear h2a h3a hMa hTa hg hI0 hlb0 hkX0 hst0
    have hlenL : L.length < 16384 := by
      have := hpre.length_le
      rw [← h1.1] at this
      simp at this
      omega
    have hA := heap_alloc_new X (.cells z19 44)
    have hC := Lib.hid ((Below.refl _ X).alloc (Nat.le_refl _) (.cells z19 44))
    simp only [z19] at hA hC
    have hE1 : Hid ((entC x.ev x.bf x.fl (.slice ea x.sent.length ec)).toArray.size = 19 ∧ (entC x.ev x.bf x.fl (.slice ea x.sent.length ec)).toArray.all (·.oneCell') = true ∧ (entC x.ev x.bf x.fl (.slice ea x.sent.length ec)).length = 19) := Lib.hid ⟨rfl, entC_one _ _ _ _ _ _, rfl⟩
    have hlit := Lib.hid (fun w => lit_entry x.ev x.bf x.fl ea x.sent.length ec w)
    have hE0 : encE (x, .slice ea x.sent.length ec) = entC x.ev x.bf x.fl (.slice ea x.sent.length ec) := rfl
    have hE2 : (entC x.ev x.bf x.fl (.slice ea x.sent.length ec))[17]? = some (.int .i64 x.fl) := rfl
    have hE3 : ((entC x.ev x.bf x.fl (.slice ea x.sent.length ec)).drop 7).take 10 = encSt x.bf := rfl
    have hET : ∃ ET, entC x.ev x.bf x.fl (.slice ea x.sent.length ec) = ET := ⟨_, rfl⟩
    obtain ⟨ET, hET0⟩ := hET
    rw [hET0] at hE1 hlit hE0 hE2 hE3 ⊢
    have hE0' := Lib.hid hE0
    have hE2' := Lib.hid hE2
    have hE3' := Lib.hid hE3
    clear hET0 hE0 hE2 hE3
    gi_wp2_with (first
      | (refine wpListIn_store_row rfl 44 (.tmp 6) (.tmp 13) rfl X.heap.size ET.toArray rfl rfl 44 _ hA (by rw [hE1.out.1]; exact infoEn) (by rw [hE1.out.1]; rfl) hE1.out.2.1 ?_))
    have hXe := Lib.hid (setRow_heap (new := ET.toArray) hA)
    have hBa := Lib.hid (below_row hC.out (g := X.heap.size) (Nat.le_refl _) ET.toArray)
    clear hA hC
    generalize (X.alloc (Obj.cells _ 44)).setRow X.heap.size ET.toArray = Wa at *
    refine ⟨.of_below hBa.out, fun Wb hkb hsb _ _ _ _ => ?_⟩
    have hwa := hBa.out.size
    have hxl := (Array.getElem?_eq_some_iff.1 hXe.out).1
    have hkb0 : Hid (KeptOff (fun q => Z q ∧ ¬ G q) X Wb) := Lib.hid ((KeptOff.of_below hBa.out).trans hkb)
    have hXb := Lib.hid ((hkb.block _ hxl (fun e => by have := hZlt _ e.1; omega)).trans hXe.out)
    have hXr : Hid (Wb.rangeAt X.heap.size 0 ET) := Lib.hid (by have := range_block hXb.out; simpa using this)
    have h2b := Lib.hid ((hkb0.out.block _ (Array.getElem?_eq_some_iff.1 h2.out).1 (fun e => h6 e.1)).trans h2.out)
    have h3b := Lib.hid (h3.out.kept hkb0.out (fun k e e2 => (h7 k e).1 e2.1))
    have h4b := Nat.le_trans h4 hkb0.out.size
    have hMb := Lib.hid (hMx.out.keptOff hkb0.out (fun q e e2 => e2.2 (hGx q e)))
    have hTb := Lib.hid (hTx.out.kept hkb0.out (fun q e e2 => e2.2 (hGx q e)))
    have hlbB := Lib.hid ((hkb0.out.block _ (Array.getElem?_eq_some_iff.1 hlbX.out).1 (fun e => by have := h8 _ e.1; omega)).trans hlbX.out)
    have hstB : Hid (Stay Bx Z Wb) := Lib.hid (fun q hq => ⟨(hkb0.out.block _ (Array.getElem?_eq_some_iff.1 (hstX.out q hq).1).1 (fun e => (hstX.out q hq).2 e.1)).trans (hstX.out q hq).1, (hstX.out q hq).2⟩)
    have hkB : Hid (KeptOff (fun k => k = lb) w Wb) := Lib.hid (hkX.out.then_new hkb0.out (fun k hk e => by have := h8 k e.1; omega))
    have hxBx : Hid (∀ q ∈ Bx, X.heap.size ≠ q.1) := Lib.hid (fun q hq e => by have := (Array.getElem?_eq_some_iff.1 (hstX.out q hq).1).1; omega)
    have hna := Lib.hid (heap_alloc_new Wb (.cells ET.toArray 44))
    have hBn := Lib.hid ((Below.refl _ Wb).alloc (Nat.le_refl _) (.cells ET.toArray 44))
    have hrw : Hid (RowAt (Wb.alloc (.cells ET.toArray 44)) 44 19 v L.length (L.flatMap encE)) := Lib.hid (h3b.out.below hBn.out).1
    have cbx : Wb.cell? ⟨w.heap.size + 1 + 1, 0, none⟩ = some v := row_cell h2b.out 0 rfl
    obtain ⟨va, vc, hva, -⟩ := RowAt.shape h3b.out.1
    have hin : Hid (∀ w4, KeptOff (fun k => v.ownBlock = some k) (Wb.alloc (.cells ET.toArray 44)) w4 → w4.cell? ⟨w.heap.size + 1 + 1, 0, none⟩ = some v ∧ w4.frozen? ⟨w.heap.size + 1 + 1, 0, none⟩ = false) := Lib.hid (fun w4 hk => by
      have hbv : v.ownBlock ≠ some (w.heap.size + 1 + 1) := fun e => by
        obtain ⟨cur, h⟩ := RowAt.tag h3b.out.1 e
        rw [h2b.out] at h
        simp at h
      have := ((hk.block _ (Nat.lt_of_lt_of_le (Array.getElem?_eq_some_iff.1 h2b.out).1 hBn.out.size) hbv).trans (hBn.out.block _ (Array.getElem?_eq_some_iff.1 h2b.out).1)).trans h2b.out
      exact ⟨row_cell this 0 rfl, frozen_of_cells this⟩)
    obtain ⟨R, hR0⟩ : ∃ R : Exit → Act → World → Prop, ∀ e a3 W3, R e a3 W3 ↔ KeptOff (fun k => ¬ Z k ∧ ¬ HB b (w.heap.size + 1 + 1 + 1) (w.heap.size + 1 + 1 + 1 + 1) v0 sv ss k) Wb W3 ∧ LeftZ (BackI w lb (w.heap.size + 1 + 1) Bx v0 W every sv (total ss) st stuck) (fun _ _ _ _ => False) (fun k => Z k ∧ ¬ G k) (pre ++ [x]) W3 e := ⟨_, fun _ _ _ => Iff.rfl⟩
    -- behind the append
    have hfin5 : Hid (∀ g2 off2 cap2 w4, Hid (RowIn w4 44 19 g2 off2 (L.length + 1) cap2 (L.flatMap encE ++ ET)) → Hid (KeptOff (fun k => v.ownBlock = some k) (Wb.alloc (.cells ET.toArray 44)) w4) → Hid (v.ownBlock = some g2 ∨ (Wb.alloc (.cells ET.toArray 44)).heap.size ≤ g2) →
        Hid (CollN w.heap.size (w.heap.size + 1 + 1) (fun k => Z k ∧ ¬ G k) (pre ++ [x]) (w4.setCell ⟨w.heap.size + 1 + 1, 0, none⟩ (.slice (some ⟨g2, off2, none⟩) (L.length + 1) cap2)) ∧ KeptOff (fun k => ¬ Z k ∧ ¬ HB b (w.heap.size + 1 + 1 + 1) (w.heap.size + 1 + 1 + 1 + 1) v0 sv ss k ∧ w.heap.size ≤ k) Wb (w4.setCell ⟨w.heap.size + 1 + 1, 0, none⟩ (.slice (some ⟨g2, off2, none⟩) (L.length + 1) cap2)) ∧
          (∀ k cs ty, Wb.heap[k]? = some (.cells cs ty (0, 0)) → ty ≠ 47 → (ty ≠ 44 ∨ k = X.heap.size) → (w4.setCell ⟨w.heap.size + 1 + 1, 0, none⟩ (.slice (some ⟨g2, off2, none⟩) (L.length + 1) cap2)).heap[k]? = some (.cells cs ty (0, 0))))) := Lib.hid (fun g2 off2 cap2 w4 r1 r2 r3 => Lib.hid (by
      have hkk : KeptOff (fun k => v.ownBlock = some k) Wb w4 := (KeptOff.of_below hBn.out).trans r2.out
      have hks := KeptOff.set w4 ⟨w.heap.size + 1 + 1, 0, none⟩ (.slice (some ⟨g2, off2, none⟩) (L.length + 1) cap2)
      have hvH : ∀ k, v.ownBlock = some k → ¬ HB b (w.heap.size + 1 + 1 + 1) (w.heap.size + 1 + 1 + 1 + 1) v0 sv ss k := fun k e hh => by
        have h11 := (hHlt.out k hh).2.2
        have h12 := (h7 k (.inl e)).2
        have hb4 : ∀ q ∈ Bx, k ≠ q.1 := fun q hq e2 => by
          obtain ⟨cs, ty, e3, e4, -⟩ := hBxt.out q hq
          obtain ⟨cur, h⟩ := RowAt.tag h3b.out.1 e
          have h0 := (hstB.out q hq).1
          rw [← e2, h, e3] at h0
          simp at h0
          rcases e4 with e4 | e4
          · rw [e4] at h0; exact absurd h0.2 (by decide)
          · rw [e4] at h0; exact absurd h0.2 (by decide)
        rcases h11 with h11 | h11 | h11
        · omega
        · exact hb4 _ hBxm.out.2.2.1 h11
        · exact hb4 _ hBxm.out.2.2.2 h11
      refine ⟨CollN.more h1 h2b.out h3b.out h4b h5 h6 h7 h8 (fun k e => by have := hZlt k e; omega) hMb.out hTb.out hGx hG (by rw [hE0'.out]; exact r1.out) hkk (r3.out.imp id (fun e => by have := hBn.out.size; omega)), ?_, fun k cs ty hk e1 e2 => ?_⟩
      · refine (hkk.mono (fun k hk e => ⟨(h7 k (.inl e)).1, hvH k e, (h7 k (.inl e)).2⟩)).trans (hks.mono (fun k _ e => by simp only at e; subst e; exact ⟨h6, fun hh => by have := (hHlt.out _ hh).2; omega, by omega⟩))
      · have hl := (Array.getElem?_eq_some_iff.1 hk).1
        have h0 := (hkk.block k hl (fun e => by
          obtain ⟨cur, h⟩ := RowAt.tag h3b.out.1 e
          rw [hk] at h
          simp at h
          rcases e2 with e2 | e2
          · exact e2 h.2
          · have := h3.out.lt k (.inl e)
            omega)).trans hk
        refine (hks.block k (Nat.lt_of_lt_of_le hl hkk.size) (fun e => ?_)).trans h0
        have e : k = w.heap.size + 1 + 1 := e
        rw [e, h2b.out] at hk
        simp at hk
        exact e1 hk.2.symm))
    have hR := Lib.hid hR0
    have hmx : (L.length + 1) * 168 ≤ 140737488355328 := by omega
    have hmx2 : L.length + 1 ≤ maxLen := by unfold maxLen; omega
    clear hR0 h1 h2 h3 h4 h5 h6 h7 hMx hTx hXe hBa hkb hkb0 h2b h3b hMb hTb hBn hG hGx hpre hsb hwa hsz hvs hE0'
    refine wpIn_mono (Q := noPanic R) ?_ (fun e a3 W3 h => (hR.out e a3 W3).1 (noPanic_le _ e a3 W3 h))
    simp only [Act.put]
    subst hva
    gi_upto_region 7 with (first
      | (refine wpListIn_load_row rfl 44 (.tmp 6) rfl X.heap.size 0 rfl ET _ hXr.out Tryz.underlying44 rfl (by rw [hE1.out.2.2]; exact infoEn) ?_)
      | (refine wpListIn_buildSlice_to rfl 47 1 #[(0, .tmp 15)] rfl #[(0, .agg ET.toArray)] (by simp only [List.map_toArray, List.map_cons, List.map_nil]; rfl) (hlit.out _) ?_)
      | (refine wpListIn_append_row rfl (.tmp 14) (.tmp 16) 47 rfl hrw.out i0 _ 168 Tryz.underlying47 hi0 hz0 hz1 hz2 rfl (by omega) rfl ⟨Wb.heap.size, 0, none⟩ 1 ET rfl hE1.out.2.2 (fun j u hj => news_of hna.out j u hj) (fun u hu => by have := hE1.out.2.1; simp only [List.all_toArray, List.all_eq_true] at this; exact this u hu) hmx2 hmx ?_; intro g2 off2 cap2 w4 r1 r2 r3; have hf5 := hfin5.out g2 off2 cap2 w4 r1 r2 r3; obtain ⟨c4, f4⟩ := hin.out w4 r2.out; clear r1 r2 r3))
    clear c4 f4 cbx hin hfin5 hlit hrw hna hmx hmx2
    generalize w4.setCell ⟨w.heap.size + 1 + 1, 0, none⟩ (.slice (some ⟨g2, off2, none⟩) (L.length + 1) cap2) = W5 at *
    have hlb5 := Lib.hid (hf5.out.2.2 _ _ _ hlbB.out (by decide) (.inl (by decide)))
    have hX5 := Lib.hid (hf5.out.2.2 _ _ _ hXb.out (by decide) (.inr rfl))
    have hst5 : Hid (Stay Bx Z W5) := Lib.hid (fun q hq => by
      obtain ⟨cs, ty, e3, e4, -⟩ := hBxt.out q hq
      have h0 := (hstB.out q hq).1
      rw [e3] at h0 ⊢
      exact ⟨hf5.out.2.2 _ _ _ h0 (by rcases e4 with e4 | e4 <;> rw [e4] <;> decide) (.inl (by rcases e4 with e4 | e4 <;> rw [e4] <;> decide)), (hstB.out q hq).2⟩)
    have hl25 := (hst5.out _ hBxm.out.1).1
    have c2 : W5.cell? ⟨w.heap.size, 0, none⟩ = some (.pointer (some ⟨lb, 0, none⟩)) := row_cell hl25 0 rfl
    have hsr : Hid (W5.rangeAt X.heap.size 7 (encSt x.bf)) := Lib.hid (by
      have h0 : W5.rangeAt X.heap.size 0 ET := by have := range_block hX5.out; simpa using this
      have := range_part h0 7 10
      rw [hE3'.out] at this
      simpa using this)
    have hlb6 := hlb5.out
    have hls2 : (encSt x.bf).length = 10 := rfl
    have hon2 := encSt_ones x.bf
    have hfit : 7 + (encSt x.bf).length ≤ (logC v0 W every sv (total ss) (backSt st pre) (backStuck stuck pre)).size := Nat.le_of_ble_eq_true rfl
    obtain ⟨NEW, hNEW0⟩ : ∃ N, ((logC v0 W every sv (total ss) (backSt st pre) (backStuck stuck pre)).toList.take 7 ++ encSt x.bf ++ (logC v0 W every sv (total ss) (backSt st pre) (backStuck stuck pre)).toList.drop (7 + (encSt x.bf).length)).toArray = N := ⟨_, rfl⟩
    have hNEWc : Hid (NEW = logC v0 W every sv (total ss) x.bf (backStuck stuck pre)) := Lib.hid (by rw [← hNEW0]; rfl)
    have hNEW := Lib.hid hNEW0
    clear hNEW0
    gi_wp2_with (first
      | (refine wpListIn_load_row rfl 34 (.tmp 19) rfl X.heap.size 7 rfl (encSt x.bf) _ hsr.out Tryz.underlying34 rfl (by rw [hls2]; exact infoS10) ?_)
      | (refine wpListIn_store_midrow rfl 34 (.tmp 22) (.tmp 20) rfl lb 7 (encSt x.bf) rfl rfl hlb6 hfit hon2 (by rw [hls2]; exact infoS10) hNEW.out ?_))
    have hlb7 : Hid ((W5.setRow lb NEW).heap[lb]? = some (.cells (logC v0 W every sv (total ss) x.bf (backStuck stuck pre)) 71 (0, 0))) := Lib.hid (by rw [← hNEWc.out]; exact setRow_heap hlb5.out)
    have hk6 := Lib.hid (KeptOff.row W5 lb NEW)
    clear c2 hlb6 hfit hNEW hNEWc
    generalize W5.setRow lb NEW = W6 at *
    have hl26 := (hk6.out.block _ (Array.getElem?_eq_some_iff.1 hl25).1 (by omega)).trans hl25
    have hX6 := Lib.hid ((hk6.out.block _ (Array.getElem?_eq_some_iff.1 hX5.out).1 (fun e => by
      have h0 := hX5.out
      rw [e, hlb5.out] at h0
      simp at h0)).trans hX5.out)
    have hHd : W6.drew.cell? ⟨w.heap.size, 0, none⟩ = some (.pointer (some ⟨lb, 0, none⟩)) ∧ W6.drew.cell? ⟨lb, 17, none⟩ = some (.bool (backStuck stuck pre)) ∧ W6.drew.cell? ⟨X.heap.size, 17, none⟩ = some (.int .i64 x.fl) := ⟨row_cell hl26 0 rfl, row_cell hlb7.out 17 rfl, row_cell hX6.out 17 (by simpa using hE2'.out)⟩
    have c17 : W6.drew.cell? ⟨lb, 17, none⟩ = some (.bool (backStuck stuck pre)) := hHd.2.1
    have f17 : W6.drew.frozen? ⟨lb, 17, none⟩ = false := frozen_of_cells hlb7.out
    have hfin : Hid (∀ b', b' = (backStuck stuck pre && (x.fl == 0)) → ∀ a3, R .normal a3 (W6.drew.setCell ⟨lb, 17, none⟩ (.bool b'))) := Lib.hid (fun b' hb' a3 => (hR.out _ _ _).2 (by
      have hks := KeptOff.set W6.drew ⟨lb, 17, none⟩ (.bool b')
      have hkd : KeptOff (fun k => k = lb) W6 W6.drew := ⟨rfl, rfl, rfl, Nat.le_refl _, fun _ _ _ => rfl⟩
      have hk59 : KeptOff (fun k => k = lb) W5 (W6.drew.setCell ⟨lb, 17, none⟩ (.bool b')) := (hk6.out.trans hkd).trans hks
      have hlbn : ¬ Z lb ∧ ¬ HB b (w.heap.size + 1 + 1 + 1) (w.heap.size + 1 + 1 + 1 + 1) v0 sv ss lb := ⟨fun e => by have := h8 lb e; omega, fun e => (hHlt.out lb e).2.1 rfl⟩
      refine ⟨(hf5.out.2.1.mono (fun k _ e => ⟨e.1, e.2.1⟩)).trans (hk59.mono (fun k _ e => by subst e; exact hlbn)), ?_, ?_, ?_, hlbw, ?_⟩
      · exact hf5.out.1.other (e := 71) hk59 (fun k e => ⟨_, by subst e; exact hlb5.out⟩) (by decide) (by decide) (by decide)
      · rw [Go.heap_setCell_same W6.drew lb 17 _ _ _ hlb7.out, logC_stuck, backSt_snoc, backStuck_snoc, hb']
      · exact (hkB.out.then_new hf5.out.2.1 (fun k hk e => by have := e.2.2; omega)).trans hk59
      · intro q hq
        have h0 := hst5.out q hq
        obtain ⟨cs, ty, e3, e4, e5⟩ := hBxt.out q hq
        exact ⟨(hk59.block _ (Array.getElem?_eq_some_iff.1 h0.1).1 (by omega)).trans h0.1, fun e => h0.2 e.1⟩))
    clear hl26 hX6 hlb7 hk6 hl25 hst5 hX5 hlb5 hf5 hR hkB hstB hXb hsr hE1 hE2' hE3' hlbB hstX hlbX hkX hXr hxBx hxl
    generalize backStuck stuck pre = bP at *
    generalize x.fl = xf at *
    obtain rfl | rfl : bP = false ∨ bP = true := by cases bP <;> simp
    · skip
      refine wpIn_region_Y (fun w' => w'.cell? ⟨w.heap.size, 0, none⟩ = some (.pointer (some ⟨lb, 0, none⟩)) ∧ w'.cell? ⟨lb, 17, none⟩ = some (.bool false) ∧ w'.cell? ⟨X.heap.size, 17, none⟩ = some (.int .i64 xf)) 12 (by kernel_rfl) ?_
      refine wpAnyY_load (i := 0) (oi := { dst := some 23, op := Op.load 28 (Operand.tmp 2), type := 28, pos := "log.go:160", after := #[], guard := none }) (v := ?yv0_1) rfl (by kernel_rfl) (by kernel_rfl) (by kernel_rfl) (by kernel_rfl) (fun _ _ _ h => h) (by decide) (by kernel_rfl) (by kernel_rfl) (Or.inl ⟨by rfl, ?yy0_1⟩) hHd ?yrest0_1
      case yy0_1 =>
        intro w hSw
        have c := hSw.1
        go_simp
        try with_reducible rfl
      try simp only [Act.put, List.setIfInBounds_toArray, List.set_cons_zero, List.set_cons_succ]
      refine wpAnyY_load (i := 1) (oi := { dst := some 24, op := Op.load 28 (Operand.tmp 2), type := 28, pos := "log.go:160", after := #[], guard := none }) (v := ?yv1_2) rfl (by kernel_rfl) (by kernel_rfl) (by kernel_rfl) (by kernel_rfl) (fun _ _ _ h => h) (by decide) (by kernel_rfl) (by kernel_rfl) (Or.inl ⟨by rfl, ?yy1_2⟩) hHd ?yrest1_2
      case yy1_2 =>
        intro w hSw
        have c := hSw.1
        go_simp
        try with_reducible rfl
      try simp only [Act.put, List.setIfInBounds_toArray, List.set_cons_zero, List.set_cons_succ]
      refine wpAnyY_take (i := 2) (oi := { dst := some 25, op := Op.nilCheck (Operand.tmp 24), type := 0, pos := "log.go:160", after := #[{ on := 1, ground := Ground.data }], guard := none }) (v := ?yv2_3) rfl (by kernel_rfl) (by kernel_rfl) (by kernel_rfl) (by kernel_rfl) (fun _ _ _ h => h) (by decide) (Or.inl ⟨by rfl, ?yy2_3⟩) (fun _ => hHd) ?yrest2_3
      case yy2_3 =>
        intro w _
        go_simp
        try with_reducible rfl
      try simp only [Act.put, List.setIfInBounds_toArray, List.set_cons_zero, List.set_cons_succ]
      refine wpAnyY_take (i := 3) (oi := { dst := some 26, op := Op.fieldAddr 71 (Operand.tmp 25) 5, type := 0, pos := "log.go:160", after := #[{ on := 2, ground := Ground.data }], guard := none }) (v := ?yv3_4) rfl (by kernel_rfl) (by kernel_rfl) (by kernel_rfl) (by kernel_rfl) (fun _ _ _ h => h) (by decide) (Or.inl ⟨by rfl, ?yy3_4⟩) (fun _ => hHd) ?yrest3_4
      case yy3_4 =>
        intro w _
        go_simp
        try with_reducible rfl
      try simp only [Act.put, List.setIfInBounds_toArray, List.set_cons_zero, List.set_cons_succ]
      refine wpAnyY_load (i := 4) (oi := { dst := some 27, op := Op.load 4 (Operand.tmp 26), type := 4, pos := "log.go:160", after := #[{ on := 3, ground := Ground.data }], guard := none }) (v := ?yv4_5) rfl (by kernel_rfl) (by kernel_rfl) (by kernel_rfl) (by kernel_rfl) (fun _ _ _ h => h) (by decide) (by kernel_rfl) (by kernel_rfl) (Or.inl ⟨by rfl, ?yy4_5⟩) hHd ?yrest4_5
      case yy4_5 =>
        intro w hSw
        have c := hSw.2.1
        go_simp
        try with_reducible rfl
      try simp only [Act.put, List.setIfInBounds_toArray, List.set_cons_zero, List.set_cons_succ]
      refine wpAnyY_take (i := 5) (oi := { dst := some 28, op := Op.move (Operand.tmp 27), type := 4, pos := "log.go:160", after := #[{ on := 4, ground := Ground.data }], guard := none }) (v := ?yv5_6) rfl (by kernel_rfl) (by kernel_rfl) (by kernel_rfl) (by kernel_rfl) (fun _ _ _ h => h) (by decide) (Or.inl ⟨by rfl, ?yy5_6⟩) (fun _ => hHd) ?yrest5_6
      case yy5_6 =>
        intro w _
        go_simp
        try with_reducible rfl
      try simp only [Act.put, List.setIfInBounds_toArray, List.set_cons_zero, List.set_cons_succ]
      refine wpAnyY_take (i := 6) (oi := { dst := some 29, op := Op.fieldAddr 44 (Operand.tmp 6) 2, type := 0, pos := "log.go:160", after := #[{ on := 5, ground := Ground.guard }], guard := some (5, true) }) (v := undef) rfl (by kernel_rfl) (by kernel_rfl) (by kernel_rfl) (by kernel_rfl) (fun _ _ _ h => h) (by decide) (Or.inr ⟨by rfl, rfl⟩) (fun _ => hHd) ?_
      try simp only [Act.put, List.setIfInBounds_toArray, List.set_cons_zero, List.set_cons_succ]
      refine wpAnyY_take (i := 7) (oi := { dst := some 30, op := Op.load 29 (Operand.tmp 29), type := 29, pos := "log.go:160", after := #[{ on := 6, ground := Ground.data }, { on := 5, ground := Ground.guard }], guard := some (5, true) }) (v := undef) rfl (by kernel_rfl) (by kernel_rfl) (by kernel_rfl) (by kernel_rfl) (fun _ _ _ h => h) (by decide) (Or.inr ⟨by rfl, rfl⟩) (fun _ => hHd) ?_
      try simp only [Act.put, List.setIfInBounds_toArray, List.set_cons_zero, List.set_cons_succ]
      refine wpAnyY_take (i := 8) (oi := { dst := some 31, op := Op.binOp BinOp.eql 29 (Operand.tmp 30) (Operand.const (Value.int IntKind.i64 0)) 29, type := 4, pos := "log.go:160", after := #[{ on := 7, ground := Ground.data }, { on := 5, ground := Ground.guard }], guard := some (5, true) }) (v := undef) rfl (by kernel_rfl) (by kernel_rfl) (by kernel_rfl) (by kernel_rfl) (fun _ _ _ h => h) (by decide) (Or.inr ⟨by rfl, rfl⟩) (fun _ => hHd) ?_
      try simp only [Act.put, List.setIfInBounds_toArray, List.set_cons_zero, List.set_cons_succ]
      refine wpAnyY_take (i := 9) (oi := { dst := some 32, op := Op.pick (Operand.tmp 28) (Operand.tmp 31) (Operand.const (Value.bool false)), type := 4, pos := "log.go:160", after := #[{ on := 5, ground := Ground.data }, { on := 8, ground := Ground.data }], guard := none }) (v := ?yv9_7) rfl (by kernel_rfl) (by kernel_rfl) (by kernel_rfl) (by kernel_rfl) (fun _ _ _ h => h) (by decide) (Or.inl ⟨by rfl, ?yy9_7⟩) (fun _ => hHd) ?yrest9_7
      case yy9_7 =>
        intro w _
        go_simp
        try with_reducible rfl
      try simp only [Act.put, List.setIfInBounds_toArray, List.set_cons_zero, List.set_cons_succ]
      refine wpAnyY_take (i := 10) (oi := { dst := some 33, op := Op.nilCheck (Operand.tmp 23), type := 0, pos := "log.go:160", after := #[{ on := 0, ground := Ground.data }, { on := 0, ground := Ground.phase }, { on := 1, ground := Ground.phase }, { on := 2, ground := Ground.phase }, { on := 3, ground := Ground.phase }, { on := 4, ground := Ground.phase }, { on := 5, ground := Ground.phase }, { on := 6, ground := Ground.phase }, { on := 7, ground := Ground.phase }, { on := 8, ground := Ground.phase }, { on := 9, ground := Ground.phase }], guard := none }) (v := ?yv10_8) rfl (by kernel_rfl) (by kernel_rfl) (by kernel_rfl) (by kernel_rfl) (fun _ _ _ h => h) (by decide) (Or.inl ⟨by rfl, ?yy10_8⟩) (fun _ => hHd) ?yrest10_8
      case yy10_8 =>
        intro w _
        go_simp
        try with_reducible rfl
      try simp only [Act.put, List.setIfInBounds_toArray, List.set_cons_zero, List.set_cons_succ]
      refine wpAnyY_take (i := 11) (oi := { dst := some 34, op := Op.fieldAddr 71 (Operand.tmp 33) 5, type := 0, pos := "log.go:160", after := #[{ on := 10, ground := Ground.data }, { on := 0, ground := Ground.phase }, { on := 1, ground := Ground.phase }, { on := 2, ground := Ground.phase }, { on := 3, ground := Ground.phase }, { on := 4, ground := Ground.phase }, { on := 5, ground := Ground.phase }, { on := 6, ground := Ground.phase }, { on := 7, ground := Ground.phase }, { on := 8, ground := Ground.phase }, { on := 9, ground := Ground.phase }], guard := none }) (v := ?yv11_9) rfl (by kernel_rfl) (by kernel_rfl) (by kernel_rfl) (by kernel_rfl) (fun _ _ _ h => h) (by decide) (Or.inl ⟨by rfl, ?yy11_9⟩) (fun _ => hHd) ?yrest11_9
      case yy11_9 =>
        intro w _
        go_simp
        try with_reducible rfl
      try simp only [Act.put, List.setIfInBounds_toArray, List.set_cons_zero, List.set_cons_succ]
      refine wpAnyY_store (o := { dst := none, op := Op.store 4 (Operand.tmp 34) (Operand.tmp 32), type := 0, pos := "log.go:160", after := #[{ on := 11, ground := Ground.data }, { on := 9, ground := Ground.data }, { on := 5, ground := Ground.chain }, { on := 0, ground := Ground.phase }, { on := 1, ground := Ground.phase }, { on := 2, ground := Ground.phase }, { on := 3, ground := Ground.phase }, { on := 4, ground := Ground.phase }, { on := 5, ground := Ground.phase }, { on := 6, ground := Ground.phase }, { on := 7, ground := Ground.phase }, { on := 8, ground := Ground.phase }, { on := 9, ground := Ground.phase }], guard := none }) (w' := W6.drew.setCell ⟨lb, 17, none⟩ (.bool false)) (by kernel_rfl) rfl (fun c e => by cases e) (by rfl) (by go_simp) ?_
      try simp only [Act.put, List.setIfInBounds_toArray, List.set_cons_zero, List.set_cons_succ]
      refine wpAnyY_done (by kernel_rfl) ?_ _
      have hf := hfin.out false (by simp)
      exact hf _
    · by_cases hxf : xf = 0
      · have hxfb : (xf == 0) = true := by simpa using hxf
        refine wpIn_region_Y (fun w' => w'.cell? ⟨w.heap.size, 0, none⟩ = some (.pointer (some ⟨lb, 0, none⟩)) ∧ w'.cell? ⟨lb, 17, none⟩ = some (.bool true) ∧ w'.cell? ⟨X.heap.size, 17, none⟩ = some (.int .i64 xf)) 12 (by kernel_rfl) ?_
        refine wpAnyY_load (i := 0) (oi := { dst := some 23, op := Op.load 28 (Operand.tmp 2), type := 28, pos := "log.go:160", after := #[], guard := none }) (v := ?yv0_10) rfl (by kernel_rfl) (by kernel_rfl) (by kernel_rfl) (by kernel_rfl) (fun _ _ _ h => h) (by decide) (by kernel_rfl) (by kernel_rfl) (Or.inl ⟨by rfl, ?yy0_10⟩) hHd ?yrest0_10
        case yy0_10 =>
          intro w hSw
          have c := hSw.1
          go_simp
          try with_reducible rfl
        try simp only [Act.put, List.setIfInBounds_toArray, List.set_cons_zero, List.set_cons_succ]
        refine wpAnyY_load (i := 1) (oi := { dst := some 24, op := Op.load 28 (Operand.tmp 2), type := 28, pos := "log.go:160", after := #[], guard := none }) (v := ?yv1_11) rfl (by kernel_rfl) (by kernel_rfl) (by kernel_rfl) (by kernel_rfl) (fun _ _ _ h => h) (by decide) (by kernel_rfl) (by kernel_rfl) (Or.inl ⟨by rfl, ?yy1_11⟩) hHd ?yrest1_11
        case yy1_11 =>
          intro w hSw
          have c := hSw.1
          go_simp
          try with_reducible rfl
        try simp only [Act.put, List.setIfInBounds_toArray, List.set_cons_zero, List.set_cons_succ]
        refine wpAnyY_take (i := 2) (oi := { dst := some 25, op := Op.nilCheck (Operand.tmp 24), type := 0, pos := "log.go:160", after := #[{ on := 1, ground := Ground.data }], guard := none }) (v := ?yv2_12) rfl (by kernel_rfl) (by kernel_rfl) (by kernel_rfl) (by kernel_rfl) (fun _ _ _ h => h) (by decide) (Or.inl ⟨by rfl, ?yy2_12⟩) (fun _ => hHd) ?yrest2_12
        case yy2_12 =>
          intro w _
          go_simp
          try with_reducible rfl
        try simp only [Act.put, List.setIfInBounds_toArray, List.set_cons_zero, List.set_cons_succ]
        refine wpAnyY_take (i := 3) (oi := { dst := some 26, op := Op.fieldAddr 71 (Operand.tmp 25) 5, type := 0, pos := "log.go:160", after := #[{ on := 2, ground := Ground.data }], guard := none }) (v := ?yv3_13) rfl (by kernel_rfl) (by kernel_rfl) (by kernel_rfl) (by kernel_rfl) (fun _ _ _ h => h) (by decide) (Or.inl ⟨by rfl, ?yy3_13⟩) (fun _ => hHd) ?yrest3_13
        case yy3_13 =>
          intro w _
          go_simp
          try with_reducible rfl
        try simp only [Act.put, List.setIfInBounds_toArray, List.set_cons_zero, List.set_cons_succ]
        refine wpAnyY_load (i := 4) (oi := { dst := some 27, op := Op.load 4 (Operand.tmp 26), type := 4, pos := "log.go:160", after := #[{ on := 3, ground := Ground.data }], guard := none }) (v := ?yv4_14) rfl (by kernel_rfl) (by kernel_rfl) (by kernel_rfl) (by kernel_rfl) (fun _ _ _ h => h) (by decide) (by kernel_rfl) (by kernel_rfl) (Or.inl ⟨by rfl, ?yy4_14⟩) hHd ?yrest4_14
        case yy4_14 =>
          intro w hSw
          have c := hSw.2.1
          go_simp
          try with_reducible rfl
        try simp only [Act.put, List.setIfInBounds_toArray, List.set_cons_zero, List.set_cons_succ]
        refine wpAnyY_take (i := 5) (oi := { dst := some 28, op := Op.move (Operand.tmp 27), type := 4, pos := "log.go:160", after := #[{ on := 4, ground := Ground.data }], guard := none }) (v := ?yv5_15) rfl (by kernel_rfl) (by kernel_rfl) (by kernel_rfl) (by kernel_rfl) (fun _ _ _ h => h) (by decide) (Or.inl ⟨by rfl, ?yy5_15⟩) (fun _ => hHd) ?yrest5_15
        case yy5_15 =>
          intro w _
          go_simp
          try with_reducible rfl
        try simp only [Act.put, List.setIfInBounds_toArray, List.set_cons_zero, List.set_cons_succ]
        refine wpAnyY_take (i := 6) (oi := { dst := some 29, op := Op.fieldAddr 44 (Operand.tmp 6) 2, type := 0, pos := "log.go:160", after := #[{ on := 5, ground := Ground.guard }], guard := some (5, true) }) (v := ?yv6_16) rfl (by kernel_rfl) (by kernel_rfl) (by kernel_rfl) (by kernel_rfl) (fun _ _ _ h => h) (by decide) (Or.inl ⟨by rfl, ?yy6_16⟩) (fun _ => hHd) ?yrest6_16
        case yy6_16 =>
          intro w _
          go_simp
          try with_reducible rfl
        try simp only [Act.put, List.setIfInBounds_toArray, List.set_cons_zero, List.set_cons_succ]
        refine wpAnyY_load (i := 7) (oi := { dst := some 30, op := Op.load 29 (Operand.tmp 29), type := 29, pos := "log.go:160", after := #[{ on := 6, ground := Ground.data }, { on := 5, ground := Ground.guard }], guard := some (5, true) }) (v := ?yv7_17) rfl (by kernel_rfl) (by kernel_rfl) (by kernel_rfl) (by kernel_rfl) (fun _ _ _ h => h) (by decide) (by kernel_rfl) (by kernel_rfl) (Or.inl ⟨by rfl, ?yy7_17⟩) hHd ?yrest7_17
        case yy7_17 =>
          intro w hSw
          have c := hSw.2.2
          go_simp
          try with_reducible rfl
        try simp only [Act.put, List.setIfInBounds_toArray, List.set_cons_zero, List.set_cons_succ]
        refine wpAnyY_take (i := 8) (oi := { dst := some 31, op := Op.binOp BinOp.eql 29 (Operand.tmp 30) (Operand.const (Value.int IntKind.i64 0)) 29, type := 4, pos := "log.go:160", after := #[{ on := 7, ground := Ground.data }, { on := 5, ground := Ground.guard }], guard := some (5, true) }) (v := ?yv8_18) rfl (by kernel_rfl) (by kernel_rfl) (by kernel_rfl) (by kernel_rfl) (fun _ _ _ h => h) (by decide) (Or.inl ⟨by rfl, ?yy8_18⟩) (fun _ => hHd) ?yrest8_18
        case yy8_18 =>
          intro w _
          go_simp
          try with_reducible rfl
        try simp only [Act.put, List.setIfInBounds_toArray, List.set_cons_zero, List.set_cons_succ]
        refine wpAnyY_take (i := 9) (oi := { dst := some 32, op := Op.pick (Operand.tmp 28) (Operand.tmp 31) (Operand.const (Value.bool false)), type := 4, pos := "log.go:160", after := #[{ on := 5, ground := Ground.data }, { on := 8, ground := Ground.data }], guard := none }) (v := ?yv9_19) rfl (by kernel_rfl) (by kernel_rfl) (by kernel_rfl) (by kernel_rfl) (fun _ _ _ h => h) (by decide) (Or.inl ⟨by rfl, ?yy9_19⟩) (fun _ => hHd) ?yrest9_19
        case yy9_19 =>
          intro w _
          go_simp
          try with_reducible rfl
        try simp only [Act.put, List.setIfInBounds_toArray, List.set_cons_zero, List.set_cons_succ]
        refine wpAnyY_take (i := 10) (oi := { dst := some 33, op := Op.nilCheck (Operand.tmp 23), type := 0, pos := "log.go:160", after := #[{ on := 0, ground := Ground.data }, { on := 0, ground := Ground.phase }, { on := 1, ground := Ground.phase }, { on := 2, ground := Ground.phase }, { on := 3, ground := Ground.phase }, { on := 4, ground := Ground.phase }, { on := 5, ground := Ground.phase }, { on := 6, ground := Ground.phase }, { on := 7, ground := Ground.phase }, { on := 8, ground := Ground.phase }, { on := 9, ground := Ground.phase }], guard := none }) (v := ?yv10_20) rfl (by kernel_rfl) (by kernel_rfl) (by kernel_rfl) (by kernel_rfl) (fun _ _ _ h => h) (by decide) (Or.inl ⟨by rfl, ?yy10_20⟩) (fun _ => hHd) ?yrest10_20
        case yy10_20 =>
          intro w _
          go_simp
          try with_reducible rfl
        try simp only [Act.put, List.setIfInBounds_toArray, List.set_cons_zero, List.set_cons_succ]
        refine wpAnyY_take (i := 11) (oi := { dst := some 34, op := Op.fieldAddr 71 (Operand.tmp 33) 5, type := 0, pos := "log.go:160", after := #[{ on := 10, ground := Ground.data }, { on := 0, ground := Ground.phase }, { on := 1, ground := Ground.phase }, { on := 2, ground := Ground.phase }, { on := 3, ground := Ground.phase }, { on := 4, ground := Ground.phase }, { on := 5, ground := Ground.phase }, { on := 6, ground := Ground.phase }, { on := 7, ground := Ground.phase }, { on := 8, ground := Ground.phase }, { on := 9, ground := Ground.phase }], guard := none }) (v := ?yv11_21) rfl (by kernel_rfl) (by kernel_rfl) (by kernel_rfl) (by kernel_rfl) (fun _ _ _ h => h) (by decide) (Or.inl ⟨by rfl, ?yy11_21⟩) (fun _ => hHd) ?yrest11_21
        case yy11_21 =>
          intro w _
          go_simp
          try with_reducible rfl
        try simp only [Act.put, List.setIfInBounds_toArray, List.set_cons_zero, List.set_cons_succ]
        refine wpAnyY_store (o := { dst := none, op := Op.store 4 (Operand.tmp 34) (Operand.tmp 32), type := 0, pos := "log.go:160", after := #[{ on := 11, ground := Ground.data }, { on := 9, ground := Ground.data }, { on := 5, ground := Ground.chain }, { on := 0, ground := Ground.phase }, { on := 1, ground := Ground.phase }, { on := 2, ground := Ground.phase }, { on := 3, ground := Ground.phase }, { on := 4, ground := Ground.phase }, { on := 5, ground := Ground.phase }, { on := 6, ground := Ground.phase }, { on := 7, ground := Ground.phase }, { on := 8, ground := Ground.phase }, { on := 9, ground := Ground.phase }], guard := none }) (w' := W6.drew.setCell ⟨lb, 17, none⟩ (.bool true)) (by kernel_rfl) rfl (fun c e => by cases e) (by rfl) (by go_simp) ?_
        try simp only [Act.put, List.setIfInBounds_toArray, List.set_cons_zero, List.set_cons_succ]
        refine wpAnyY_done (by kernel_rfl) ?_ _
        have hf := hfin.out true (by simp [hxf])
        exact hf _
      · have hxfb : (xf == 0) = false := by simpa using hxf
        refine wpIn_region_Y (fun w' => w'.cell? ⟨w.heap.size, 0, none⟩ = some (.pointer (some ⟨lb, 0, none⟩)) ∧ w'.cell? ⟨lb, 17, none⟩ = some (.bool true) ∧ w'.cell? ⟨X.heap.size, 17, none⟩ = some (.int .i64 xf)) 12 (by kernel_rfl) ?_
        refine wpAnyY_load (i := 0) (oi := { dst := some 23, op := Op.load 28 (Operand.tmp 2), type := 28, pos := "log.go:160", after := #[], guard := none }) (v := ?yv0_22) rfl (by kernel_rfl) (by kernel_rfl) (by kernel_rfl) (by kernel_rfl) (fun _ _ _ h => h) (by decide) (by kernel_rfl) (by kernel_rfl) (Or.inl ⟨by rfl, ?yy0_22⟩) hHd ?yrest0_22
        case yy0_22 =>
          intro w hSw
          have c := hSw.1
          go_simp
          try with_reducible rfl
        try simp only [Act.put, List.setIfInBounds_toArray, List.set_cons_zero, List.set_cons_succ]
        refine wpAnyY_load (i := 1) (oi := { dst := some 24, op := Op.load 28 (Operand.tmp 2), type := 28, pos := "log.go:160", after := #[], guard := none }) (v := ?yv1_23) rfl (by kernel_rfl) (by kernel_rfl) (by kernel_rfl) (by kernel_rfl) (fun _ _ _ h => h) (by decide) (by kernel_rfl) (by kernel_rfl) (Or.inl ⟨by rfl, ?yy1_23⟩) hHd ?yrest1_23
        case yy1_23 =>
          intro w hSw
          have c := hSw.1
          go_simp
          try with_reducible rfl
        try simp only [Act.put, List.setIfInBounds_toArray, List.set_cons_zero, List.set_cons_succ]
        refine wpAnyY_take (i := 2) (oi := { dst := some 25, op := Op.nilCheck (Operand.tmp 24), type := 0, pos := "log.go:160", after := #[{ on := 1, ground := Ground.data }], guard := none }) (v := ?yv2_24) rfl (by kernel_rfl) (by kernel_rfl) (by kernel_rfl) (by kernel_rfl) (fun _ _ _ h => h) (by decide) (Or.inl ⟨by rfl, ?yy2_24⟩) (fun _ => hHd) ?yrest2_24
        case yy2_24 =>
          intro w _
          go_simp
          try with_reducible rfl
        try simp only [Act.put, List.setIfInBounds_toArray, List.set_cons_zero, List.set_cons_succ]
        refine wpAnyY_take (i := 3) (oi := { dst := some 26, op := Op.fieldAddr 71 (Operand.tmp 25) 5, type := 0, pos := "log.go:160", after := #[{ on := 2, ground := Ground.data }], guard := none }) (v := ?yv3_25) rfl (by kernel_rfl) (by kernel_rfl) (by kernel_rfl) (by kernel_rfl) (fun _ _ _ h => h) (by decide) (Or.inl ⟨by rfl, ?yy3_25⟩) (fun _ => hHd) ?yrest3_25
        case yy3_25 =>
          intro w _
          go_simp
          try with_reducible rfl
        try simp only [Act.put, List.setIfInBounds_toArray, List.set_cons_zero, List.set_cons_succ]
        refine wpAnyY_load (i := 4) (oi := { dst := some 27, op := Op.load 4 (Operand.tmp 26), type := 4, pos := "log.go:160", after := #[{ on := 3, ground := Ground.data }], guard := none }) (v := ?yv4_26) rfl (by kernel_rfl) (by kernel_rfl) (by kernel_rfl) (by kernel_rfl) (fun _ _ _ h => h) (by decide) (by kernel_rfl) (by kernel_rfl) (Or.inl ⟨by rfl, ?yy4_26⟩) hHd ?yrest4_26
        case yy4_26 =>
          intro w hSw
          have c := hSw.2.1
          go_simp
          try with_reducible rfl
        try simp only [Act.put, List.setIfInBounds_toArray, List.set_cons_zero, List.set_cons_succ]
        refine wpAnyY_take (i := 5) (oi := { dst := some 28, op := Op.move (Operand.tmp 27), type := 4, pos := "log.go:160", after := #[{ on := 4, ground := Ground.data }], guard := none }) (v := ?yv5_27) rfl (by kernel_rfl) (by kernel_rfl) (by kernel_rfl) (by kernel_rfl) (fun _ _ _ h => h) (by decide) (Or.inl ⟨by rfl, ?yy5_27⟩) (fun _ => hHd) ?yrest5_27
        case yy5_27 =>
          intro w _
          go_simp
          try with_reducible rfl
        try simp only [Act.put, List.setIfInBounds_toArray, List.set_cons_zero, List.set_cons_succ]
        refine wpAnyY_take (i := 6) (oi := { dst := some 29, op := Op.fieldAddr 44 (Operand.tmp 6) 2, type := 0, pos := "log.go:160", after := #[{ on := 5, ground := Ground.guard }], guard := some (5, true) }) (v := ?yv6_28) rfl (by kernel_rfl) (by kernel_rfl) (by kernel_rfl) (by kernel_rfl) (fun _ _ _ h => h) (by decide) (Or.inl ⟨by rfl, ?yy6_28⟩) (fun _ => hHd) ?yrest6_28
        case yy6_28 =>
          intro w _
          go_simp
          try with_reducible rfl
        try simp only [Act.put, List.setIfInBounds_toArray, List.set_cons_zero, List.set_cons_succ]
        refine wpAnyY_load (i := 7) (oi := { dst := some 30, op := Op.load 29 (Operand.tmp 29), type := 29, pos := "log.go:160", after := #[{ on := 6, ground := Ground.data }, { on := 5, ground := Ground.guard }], guard := some (5, true) }) (v := ?yv7_29) rfl (by kernel_rfl) (by kernel_rfl) (by kernel_rfl) (by kernel_rfl) (fun _ _ _ h => h) (by decide) (by kernel_rfl) (by kernel_rfl) (Or.inl ⟨by rfl, ?yy7_29⟩) hHd ?yrest7_29
        case yy7_29 =>
          intro w hSw
          have c := hSw.2.2
          go_simp
          try with_reducible rfl
        try simp only [Act.put, List.setIfInBounds_toArray, List.set_cons_zero, List.set_cons_succ]
        refine wpAnyY_take (i := 8) (oi := { dst := some 31, op := Op.binOp BinOp.eql 29 (Operand.tmp 30) (Operand.const (Value.int IntKind.i64 0)) 29, type := 4, pos := "log.go:160", after := #[{ on := 7, ground := Ground.data }, { on := 5, ground := Ground.guard }], guard := some (5, true) }) (v := ?yv8_30) rfl (by kernel_rfl) (by kernel_rfl) (by kernel_rfl) (by kernel_rfl) (fun _ _ _ h => h) (by decide) (Or.inl ⟨by rfl, ?yy8_30⟩) (fun _ => hHd) ?yrest8_30
        case yy8_30 =>
          intro w _
          go_simp
          try with_reducible rfl
        try simp only [Act.put, List.setIfInBounds_toArray, List.set_cons_zero, List.set_cons_succ]
        refine wpAnyY_take (i := 9) (oi := { dst := some 32, op := Op.pick (Operand.tmp 28) (Operand.tmp 31) (Operand.const (Value.bool false)), type := 4, pos := "log.go:160", after := #[{ on := 5, ground := Ground.data }, { on := 8, ground := Ground.data }], guard := none }) (v := ?yv9_31) rfl (by kernel_rfl) (by kernel_rfl) (by kernel_rfl) (by kernel_rfl) (fun _ _ _ h => h) (by decide) (Or.inl ⟨by rfl, ?yy9_31⟩) (fun _ => hHd) ?yrest9_31
        case yy9_31 =>
          intro w _
          go_simp
          try with_reducible rfl
        try simp only [Act.put, List.setIfInBounds_toArray, List.set_cons_zero, List.set_cons_succ]
        refine wpAnyY_take (i := 10) (oi := { dst := some 33, op := Op.nilCheck (Operand.tmp 23), type := 0, pos := "log.go:160", after := #[{ on := 0, ground := Ground.data }, { on := 0, ground := Ground.phase }, { on := 1, ground := Ground.phase }, { on := 2, ground := Ground.phase }, { on := 3, ground := Ground.phase }, { on := 4, ground := Ground.phase }, { on := 5, ground := Ground.phase }, { on := 6, ground := Ground.phase }, { on := 7, ground := Ground.phase }, { on := 8, ground := Ground.phase }, { on := 9, ground := Ground.phase }], guard := none }) (v := ?yv10_32) rfl (by kernel_rfl) (by kernel_rfl) (by kernel_rfl) (by kernel_rfl) (fun _ _ _ h => h) (by decide) (Or.inl ⟨by rfl, ?yy10_32⟩) (fun _ => hHd) ?yrest10_32
        case yy10_32 =>
          intro w _
          go_simp
          try with_reducible rfl
        try simp only [Act.put, List.setIfInBounds_toArray, List.set_cons_zero, List.set_cons_succ]
        refine wpAnyY_take (i := 11) (oi := { dst := some 34, op := Op.fieldAddr 71 (Operand.tmp 33) 5, type := 0, pos := "log.go:160", after := #[{ on := 10, ground := Ground.data }, { on := 0, ground := Ground.phase }, { on := 1, ground := Ground.phase }, { on := 2, ground := Ground.phase }, { on := 3, ground := Ground.phase }, { on := 4, ground := Ground.phase }, { on := 5, ground := Ground.phase }, { on := 6, ground := Ground.phase }, { on := 7, ground := Ground.phase }, { on := 8, ground := Ground.phase }, { on := 9, ground := Ground.phase }], guard := none }) (v := ?yv11_33) rfl (by kernel_rfl) (by kernel_rfl) (by kernel_rfl) (by kernel_rfl) (fun _ _ _ h => h) (by decide) (Or.inl ⟨by rfl, ?yy11_33⟩) (fun _ => hHd) ?yrest11_33
        case yy11_33 =>
          intro w _
          go_simp
          try with_reducible rfl
        try simp only [Act.put, List.setIfInBounds_toArray, List.set_cons_zero, List.set_cons_succ]
        refine wpAnyY_store (o := { dst := none, op := Op.store 4 (Operand.tmp 34) (Operand.tmp 32), type := 0, pos := "log.go:160", after := #[{ on := 11, ground := Ground.data }, { on := 9, ground := Ground.data }, { on := 5, ground := Ground.chain }, { on := 0, ground := Ground.phase }, { on := 1, ground := Ground.phase }, { on := 2, ground := Ground.phase }, { on := 3, ground := Ground.phase }, { on := 4, ground := Ground.phase }, { on := 5, ground := Ground.phase }, { on := 6, ground := Ground.phase }, { on := 7, ground := Ground.phase }, { on := 8, ground := Ground.phase }, { on := 9, ground := Ground.phase }], guard := none }) (w' := W6.drew.setCell ⟨lb, 17, none⟩ (.bool false)) (by kernel_rfl) rfl (fun c e => by cases e) (by rfl) (by go_simp) ?_
        try simp only [Act.put, List.setIfInBounds_toArray, List.set_cons_zero, List.set_cons_succ]
        refine wpAnyY_done (by kernel_rfl) ?_ _
        have hf := hfin.out false (by simp [hxf])
        exact hf _
  case done =>
    intro D Zf W2 hD hZfD hI hdef0
    obtain ⟨⟨v, L, h1, h2a, h3a, h4, h5, h6, h7, h8⟩, hlb0, hk0, -, hst0⟩ := hI
    have h2 := Lib.hid h2a
    have h3 := Lib.hid h3a
    have hdef := Lib.hid hdef0
    have hk2 := Lib.hid hk0
    have hst2 := Lib.hid hst0
    have hDw : w.heap.size ≤ D := by have := hs5'.out; omega
    have hXW : Hid (LogX W2 lb v0 W every sv ss (total ss) (backSt st T) (backStuck stuck T)) := Lib.hid ⟨hlb0, h'.out.of.rd.keptLb h'.out.of.row hk0, h'.out.of.x.apart⟩
    have hLl : L.length = total ss - p := by rw [← hTl, ← h1.1]; simp
    obtain ⟨va, vc, hva, -⟩ := RowAt.shape h3.out.1
    have hend2 := hend.out W2 _ _ hXW.out
    have c2 : W2.cell? ⟨w.heap.size, 0, none⟩ = some (.pointer (some ⟨lb, 0, none⟩)) := row_cell (hst2.out _ hBxm.out.1).1 0 rfl
    have hmr : Hid (W2.rangeAt (w.heap.size + 1) 0 ML) := Lib.hid (by
      have := range_block (hst2.out _ hBxm.out.2.1).1
      simpa using this)
    have hlo : ∀ k, LOwn lb sv ss k → k < w.heap.size := fun k hk => h'.out.of.x.own_lt k hk
    have h1' := Lib.hid h1
    have hp32 : p ≤ 1000 := by omega
    clear h2a h3a hdef0 hk0 hst0 hlb0 h1 hg hI0 hend
    dsimp only [Exit.inBlock, Exit.then]
    go_wp2_with (first
      | (refine wpList_load_mid rfl 42 (.tmp 3) rfl (w.heap.size + 1) 0 rfl ML _ hmr.out Tryz.underlying42 rfl (by rw [hlm]; exact infoMe) ?_)
      | (go_at_call 36; refine hend2.mono ?_; rintro e w3 ⟨rfl, hq⟩; clear c2))
    obtain ⟨j, s, sv', v', q1, q2, q3, q4, q5, q6, q7⟩ := hq.out
    have hX3 := Lib.hid q4
    have hk3 := Lib.hid q5
    have hbx3 := Lib.hid ((q5.block _ (Array.getElem?_eq_some_iff.1 h2.out).1 (fun e => by have := hlo _ e; omega)).trans h2.out)
    have hD3 := (q5.block D (Array.getElem?_eq_some_iff.1 hdef.out).1 (fun e => by have := hlo _ e; omega)).trans hdef.out
    have hl23 := (q5.block _ (Array.getElem?_eq_some_iff.1 (hst2.out _ hBxm.out.1).1).1 (fun e => by have := hlo _ e; omega)).trans (hst2.out _ hBxm.out.1).1
    have h33 := Lib.hid (h3.out.kept q5 (fun k e e2 => by have := (h7 k e).2; have := hlo k e2; omega))
    have hHd : w3.drew.cell? ⟨w.heap.size, 0, none⟩ = some (.pointer (some ⟨lb, 0, none⟩)) ∧ w3.drew.cell? ⟨lb, 6, none⟩ = some (.int .i64 (total ss : Int)) ∧ w3.drew.cell? ⟨w.heap.size + 1 + 1, 0, none⟩ = some (.slice va (total ss - p) vc) := ⟨row_cell hl23 0 rfl, hX3.out.c6, by
      rw [← hLl, ← hva]
      exact row_cell hbx3.out 0 rfl⟩
    have c6 := hHd.2.1
    have f6 : w3.drew.frozen? ⟨lb, 6, none⟩ = false := hX3.out.fz 6
    have a1 : IntKind.i64.wrap ((total ss : Int) - ((total ss - p : Nat) : Int)) = (p : Int) := by rw [IntWalk.i64_in _ (by omega)]; omega
    have hfin : Hid (∀ w4, KeptOff (fun k => k ∈ [D]) (w3.drew.setCell ⟨lb, 6, none⟩ (.int .i64 (p : Int))) w4 → BackQ b w lb v0 W every sv ss st stuck c p va vc w4) := Lib.hid (fun w4 hk4 => by
      have hkd : KeptOff (fun k => k = lb) w3 w3.drew := ⟨rfl, rfl, rfl, Nat.le_refl _, fun _ _ _ => rfl⟩
      have hks := hkd.trans (KeptOff.set w3.drew ⟨lb, 6, none⟩ (.int .i64 (p : Int)))
      have hX4 := (hX3.out.below (Below.refl _ w3).drew).setLen (p : Int)
      have hkw : KeptOff (LOwn lb sv ss) w (w3.drew.setCell ⟨lb, 6, none⟩ (.int .i64 (p : Int))) := ((hk2.out.mono (fun k _ e => .inl e)).trans hk3.out).trans (hks.mono (fun k _ e => .inl e))
      rw [← hTT.out] at hX4
      obtain ⟨ss', g1, g2, g3⟩ := h'.out.ended q1 q2 q3 hX4 hkw q6 q7
      have hD4 : (w3.drew.setCell ⟨lb, 6, none⟩ (.int .i64 (p : Int))).heap[D]? = some (.deferred (some [])) := (hks.block D (Array.getElem?_eq_some_iff.1 hD3).1 (by omega)).trans hD3
      have hS : ∀ k, k ∈ [D] → ∀ cur ty fr, (w3.drew.setCell ⟨lb, 6, none⟩ (.int .i64 (p : Int))).heap[k]? ≠ some (.cells cur ty fr) := fun k hk cur ty fr e => by
        obtain rfl := List.mem_singleton.1 hk
        rw [hD4] at e
        cases e
      have h34 := h33.out.kept hks (fun k e e2 => by have := (h7 k e).2; omega)
      rw [hva, hLl] at h34
      refine ⟨⟨L, by rw [hTT.out]; exact h1'.out.1, h34.keptNo hk4 hS, fun k e => ?_⟩, ?_, sv', ss', g1.keptNo hk4 hS (fun k e => ?_), g2, g3⟩
      · rw [← hLl, ← hva] at e
        exact (h7 k e).2
      · exact hkw.then_new hk4 (fun k hk' e => by obtain rfl := List.mem_singleton.1 e; omega)
      · obtain rfl := List.mem_singleton.1 e
        have := h'.out.base.size
        omega)
    have hM : Hid (Marks [D] (w3.drew.setCell ⟨lb, 6, none⟩ (.int .i64 (p : Int)))) := Lib.hid ⟨by simp, fun D' hD' => by
      obtain rfl := List.mem_singleton.1 hD'
      have hks := KeptOff.set w3.drew ⟨lb, 6, none⟩ (.int .i64 (p : Int))
      exact (hks.block D' (Array.getElem?_eq_some_iff.1 hD3).1 (by simp only; omega)).trans hD3⟩
    have hcg : Hid ((w3.drew.setCell ⟨lb, 6, none⟩ (.int .i64 (p : Int))).cell? ⟨w.heap.size + 1 + 1, 0, none⟩ = some (.slice va (total ss - p) vc)) := Lib.hid (by
      have hks := KeptOff.set w3.drew ⟨lb, 6, none⟩ (.int .i64 (p : Int))
      have h0 : w3.drew.heap[w.heap.size + 1 + 1]? = some (.cells #[v] 47 (0, 0)) := hbx3.out
      have := (hks.block (w.heap.size + 1 + 1) (Array.getElem?_eq_some_iff.1 h0).1 (by simp only; omega)).trans h0
      rw [← hLl, ← hva]
      exact row_cell this 0 rfl)
    clear hX3 hk3 hbx3 hD3 hl23 h33 q1 q2 q3 q4 q5 q6 q7 hq hend2 h7 h8 h5 h6 h4 hXW hmr hst2 hk2 h2 h3 hdef hva hlo hLl hTl hs5'
    generalize hnn : total ss - p = n at *
    have hnn' := Lib.hid hnn
    clear hnn
    refine wp_region_Z (fun w' => w'.cell? ⟨w.heap.size, 0, none⟩ = some (.pointer (some ⟨lb, 0, none⟩)) ∧ w'.cell? ⟨lb, 6, none⟩ = some (.int .i64 (total ss : Int)) ∧ w'.cell? ⟨w.heap.size + 1 + 1, 0, none⟩ = some (.slice va n vc)) 9 (by kernel_rfl) ?_
    refine wpAnyZ_load (i := 0) (oi := { dst := some 38, op := Op.load 28 (Operand.tmp 2), type := 28, pos := "log.go:163", after := #[], guard := none }) (v := ?zv0_1) rfl (by kernel_rfl) (by kernel_rfl) (by kernel_rfl) (fun _ _ _ h => h) (by decide) (by kernel_rfl) (by kernel_rfl) (Or.inl ⟨by rfl, ?zy0_1⟩) hHd ?zrest0_1
    case zy0_1 =>
      intro w hSw
      have c := hSw.1
      go_simp
      try with_reducible rfl
    try simp only [Act.put, List.setIfInBounds_toArray, List.set_cons_zero, List.set_cons_succ]
    refine wpAnyZ_take (i := 1) (oi := { dst := some 39, op := Op.nilCheck (Operand.tmp 38), type := 0, pos := "log.go:163", after := #[{ on := 0, ground := Ground.data }], guard := none }) (v := ?zv1_2) rfl (by kernel_rfl) (by kernel_rfl) (by kernel_rfl) (fun _ _ _ h => h) (by decide) (Or.inl ⟨by rfl, ?zy1_2⟩) (fun _ => hHd) ?zrest1_2
    case zy1_2 =>
      intro w _
      go_simp
      try with_reducible rfl
    try simp only [Act.put, List.setIfInBounds_toArray, List.set_cons_zero, List.set_cons_succ]
    refine wpAnyZ_take (i := 2) (oi := { dst := some 40, op := Op.fieldAddr 71 (Operand.tmp 39) 3, type := 0, pos := "log.go:163", after := #[{ on := 1, ground := Ground.data }], guard := none }) (v := ?zv2_3) rfl (by kernel_rfl) (by kernel_rfl) (by kernel_rfl) (fun _ _ _ h => h) (by decide) (Or.inl ⟨by rfl, ?zy2_3⟩) (fun _ => hHd) ?zrest2_3
    case zy2_3 =>
      intro w _
      go_simp
      try with_reducible rfl
    try simp only [Act.put, List.setIfInBounds_toArray, List.set_cons_zero, List.set_cons_succ]
    refine wpAnyZ_load (i := 3) (oi := { dst := some 41, op := Op.load 3 (Operand.tmp 40), type := 3, pos := "log.go:163", after := #[{ on := 2, ground := Ground.data }], guard := none }) (v := ?zv3_4) rfl (by kernel_rfl) (by kernel_rfl) (by kernel_rfl) (fun _ _ _ h => h) (by decide) (by kernel_rfl) (by kernel_rfl) (Or.inl ⟨by rfl, ?zy3_4⟩) hHd ?zrest3_4
    case zy3_4 =>
      intro w hSw
      have c := hSw.2.1
      go_simp
      try with_reducible rfl
    try simp only [Act.put, List.setIfInBounds_toArray, List.set_cons_zero, List.set_cons_succ]
    refine wpAnyZ_load (i := 4) (oi := { dst := some 42, op := Op.load 47 (Operand.tmp 5), type := 47, pos := "log.go:163", after := #[], guard := none }) (v := ?zv4_5) rfl (by kernel_rfl) (by kernel_rfl) (by kernel_rfl) (fun _ _ _ h => h) (by decide) (by kernel_rfl) (by kernel_rfl) (Or.inl ⟨by rfl, ?zy4_5⟩) hHd ?zrest4_5
    case zy4_5 =>
      intro w hSw
      have c := hSw.2.2
      go_simp
      try with_reducible rfl
    try simp only [Act.put, List.setIfInBounds_toArray, List.set_cons_zero, List.set_cons_succ]
    refine wpAnyZ_take (i := 5) (oi := { dst := some 43, op := Op.call { callee := Callee.builtin Builtin.len, args := #[Operand.tmp 42], argTypes := #[47] }, type := 3, pos := "log.go:163", after := #[{ on := 4, ground := Ground.data }], guard := none }) (v := ?zv5_6) rfl (by kernel_rfl) (by kernel_rfl) (by kernel_rfl) (fun _ _ _ h => h) (by decide) (Or.inl ⟨by rfl, ?zy5_6⟩) (fun _ => hHd) ?zrest5_6
    case zy5_6 =>
      intro w _
      go_simp
      try with_reducible rfl
    try simp only [Act.put, List.setIfInBounds_toArray, List.set_cons_zero, List.set_cons_succ]
    refine wpAnyZ_take (i := 6) (oi := { dst := some 44, op := Op.binOp BinOp.sub 3 (Operand.tmp 41) (Operand.tmp 43) 3, type := 3, pos := "log.go:163", after := #[{ on := 3, ground := Ground.data }, { on := 5, ground := Ground.data }], guard := none }) (v := ?zv6_7) rfl (by kernel_rfl) (by kernel_rfl) (by kernel_rfl) (fun _ _ _ h => h) (by decide) (Or.inl ⟨by rfl, ?zy6_7⟩) (fun _ => hHd) ?zrest6_7
    case zy6_7 =>
      intro w _
      go_simp
      try with_reducible rfl
    try simp only [Act.put, List.setIfInBounds_toArray, List.set_cons_zero, List.set_cons_succ]
    refine wpAnyZ_take (i := 7) (oi := { dst := some 45, op := Op.nilCheck (Operand.tmp 38), type := 0, pos := "log.go:163", after := #[{ on := 0, ground := Ground.data }, { on := 0, ground := Ground.phase }, { on := 1, ground := Ground.phase }, { on := 2, ground := Ground.phase }, { on := 3, ground := Ground.phase }, { on := 4, ground := Ground.phase }, { on := 5, ground := Ground.phase }, { on := 6, ground := Ground.phase }], guard := none }) (v := ?zv7_8) rfl (by kernel_rfl) (by kernel_rfl) (by kernel_rfl) (fun _ _ _ h => h) (by decide) (Or.inl ⟨by rfl, ?zy7_8⟩) (fun _ => hHd) ?zrest7_8
    case zy7_8 =>
      intro w _
      go_simp
      try with_reducible rfl
    try simp only [Act.put, List.setIfInBounds_toArray, List.set_cons_zero, List.set_cons_succ]
    refine wpAnyZ_take (i := 8) (oi := { dst := some 46, op := Op.fieldAddr 71 (Operand.tmp 45) 3, type := 0, pos := "log.go:163", after := #[{ on := 7, ground := Ground.data }, { on := 0, ground := Ground.phase }, { on := 1, ground := Ground.phase }, { on := 2, ground := Ground.phase }, { on := 3, ground := Ground.phase }, { on := 4, ground := Ground.phase }, { on := 5, ground := Ground.phase }, { on := 6, ground := Ground.phase }], guard := none }) (v := ?zv8_9) rfl (by kernel_rfl) (by kernel_rfl) (by kernel_rfl) (fun _ _ _ h => h) (by decide) (Or.inl ⟨by rfl, ?zy8_9⟩) (fun _ => hHd) ?zrest8_9
    case zy8_9 =>
      intro w _
      go_simp
      try with_reducible rfl
    try simp only [Act.put, List.setIfInBounds_toArray, List.set_cons_zero, List.set_cons_succ]
    refine wpAnyZ_ready (rs := [9]) (by kernel_rfl) (by simp) ?_
    refine AllReadyZ.cons (o := { dst := none, op := Op.store 3 (Operand.tmp 46) (Operand.tmp 44), type := 0, pos := "log.go:163", after := #[{ on := 8, ground := Ground.data }, { on := 6, ground := Ground.data }, { on := 0, ground := Ground.phase }, { on := 1, ground := Ground.phase }, { on := 2, ground := Ground.phase }, { on := 3, ground := Ground.phase }, { on := 4, ground := Ground.phase }, { on := 5, ground := Ground.phase }, { on := 6, ground := Ground.phase }], guard := none }) rfl (fun K hK => ?_) AllReadyZ.nil
    go_simp
    refine hK.out _ _ (fun h => absurd h (by decide)) ?_
    clear hK K
    try simp only [Act.put, List.setIfInBounds_toArray, List.set_cons_zero, List.set_cons_succ]
    refine wpAnyZ_done (by kernel_rfl) ?_ _
    have hnorm : w3.drew.setCell ⟨lb, 6, none⟩ (.int .i64 (p : Int)) = (w3.setCell ⟨lb, 6, none⟩ (.int .i64 (p : Int))).drew := rfl
    try rw [hnorm]
    rw [hnorm] at hcg hM hfin
    generalize (w3.setCell ⟨lb, 6, none⟩ (.int .i64 (p : Int))).drew = w9 at *
    have cg := hcg.out
    clear hHd c6 f6 hcg hnorm
    go_wp2
    exact leaves_marks (by simp) [D] w9 hM.out (fun w' hk => ⟨.slice va n vc, by simp [results, Tryz.f14, go_sem], va, vc, by rw [hnn'.out], Lib.hid (hfin.out w' hk)⟩)
end Go.Proofs.YtminfmjgmmkaoaaGreatDoor
