/-
  The contract of the program's 'state': what a process remembers once its program has ended.
  The contract of the program's Run.
-/
import Derived.Test.YtminfmjgmmkaoaaGreatDoorVmH8
import Derived.Test.YtminfmjgmmkaoaaGreatDoorVmD8
import Derived.Test.YtminfmjgmmkaoaaGreatDoorVmC
import Derived.Laws.CopyOwn
import Derived.StillTailTactics
namespace Go.Proofs.YtminfmjgmmkaoaaGreatDoor
open Go.ChangeShapes Go.WideShapes Go.ChangeAt Go.RowKit Go.Sort
set_option linter.unusedVariables false
set_option maxRecDepth 4000

theorem row10 {w : World} {g : Nat} {r0 r1 r2 r3 r4 r5 r6 r7 d n : Int} (h : w.heap[g]? = some (.cells (st10 r0 r1 r2 r3 r4 r5 r6 r7 d n) 34 (0, 0))) :
    w.cell? ⟨g, 0, none⟩ = some (.int .i64 r0) ∧ w.cell? ⟨g, 1, none⟩ = some (.int .i64 r1) ∧ w.cell? ⟨g, 2, none⟩ = some (.int .i64 r2) ∧ w.cell? ⟨g, 3, none⟩ = some (.int .i64 r3) ∧ w.cell? ⟨g, 4, none⟩ = some (.int .i64 r4) ∧ w.cell? ⟨g, 5, none⟩ = some (.int .i64 r5) ∧ w.cell? ⟨g, 6, none⟩ = some (.int .i64 r6) ∧ w.cell? ⟨g, 7, none⟩ = some (.int .i64 r7) ∧ w.cell? ⟨g, 8, none⟩ = some (.int .i64 d) ∧ w.cell? ⟨g, 9, none⟩ = some (.int .i64 n) :=
  ⟨row_cell h 0 rfl, row_cell h 1 rfl, row_cell h 2 rfl, row_cell h 3 rfl, row_cell h 4 rfl, row_cell h 5 rfl, row_cell h 6 rfl, row_cell h 7 rfl, row_cell h 8 rfl, row_cell h 9 rfl⟩
theorem copy8 (d n : Int) (c0 c1 c2 c3 c4 c5 c6 c7 : Int) : ((st10 0 0 0 0 0 0 0 0 d n).toList.take 0 ++ ([Value.int .i64 c0, .int .i64 c1, .int .i64 c2, .int .i64 c3, .int .i64 c4, .int .i64 c5, .int .i64 c6, .int .i64 c7] ++ (st10 0 0 0 0 0 0 0 0 d n).toList.drop (0 + [Value.int .i64 c0, .int .i64 c1, .int .i64 c2, .int .i64 c3, .int .i64 c4, .int .i64 c5, .int .i64 c6, .int .i64 c7].length))).toArray = st10 c0 c1 c2 c3 c4 c5 c6 c7 d n := rfl
theorem infoI64 : (Tryz.prog.info? 2).map (·.size) = some 1 := by kernel_rfl
theorem addr_add (b o j : Nat) : (⟨b, o, none⟩ : Addr).add j = ⟨b, o + j, none⟩ := by unfold Addr.add; split <;> simp_all
set_option maxHeartbeats 4000000 in
theorem hState_any {b2 : Nat} {w : World} {x : Nat} {v : Wv} {W : Wd} {ev : M} {ov : Value} {m : Mc} (h : HM b2 w x v W ev ov m) (ho8 : m.o.length ≤ 8) (n : Int) (hn0 : 0 ≤ n) (hn1 : n ≤ 1125899906842624) :
    Calls Tryz.prog 66 #[.pointer (some ⟨x, 0, none⟩), .int .i64 n] w fun e w' => e = .returned (Sta.val ⟨m.r.take 8, m.d, n + (m.o.length : Int)⟩) ∧ Below w.heap.size w w' := by
  obtain ⟨oa, oc, ho⟩ := hown_slice h.own
  obtain ⟨y0, y1, y2, y3, y4, y5, y6, y7, y8, y9, ya, yb, yc, yd, ye, yf, hy⟩ := six16 h.rl
  have hv : Sta.val ⟨m.r.take 8, m.d, n + (m.o.length : Int)⟩ = .agg (st10 y0 y1 y2 y3 y4 y5 y6 y7 m.d (n + (m.o.length : Int))) := by rw [hy]; rfl
  rw [hv]
  have hregs : ∀ (w2 : World), HM b2 w2 x v W ev ov m → ∀ (j : Nat) (u : Value), [Value.int .i64 y0, .int .i64 y1, .int .i64 y2, .int .i64 y3, .int .i64 y4, .int .i64 y5, .int .i64 y6, .int .i64 y7][j]? = some u → w2.cell? ⟨x, 11 + j, none⟩ = some u := by
    intro w2 h2 j u hj
    have hjl : j < 8 := by
      have := (List.getElem?_eq_some_iff.1 hj).1
      simpa using this
    have := h2.reg j (by omega)
    rw [this]
    rw [← hj]
    have e : m.reg j = m.r.getD j 0 := by simp [Mc.reg]
    rw [e, hy]
    obtain rfl | rfl | rfl | rfl | rfl | rfl | rfl | rfl : j = 0 ∨ j = 1 ∨ j = 2 ∨ j = 3 ∨ j = 4 ∨ j = 5 ∨ j = 6 ∨ j = 7 := by omega
    all_goals rfl
  have hregs' := Lib.hid hregs
  have hD1 : HM b2 (w.alloc (.cells (st10 0 0 0 0 0 0 0 0 0 0) 34)) x v W ev ov m := h.alloc _
  have hZ1 := heap_alloc_new w (.cells (st10 0 0 0 0 0 0 0 0 0 0) 34)
  have hB1 : Below w.heap.size w (w.alloc (.cells (st10 0 0 0 0 0 0 0 0 0 0) 34)) := (Below.refl _ w).alloc (Nat.le_refl _) _
  have hs1 : (w.alloc (.cells (st10 0 0 0 0 0 0 0 0 0 0) 34)).heap.size = w.heap.size + 1 := by simp
  have hxw := h.xw
  have ho' := Lib.hid ho
  have hb2 := h.hb
  clear hy hv hregs h ho
  go_enter Tryz.func66, Tryz.ntmps66
  go_upto_region 1 with (fail)
  change HM b2 (w.alloc (.cells #[.int .i64 0, .int .i64 0, .int .i64 0, .int .i64 0, .int .i64 0, .int .i64 0, .int .i64 0, .int .i64 0, .int .i64 0, .int .i64 0] 34)) x v W ev ov m at hD1
  change (w.alloc (.cells #[.int .i64 0, .int .i64 0, .int .i64 0, .int .i64 0, .int .i64 0, .int .i64 0, .int .i64 0, .int .i64 0, .int .i64 0, .int .i64 0] 34)).heap[w.heap.size]? = some (.cells (st10 0 0 0 0 0 0 0 0 0 0) 34 (0, 0)) at hZ1
  change Below w.heap.size w (w.alloc (.cells #[.int .i64 0, .int .i64 0, .int .i64 0, .int .i64 0, .int .i64 0, .int .i64 0, .int .i64 0, .int .i64 0, .int .i64 0, .int .i64 0] 34)) at hB1
  change (w.alloc (.cells #[.int .i64 0, .int .i64 0, .int .i64 0, .int .i64 0, .int .i64 0, .int .i64 0, .int .i64 0, .int .i64 0, .int .i64 0, .int .i64 0] 34)).heap.size = w.heap.size + 1 at hs1
  generalize w.alloc (.cells #[.int .i64 0, .int .i64 0, .int .i64 0, .int .i64 0, .int .i64 0, .int .i64 0, .int .i64 0, .int .i64 0, .int .i64 0, .int .i64 0] 34) = W1 at *
  have hxW : x < W1.heap.size := hD1.xw
  have e28 : ∀ p, (wide W1 p).cell? ⟨x, 28, none⟩ = some (.int .i64 m.d) := fun p => wide_cell p hxW hD1.d
  have e29 : ∀ p, (wide W1 p).cell? ⟨x, 29, none⟩ = some (.slice oa m.o.length oc) := fun p => wide_cell p hxW (ho'.out ▸ hD1.o)
  have hwr : IntKind.i64.wrap (n + (m.o.length : Int)) = n + (m.o.length : Int) := IntWalk.i64_in _ (by omega)
  have hs1' := Lib.hid hs1
  have hD1' := Lib.hid hD1
  have hZ1' := Lib.hid hZ1
  clear hs1 hD1 hZ1
  refine wp_region_alloc_tail 12 (.cells (st10 0 0 0 0 0 0 0 0 0 0) 34 (0, 0)) (some 5) (by kernel_rfl) (by kernel_rfl) (fun _ _ => by kernel_rfl) (by kernel_rfl) ?_
  simp only [List.take_succ_cons, List.take_zero, List.drop_succ_cons, List.drop_zero]
  repeat (refine wpQuietB_step (fun K hK => ?_); go_simp; refine hK _ ?_; clear hK K)
  refine wpQuietB_nil ?_
  intro T W2 hb2' hT hz
  clear e28 e29 hwr
  go_wp2_with (refine wpList_store_row rfl 34 (.tmp 5) (.tmp 17) rfl T (st10 0 0 0 0 0 0 0 0 m.d (n + (m.o.length : Int))) rfl rfl 34 (st10 0 0 0 0 0 0 0 0 0 0) hz infoSt rfl (st10_one _ _ _ _ _ _ _ _ _ _) ?_)
  have hz3 := setRow_heap (new := (st10 0 0 0 0 0 0 0 0 m.d (n + (m.o.length : Int)))) hz
  have hB3 := hbelow_row hb2' hT (st10 0 0 0 0 0 0 0 0 m.d (n + (m.o.length : Int)))
  generalize W2.setRow T (st10 0 0 0 0 0 0 0 0 m.d (n + (m.o.length : Int))) = W3 at *
  have hD3 := hD1'.out.below hB3
  have hZ3 := (hB3.block w.heap.size (by have := hs1'.out; omega)).trans hZ1'.out
  clear hz hb2' hD1' hZ1' W2
  have hxT : x ≠ T := by omega
  have hD3' := Lib.hid hD3
  have hz3' := Lib.hid hz3
  have hZ3' := Lib.hid hZ3
  clear hD3 hz3 hZ3
  go_upto_region 2 with (fail)
  refine wp_region_still_tail 6 (by kernel_rfl) (by kernel_rfl) ?_
  change wpStill _ _ W3.drew (fun a' => wpList _ _ _ _ a' (W3.drew)) _ _
  have hB4 : Below W1.heap.size W1 W3.drew := hB3.drew
  have hD4 := Lib.hid hD3'.out.drew
  have hz4 : Hid (W3.drew.heap[T]? = some (.cells (st10 0 0 0 0 0 0 0 0 m.d (n + (m.o.length : Int))) 34 (0, 0))) := Lib.hid hz3'.out
  have hZ4 : Hid (W3.drew.heap[w.heap.size]? = some (.cells (st10 0 0 0 0 0 0 0 0 0 0) 34 (0, 0))) := Lib.hid hZ3'.out
  clear hD3' hz3' hZ3' hB3
  generalize W3.drew = W4 at *
  simp only [List.take_succ_cons, List.take_zero, List.drop_succ_cons, List.drop_zero]
  repeat still_step
  refine wpStill_nil ?_
  refine wpList_copy_own rfl _ _ _ _ rfl 2 Tryz.underlying125 infoI64 T 0 8 8 ⟨x, 11, none⟩ 16 16 rfl rfl (st10 0 0 0 0 0 0 0 0 m.d (n + (m.o.length : Int))) 34 hz4.out [Value.int .i64 y0, .int .i64 y1, .int .i64 y2, .int .i64 y3, .int .i64 y4, .int .i64 y5, .int .i64 y6, .int .i64 y7] rfl (fun j u hj => by rw [addr_add]; exact hregs'.out W4 hD4.out j u hj) (by simp [st10]) (by simp [Value.oneCell']) ?_
  rw [copy8]
  have hz5 := setRow_heap (new := (st10 y0 y1 y2 y3 y4 y5 y6 y7 m.d (n + (m.o.length : Int)))) hz4.out
  have hB5 := hbelow_row hB4 hT (st10 y0 y1 y2 y3 y4 y5 y6 y7 m.d (n + (m.o.length : Int)))
  have hZ5 := (show (W4.setRow T (st10 y0 y1 y2 y3 y4 y5 y6 y7 m.d (n + (m.o.length : Int)))).heap[w.heap.size]? = W4.heap[w.heap.size]? from setRow_other W4 T w.heap.size _ (by have := hs1'.out; omega)).trans hZ4.out
  generalize W4.setRow T (st10 y0 y1 y2 y3 y4 y5 y6 y7 m.d (n + (m.o.length : Int))) = W5 at *
  clear hz4 hB4 hZ4 hD4 hregs' W4 W3
  obtain ⟨c0, c1, c2, c3, c4, c5, c6, c7, c8, c9⟩ := row10 hz5
  have hZ5' := hZ5
  go_wp2_with (refine wpList_store_row rfl 34 (.tmp 4) (.tmp 25) rfl w.heap.size (st10 y0 y1 y2 y3 y4 y5 y6 y7 m.d (n + (m.o.length : Int))) rfl rfl 34 (st10 0 0 0 0 0 0 0 0 0 0) hZ5 infoSt rfl (st10_one _ _ _ _ _ _ _ _ _ _) ?_)
  have hZ6 := setRow_heap (new := (st10 y0 y1 y2 y3 y4 y5 y6 y7 m.d (n + (m.o.length : Int)))) hZ5'
  have hB6 := Lib.hid (hbelow_row (hB1.trans (hB5.mono hB1.size)) (Nat.le_refl w.heap.size) (st10 y0 y1 y2 y3 y4 y5 y6 y7 m.d (n + (m.o.length : Int))))
  generalize W5.setRow w.heap.size (st10 y0 y1 y2 y3 y4 y5 y6 y7 m.d (n + (m.o.length : Int))) = W6 at *
  obtain ⟨q0, q1, q2, q3, q4, q5, q6, q7, q8, q9⟩ := row10 hZ6
  exact bodyPost_ret (v := .agg (st10 y0 y1 y2 y3 y4 y5 y6 y7 m.d (n + (m.o.length : Int)))) (by simp [results, Tryz.results66, go_sem, st10, q0, q1, q2, q3, q4, q5, q6, q7, q8, q9]) rfl ⟨rfl, hB6.out⟩
end Go.Proofs.YtminfmjgmmkaoaaGreatDoor
namespace Go.Proofs.YtminfmjgmmkaoaaGreatDoor
open Go.ChangeShapes Go.WideShapes Go.ChangeAt Go.RowKit Go.Sort
set_option linter.unusedVariables false
set_option maxRecDepth 4000

/-- What the program's Run leaves; what it has sent lies in memory of the call's own. -/
def RunF (w : World) (r : Sta × List Ot × Int) (e : Ending) (w' : World) : Prop :=
  ∃ a cap, e = .returned (.tuple #[r.1.val, .slice a r.2.1.length cap, .int .i64 r.2.2]) ∧ Ots w' a r.2.1.length cap r.2.1 ∧ Below w.heap.size w w' ∧ ∀ k, (Value.slice a r.2.1.length cap).ownBlock = some k → w.heap.size ≤ k
theorem mayB_counts (s : Sta) : s.mayB = (countB s.d && countB s.s) := by
  simp [Sta.mayB, countB, Bool.decide_and, Bool.and_assoc]
theorem hC_copy (v : Wv) (W : Wd) (ev : M) (r0 r1 r2 r3 r4 r5 r6 r7 d n : Int) : ((hC v W ev (.slice none 0 0) ⟨[0, 0, 0, 0, 0, 0, 0, 0, 0, 0, 0, 0, 0, 0, 0, 0], d, [], 0⟩).toList.take 11 ++ ([Value.int .i64 r0, .int .i64 r1, .int .i64 r2, .int .i64 r3, .int .i64 r4, .int .i64 r5, .int .i64 r6, .int .i64 r7] ++ (hC v W ev (.slice none 0 0) ⟨[0, 0, 0, 0, 0, 0, 0, 0, 0, 0, 0, 0, 0, 0, 0, 0], d, [], 0⟩).toList.drop (11 + [Value.int .i64 r0, .int .i64 r1, .int .i64 r2, .int .i64 r3, .int .i64 r4, .int .i64 r5, .int .i64 r6, .int .i64 r7].length))).toArray = hC v W ev (.slice none 0 0) (firstP ⟨[r0, r1, r2, r3, r4, r5, r6, r7], d, n⟩) := rfl
theorem row7 {w : World} {g : Nat} {t f q to' vv u : Int} {an : Bool} {T : TypeId} (h : w.heap[g]? = some (.cells #[.int .i64 t, .int .i64 f, .int .i64 q, .int .i64 to', .int .i64 vv, .int .i64 u, .bool an] T (0, 0))) :
    w.cell? ⟨g, 0, none⟩ = some (.int .i64 t) ∧ w.cell? ⟨g, 1, none⟩ = some (.int .i64 f) ∧ w.cell? ⟨g, 2, none⟩ = some (.int .i64 q) ∧ w.cell? ⟨g, 3, none⟩ = some (.int .i64 to') ∧ w.cell? ⟨g, 4, none⟩ = some (.int .i64 vv) ∧ w.cell? ⟨g, 5, none⟩ = some (.int .i64 u) ∧ w.cell? ⟨g, 6, none⟩ = some (.bool an) :=
  ⟨row_cell h 0 rfl, row_cell h 1 rfl, row_cell h 2 rfl, row_cell h 3 rfl, row_cell h 4 rfl, row_cell h 5 rfl, row_cell h 6 rfl⟩
theorem row4 {w : World} {g : Nat} {a b c d : Value} {T : TypeId} (h : w.heap[g]? = some (.cells #[a, b, c, d] T (0, 0))) :
    w.cell? ⟨g, 0, none⟩ = some a ∧ w.cell? ⟨g, 1, none⟩ = some b ∧ w.cell? ⟨g, 2, none⟩ = some c ∧ w.cell? ⟨g, 3, none⟩ = some d :=
  ⟨row_cell h 0 rfl, row_cell h 1 rfl, row_cell h 2 rfl, row_cell h 3 rfl⟩
set_option maxRecDepth 100000 in
set_option maxHeartbeats 8000000 in
theorem vmRun_check {w : World} {v : Wv} {W : Wd} {s : Sta} {ev : M} {eb : Addr} (hw : Wds w v W) (hE : ErrIs w eb) (hs : s.r.length = 8) (hc : checkW W ≠ 0) :
    Calls Tryz.prog 43 #[v.val W, s.val, ev.val] w (RunF w (Sta.zero, [], checkW W)) := by
  have hcall := fun (o1 o2 o3 o4 : Obj) => vmCheck_any (hw.below (((((Below.refl _ w).alloc (Nat.le_refl _) o1).alloc (by simp) o2).alloc (by simp; omega) o3).alloc (by simp; omega) o4)) (hE.below (((((Below.refl _ w).alloc (Nat.le_refl _) o1).alloc (by simp) o2).alloc (by simp; omega) o3).alloc (by simp; omega) o4))
  have hc' : (checkW W == 0) = false := by simpa using hc
  generalize checkW W = z at *
  clear hw hE hc
  obtain ⟨⟨t, f, q⟩, to', vv, u, an⟩ := ev
  obtain ⟨r, d, n⟩ := s
  obtain ⟨r0, r1, r2, r3, r4, r5, r6, r7, rfl⟩ := eight hs
  clear hs
  simp only [Wv.val, M.val, Sta.val, Sta.cells, List.map_cons, List.map_nil, List.cons_append, List.nil_append] at * 
  go_enter Tryz.func43, Tryz.ntmps43
  go_wp2_with fail
  refine (hcall _ _ _ _).mono ?_
  rintro e w1 ⟨rfl, hr1⟩
  have F := (Four.mk4 w _ _ _ _).below (hr1.below.mono (by simp))
  clear hcall hr1
  have F' := Lib.hid F
  have hz := F.z
  clear F
  go_wp2_with (refine wpList_store_row rfl 34 (.tmp 6) (.tmp 16) rfl (w.heap.size + 1 + 1 + 1) (st10 0 0 0 0 0 0 0 0 0 0) rfl rfl 34 (st10 0 0 0 0 0 0 0 0 0 0) hz infoSt rfl (st10_one _ _ _ _ _ _ _ _ _ _) ?_)
  have hz2 := setRow_heap (new := (st10 0 0 0 0 0 0 0 0 0 0)) hz
  have hB := Lib.hid (below_row F'.out.b (g := (w.heap.size + 1 + 1 + 1)) (by omega) (st10 0 0 0 0 0 0 0 0 0 0))
  generalize w1.setRow (w.heap.size + 1 + 1 + 1) (st10 0 0 0 0 0 0 0 0 0 0) = W5 at *
  obtain ⟨q0, q1, q2, q3, q4, q5, q6, q7, q8, q9⟩ := row10 hz2
  clear hz2
  exact bodyPost_ret (v := .tuple #[.agg (st10 0 0 0 0 0 0 0 0 0 0), .slice none 0 0, .int .i64 z]) (by simp [results, Tryz.results43, go_sem, st10, q0, q1, q2, q3, q4, q5, q6, q7, q8, q9]) rfl ⟨none, 0, rfl, Ots.nil _, hB.out, fun k e => by cases e⟩
set_option maxRecDepth 100000 in
set_option maxHeartbeats 8000000 in
theorem vmRun_msg {w : World} {v : Wv} {W : Wd} {s : Sta} {ev : M} {eb : Addr} (hw : Wds w v W) (hE : ErrIs w eb) (hs : s.r.length = 8) (hc : checkW W = 0) (hm : chkM ev ≠ 0) :
    Calls Tryz.prog 43 #[v.val W, s.val, ev.val] w (RunF w (Sta.zero, [], 1)) := by
  have hcall := fun (o1 o2 o3 o4 : Obj) => vmCheck_any (hw.below (((((Below.refl _ w).alloc (Nat.le_refl _) o1).alloc (by simp) o2).alloc (by simp; omega) o3).alloc (by simp; omega) o4)) (hE.below (((((Below.refl _ w).alloc (Nat.le_refl _) o1).alloc (by simp) o2).alloc (by simp; omega) o3).alloc (by simp; omega) o4))
  rw [hc] at hcall
  have hmc := fun w => eCheck_any ev w
  have hm' : (chkM ev == 0) = false := by simpa using hm
  have hm2 : (chkM ev != 0) = true := by simpa using hm
  generalize chkM ev = z at hmc hm' hm2
  clear hw hE hc hm
  obtain ⟨⟨t, f, q⟩, to', vv, u, an⟩ := ev
  obtain ⟨r, d, n⟩ := s
  obtain ⟨r0, r1, r2, r3, r4, r5, r6, r7, rfl⟩ := eight hs
  clear hs
  simp only [Wv.val, M.val, Sta.val, Sta.cells, List.map_cons, List.map_nil, List.cons_append, List.nil_append] at * 
  go_enter Tryz.func43, Tryz.ntmps43
  go_wp2_with fail
  refine (hcall _ _ _ _).mono ?_
  rintro e w1 ⟨rfl, hr1⟩
  have F := (Four.mk4 w _ _ _ _).below (hr1.below.mono (by simp))
  clear hcall hr1
  obtain ⟨m0, m1, m2, m3, m4, m5, m6⟩ := row7 F.m
  have Fh := Lib.hid F
  clear F
  go_wp2_with fail
  refine (hmc _).mono ?_
  rintro e w2 ⟨rfl, hr2⟩
  have F := Fh.out.below (hr2.below.mono Fh.out.sz)
  clear hmc hr2 m0 m1 m2 m3 m4 m5 m6 Fh
  have F' := Lib.hid F
  have hz := F.z
  clear F
  go_wp2_with (refine wpList_store_row rfl 34 (.tmp 6) (.tmp 33) rfl (w.heap.size + 1 + 1 + 1) (st10 0 0 0 0 0 0 0 0 0 0) rfl rfl 34 (st10 0 0 0 0 0 0 0 0 0 0) hz infoSt rfl (st10_one _ _ _ _ _ _ _ _ _ _) ?_)
  have hz2 := setRow_heap (new := (st10 0 0 0 0 0 0 0 0 0 0)) hz
  have hB := Lib.hid (below_row F'.out.b (g := (w.heap.size + 1 + 1 + 1)) (by omega) (st10 0 0 0 0 0 0 0 0 0 0))
  generalize w2.setRow (w.heap.size + 1 + 1 + 1) (st10 0 0 0 0 0 0 0 0 0 0) = W5 at *
  obtain ⟨q0, q1, q2, q3, q4, q5, q6, q7, q8, q9⟩ := row10 hz2
  clear hz2
  exact bodyPost_ret (v := .tuple #[.agg (st10 0 0 0 0 0 0 0 0 0 0), .slice none 0 0, .int .i64 1]) (by simp [results, Tryz.results43, go_sem, st10, q0, q1, q2, q3, q4, q5, q6, q7, q8, q9]) rfl ⟨none, 0, rfl, Ots.nil _, hB.out, fun k e => by cases e⟩
set_option maxRecDepth 100000 in
set_option maxHeartbeats 8000000 in
theorem vmRun_draws {w : World} {v : Wv} {W : Wd} {s : Sta} {ev : M} {eb : Addr} (hw : Wds w v W) (hE : ErrIs w eb) (hs : s.r.length = 8) (hc : checkW W = 0) (hm : chkM ev = 0) (hd : countB s.d = false) :
    Calls Tryz.prog 43 #[v.val W, s.val, ev.val] w (RunF w (Sta.zero, [], 1)) := by
  have hcall := fun (o1 o2 o3 o4 : Obj) => vmCheck_any (hw.below (((((Below.refl _ w).alloc (Nat.le_refl _) o1).alloc (by simp) o2).alloc (by simp; omega) o3).alloc (by simp; omega) o4)) (hE.below (((((Below.refl _ w).alloc (Nat.le_refl _) o1).alloc (by simp) o2).alloc (by simp; omega) o3).alloc (by simp; omega) o4))
  rw [hc] at hcall
  have hmc := fun w => eCheck_any ev w
  rw [hm] at hmc
  have hcd := fun w => isCount_any s.d w
  rw [hd] at hcd
  clear hw hE hc hm hd
  obtain ⟨⟨t, f, q⟩, to', vv, u, an⟩ := ev
  obtain ⟨r, d, n⟩ := s
  obtain ⟨r0, r1, r2, r3, r4, r5, r6, r7, rfl⟩ := eight hs
  clear hs
  simp only [Wv.val, M.val, Sta.val, Sta.cells, List.map_cons, List.map_nil, List.cons_append, List.nil_append] at * 
  go_enter Tryz.func43, Tryz.ntmps43
  go_wp2_with fail
  refine (hcall _ _ _ _).mono ?_
  rintro e w1 ⟨rfl, hr1⟩
  have F := (Four.mk4 w _ _ _ _).below (hr1.below.mono (by simp))
  clear hcall hr1
  obtain ⟨m0, m1, m2, m3, m4, m5, m6⟩ := row7 F.m
  have Fh := Lib.hid F
  clear F
  go_wp2_with fail
  refine (hmc _).mono ?_
  rintro e w2 ⟨rfl, hr2⟩
  have F := Fh.out.below (hr2.below.mono Fh.out.sz)
  clear hmc hr2 m0 m1 m2 m3 m4 m5 m6 Fh
  have s8 : w2.cell? ⟨w.heap.size + 1, 8, none⟩ = some (.int .i64 d) := row_cell F.s 8 rfl
  have s9 : w2.cell? ⟨w.heap.size + 1, 9, none⟩ = some (.int .i64 n) := row_cell F.s 9 rfl
  have Fh := Lib.hid F
  clear F
  go_upto_region 5 with (go_at_call 64; refine (hcd _).mono ?_; rintro e w' ⟨rfl, rfl⟩)
  have F := Fh.out
  clear s8 s9 Fh hcd
  have F' := Lib.hid F
  have hz := F.z
  clear F
  go_wp2_with (refine wpList_store_row rfl 34 (.tmp 6) (.tmp 33) rfl (w.heap.size + 1 + 1 + 1) (st10 0 0 0 0 0 0 0 0 0 0) rfl rfl 34 (st10 0 0 0 0 0 0 0 0 0 0) hz infoSt rfl (st10_one _ _ _ _ _ _ _ _ _ _) ?_)
  have hz2 := setRow_heap (new := (st10 0 0 0 0 0 0 0 0 0 0)) hz
  have hB := Lib.hid (below_row F'.out.b (g := (w.heap.size + 1 + 1 + 1)) (by omega) (st10 0 0 0 0 0 0 0 0 0 0))
  generalize w2.setRow (w.heap.size + 1 + 1 + 1) (st10 0 0 0 0 0 0 0 0 0 0) = W5 at *
  obtain ⟨q0, q1, q2, q3, q4, q5, q6, q7, q8, q9⟩ := row10 hz2
  clear hz2
  exact bodyPost_ret (v := .tuple #[.agg (st10 0 0 0 0 0 0 0 0 0 0), .slice none 0 0, .int .i64 1]) (by simp [results, Tryz.results43, go_sem, st10, q0, q1, q2, q3, q4, q5, q6, q7, q8, q9]) rfl ⟨none, 0, rfl, Ots.nil _, hB.out, fun k e => by cases e⟩
set_option maxRecDepth 100000 in
set_option maxHeartbeats 8000000 in
theorem vmRun_sent {w : World} {v : Wv} {W : Wd} {s : Sta} {ev : M} {eb : Addr} (hw : Wds w v W) (hE : ErrIs w eb) (hs : s.r.length = 8) (hc : checkW W = 0) (hm : chkM ev = 0) (hd : countB s.d = true) (hn : countB s.s = false) :
    Calls Tryz.prog 43 #[v.val W, s.val, ev.val] w (RunF w (Sta.zero, [], 1)) := by
  have hcall := fun (o1 o2 o3 o4 : Obj) => vmCheck_any (hw.below (((((Below.refl _ w).alloc (Nat.le_refl _) o1).alloc (by simp) o2).alloc (by simp; omega) o3).alloc (by simp; omega) o4)) (hE.below (((((Below.refl _ w).alloc (Nat.le_refl _) o1).alloc (by simp) o2).alloc (by simp; omega) o3).alloc (by simp; omega) o4))
  rw [hc] at hcall
  have hmc := fun w => eCheck_any ev w
  rw [hm] at hmc
  have hcd := fun w => isCount_any s.d w
  rw [hd] at hcd
  have hcn := fun w => isCount_any s.s w
  rw [hn] at hcn
  clear hw hE hc hm hd hn
  obtain ⟨⟨t, f, q⟩, to', vv, u, an⟩ := ev
  obtain ⟨r, d, n⟩ := s
  obtain ⟨r0, r1, r2, r3, r4, r5, r6, r7, rfl⟩ := eight hs
  clear hs
  simp only [Wv.val, M.val, Sta.val, Sta.cells, List.map_cons, List.map_nil, List.cons_append, List.nil_append] at * 
  go_enter Tryz.func43, Tryz.ntmps43
  go_wp2_with fail
  refine (hcall _ _ _ _).mono ?_
  rintro e w1 ⟨rfl, hr1⟩
  have F := (Four.mk4 w _ _ _ _).below (hr1.below.mono (by simp))
  clear hcall hr1
  obtain ⟨m0, m1, m2, m3, m4, m5, m6⟩ := row7 F.m
  have Fh := Lib.hid F
  clear F
  go_wp2_with fail
  refine (hmc _).mono ?_
  rintro e w2 ⟨rfl, hr2⟩
  have F := Fh.out.below (hr2.below.mono Fh.out.sz)
  clear hmc hr2 m0 m1 m2 m3 m4 m5 m6 Fh
  have s8 : w2.cell? ⟨w.heap.size + 1, 8, none⟩ = some (.int .i64 d) := row_cell F.s 8 rfl
  have s9 : w2.cell? ⟨w.heap.size + 1, 9, none⟩ = some (.int .i64 n) := row_cell F.s 9 rfl
  have Fh := Lib.hid F
  clear F
  go_wp2_with fail
  refine (hcd _).mono ?_
  rintro e w' ⟨rfl, rfl⟩
  go_wp2_with fail
  refine (hcn _).mono ?_
  rintro e w' ⟨rfl, rfl⟩
  go_upto_region 5 with (fail)
  have F := Fh.out
  clear s8 s9 Fh hcd hcn
  have F' := Lib.hid F
  have hz := F.z
  clear F
  go_wp2_with (refine wpList_store_row rfl 34 (.tmp 6) (.tmp 33) rfl (w.heap.size + 1 + 1 + 1) (st10 0 0 0 0 0 0 0 0 0 0) rfl rfl 34 (st10 0 0 0 0 0 0 0 0 0 0) hz infoSt rfl (st10_one _ _ _ _ _ _ _ _ _ _) ?_)
  have hz2 := setRow_heap (new := (st10 0 0 0 0 0 0 0 0 0 0)) hz
  have hB := Lib.hid (below_row F'.out.b (g := (w.heap.size + 1 + 1 + 1)) (by omega) (st10 0 0 0 0 0 0 0 0 0 0))
  generalize w2.setRow (w.heap.size + 1 + 1 + 1) (st10 0 0 0 0 0 0 0 0 0 0) = W5 at *
  obtain ⟨q0, q1, q2, q3, q4, q5, q6, q7, q8, q9⟩ := row10 hz2
  clear hz2
  exact bodyPost_ret (v := .tuple #[.agg (st10 0 0 0 0 0 0 0 0 0 0), .slice none 0 0, .int .i64 1]) (by simp [results, Tryz.results43, go_sem, st10, q0, q1, q2, q3, q4, q5, q6, q7, q8, q9]) rfl ⟨none, 0, rfl, Ots.nil _, hB.out, fun k e => by cases e⟩
theorem Four.kp {w w1 w2 : World} {A S M Z : Obj} {x : Nat} (h : Four w w1 A S M Z) (hx : w.heap.size + 4 ≤ x) (hs : w.heap.size + 4 ≤ w1.heap.size) (hk : Kp x w1.heap.size w1 w2) : Four w w2 A S M Z :=
  ⟨(hk.block _ (by omega) (by omega)).trans h.a, (hk.block _ (by omega) (by omega)).trans h.s, (hk.block _ (by omega) (by omega)).trans h.m, (hk.block _ (by omega) (by omega)).trans h.z, h.b.trans (hk.below (by omega) (by omega)), Nat.le_trans h.sz hk.size⟩
theorem zrow {w : World} {g : Nat} (h : w.heap[g]? = some (.cells (st10 0 0 0 0 0 0 0 0 0 0) 34 (0, 0))) : (∀ j, w.frozen? ⟨g, j, none⟩ = false) ∧ w.cell? ⟨g, 0, none⟩ = some (.int .i64 0) ∧ w.cell? ⟨g, 1, none⟩ = some (.int .i64 0) ∧ w.cell? ⟨g, 2, none⟩ = some (.int .i64 0) ∧ w.cell? ⟨g, 3, none⟩ = some (.int .i64 0) ∧ w.cell? ⟨g, 4, none⟩ = some (.int .i64 0) ∧ w.cell? ⟨g, 5, none⟩ = some (.int .i64 0) ∧ w.cell? ⟨g, 6, none⟩ = some (.int .i64 0) ∧ w.cell? ⟨g, 7, none⟩ = some (.int .i64 0) ∧ w.cell? ⟨g, 8, none⟩ = some (.int .i64 0) ∧ w.cell? ⟨g, 9, none⟩ = some (.int .i64 0) :=
  ⟨fun j => by simp [World.frozen?, h], row10 h⟩
def hZero : Array Value := #[.slice none 0 0, .int .i64 0, .slice none 0 0, .int .u64 0, .int .i64 0, .int .i64 0, .int .i64 0, .int .i64 0, .int .i64 0, .int .i64 0, .bool false, .int .i64 0, .int .i64 0, .int .i64 0, .int .i64 0, .int .i64 0, .int .i64 0, .int .i64 0, .int .i64 0, .int .i64 0, .int .i64 0, .int .i64 0, .int .i64 0, .int .i64 0, .int .i64 0, .int .i64 0, .int .i64 0, .int .i64 0, .int .i64 0, .slice none 0 0]
theorem infoH : (Tryz.prog.info? 124).map (·.size) = some 30 := by kernel_rfl
theorem hC_one (v : Wv) (W : Wd) (ev : M) (d : Int) : (hC v W ev (.slice none 0 0) ⟨[0, 0, 0, 0, 0, 0, 0, 0, 0, 0, 0, 0, 0, 0, 0, 0], d, [], 0⟩).all (·.oneCell') = true := by simp [hC, Value.oneCell']
theorem endP_nrm (s : Sta) (r : Res) : endP s (nrm r) = endP s r := by cases r <;> rfl
theorem nrm_noton (r : Res) (m : Mc) : nrm r ≠ .on m := by cases r <;> (intro h; cases h)
theorem checkW_looks {W : Wd} (h : checkW W = 0) : ∀ k, k < W.links.length → 1 ≤ (W.links.getD k default).look := by
  have ha : W.links.all Lk.mayB = true := by
    unfold checkW at h
    split at h
    · contradiction
    · split at h
      · omega
      · split at h
        · assumption
        · omega
  intro k hk
  have hm := List.all_eq_true.1 ha (W.links.getD k default) (by
    simp only [List.getD_eq_getElem?_getD, List.getElem?_eq_getElem hk, Option.getD_some]
    exact List.getElem_mem hk)
  rw [Lk.mayB_eq, decide_eq_true_eq] at hm
  exact hm.2.2.1
theorem checkN_short {is : List I} (h : checkN is = 0) : is.length ≤ 256 := by
  by_cases g : 256 < is.length
  · rw [checkN_long g] at h; omega
  · omega
set_option maxRecDepth 100000 in
set_option maxHeartbeats 8000000 in
theorem vmRun_go {w : World} {v : Wv} {W : Wd} {s : Sta} {ev : M} {eb : Addr} (hw : Wds w v W) (hE : ErrIs w eb) (hs : s.r.length = 8) (hT : ErrT w) (hc : checkW W = 0) (hm : chkM ev = 0) (hd : countB s.d = true) (hn : countB s.s = true) (hsR : ∀ z ∈ s.r, In64 z) (hev : In64 ev.v) :
    Calls Tryz.prog 43 #[v.val W, s.val, ev.val] w (RunF w (endP s (runP W ev 4096 (firstP s)))) := by
  have hcall := fun (o1 o2 o3 o4 : Obj) => vmCheck_any (hw.below (((((Below.refl _ w).alloc (Nat.le_refl _) o1).alloc (by simp) o2).alloc (by simp; omega) o3).alloc (by simp; omega) o4)) (hE.below (((((Below.refl _ w).alloc (Nat.le_refl _) o1).alloc (by simp) o2).alloc (by simp; omega) o3).alloc (by simp; omega) o4))
  rw [hc] at hcall
  have hmc := fun w => eCheck_any ev w
  rw [hm] at hmc
  have hcd := fun w => isCount_any s.d w
  rw [hd] at hcd
  have hcn := fun w => isCount_any s.s w
  rw [hn] at hcn
  have hd' : 0 ≤ s.d ∧ s.d ≤ 1125899906842624 := by simpa [countB] using hd
  have hn' : 0 ≤ s.s ∧ s.s ≤ 1125899906842624 := by simpa [countB] using hn
  have hpre : Hid (∀ (b1 : Nat) (w4 : World) (x : Nat), w.heap.size ≤ x → Below w.heap.size w w4 → HM b1 w4 x v W ev (.slice none 0 0) (firstP s) → RunPre w.heap.size b1 w4 x v W ev (firstP s)) := by
    refine Lib.hid fun b1 w4 x hx hb hh => ?_
    have hz := checkW_zero hc
    exact ⟨hh, rfl, rfl, hx, fun w' hw' => hw.below (hb.trans hw'), fun k hk => checkN_mayAll hz.1 k hk, checkN_short hz.1, hz.2.2, checkW_looks hc, chkM_time hm, hd', fun y hy => by
      simp only [firstP, List.mem_append] at hy
      rcases hy with hy | hy
      · exact hsR y hy
      · simp at hy
        obtain rfl := hy
        omega, hev, by unfold In64; have := hz.2.1; omega, hT.1, ⟨Nat.lt_of_lt_of_le hT.1 hb.size, by rw [hb.cell hT.1]; exact hT.2⟩⟩
  have hs9 : s.s = s.s := rfl
  clear hw hE hc hm hd hn hT hsR hev hs9 hd'
  obtain ⟨⟨t, f, q⟩, to', vv, u, an⟩ := ev
  obtain ⟨r, d, n⟩ := s
  obtain ⟨r0, r1, r2, r3, r4, r5, r6, r7, rfl⟩ := eight hs
  clear hs
  simp only [Wv.val, M.val, Sta.val, Sta.cells, List.map_cons, List.map_nil, List.cons_append, List.nil_append] at * 
  have hRES : Hid (endP ⟨[r0, r1, r2, r3, r4, r5, r6, r7], d, n⟩ (nrm (runP W ⟨⟨t, f, q⟩, to', vv, u, an⟩ 4096 (firstP ⟨[r0, r1, r2, r3, r4, r5, r6, r7], d, n⟩))) = endP ⟨[r0, r1, r2, r3, r4, r5, r6, r7], d, n⟩ (runP W ⟨⟨t, f, q⟩, to', vv, u, an⟩ 4096 (firstP ⟨[r0, r1, r2, r3, r4, r5, r6, r7], d, n⟩))) := Lib.hid (endP_nrm _ _)
  generalize endP ⟨[r0, r1, r2, r3, r4, r5, r6, r7], d, n⟩ (runP W ⟨⟨t, f, q⟩, to', vv, u, an⟩ 4096 (firstP ⟨[r0, r1, r2, r3, r4, r5, r6, r7], d, n⟩)) = RES at hRES ⊢
  go_enter Tryz.func43, Tryz.ntmps43
  go_wp2_with fail
  refine (hcall _ _ _ _).mono ?_
  rintro e w1 ⟨rfl, hr1⟩
  have F := (Four.mk4 w _ _ _ _).below (hr1.below.mono (by simp))
  clear hcall hr1
  obtain ⟨m0, m1, m2, m3, m4, m5, m6⟩ := row7 F.m
  have Fh := Lib.hid F
  clear F
  go_wp2_with fail
  refine (hmc _).mono ?_
  rintro e w2 ⟨rfl, hr2⟩
  have F := Fh.out.below (hr2.below.mono Fh.out.sz)
  clear hmc hr2 m0 m1 m2 m3 m4 m5 m6 Fh
  have s8 : w2.cell? ⟨w.heap.size + 1, 8, none⟩ = some (.int .i64 d) := row_cell F.s 8 rfl
  have s9 : w2.cell? ⟨w.heap.size + 1, 9, none⟩ = some (.int .i64 n) := row_cell F.s 9 rfl
  obtain ⟨a0, a1, a2, a3⟩ := row4 F.a
  obtain ⟨m0, m1, m2, m3, m4, m5, m6⟩ := row7 F.m
  have Fh := Lib.hid F
  clear F
  go_wp2_with fail
  refine (hcd _).mono ?_
  rintro e w' ⟨rfl, rfl⟩
  go_wp2_with fail
  refine (hcn _).mono ?_
  rintro e w' ⟨rfl, rfl⟩
  clear hcd hcn
  have hzh := heap_alloc_new w2 (.cells hZero 124)
  have hbh : Below w2.heap.size w2 (w2.alloc (.cells hZero 124)) := (Below.refl _ w2).alloc (Nat.le_refl _) _
  change (w2.alloc (.cells #[.slice none 0 0, .int .i64 0, .slice none 0 0, .int .u64 0, .int .i64 0, .int .i64 0, .int .i64 0, .int .i64 0, .int .i64 0, .int .i64 0, .bool false, .int .i64 0, .int .i64 0, .int .i64 0, .int .i64 0, .int .i64 0, .int .i64 0, .int .i64 0, .int .i64 0, .int .i64 0, .int .i64 0, .int .i64 0, .int .i64 0, .int .i64 0, .int .i64 0, .int .i64 0, .int .i64 0, .int .i64 0, .int .i64 0, .slice none 0 0] 124)).heap[w2.heap.size]? = some (.cells hZero 124 (0, 0)) at hzh
  go_wp2_with (refine wpList_store_row rfl 124 (.tmp 10) (.tmp 38) rfl w2.heap.size (hC v W ⟨⟨t, f, q⟩, to', vv, u, an⟩ (.slice none 0 0) ⟨[0, 0, 0, 0, 0, 0, 0, 0, 0, 0, 0, 0, 0, 0, 0, 0], d, [], 0⟩) rfl rfl 124 hZero hzh infoH rfl (hC_one _ _ _ _) ?_)
  clear s8 s9 a0 a1 a2 a3 m0 m1 m2 m3 m4 m5 m6
  change Below w2.heap.size w2 (w2.alloc (.cells #[.slice none 0 0, .int .i64 0, .slice none 0 0, .int .u64 0, .int .i64 0, .int .i64 0, .int .i64 0, .int .i64 0, .int .i64 0, .int .i64 0, .bool false, .int .i64 0, .int .i64 0, .int .i64 0, .int .i64 0, .int .i64 0, .int .i64 0, .int .i64 0, .int .i64 0, .int .i64 0, .int .i64 0, .int .i64 0, .int .i64 0, .int .i64 0, .int .i64 0, .int .i64 0, .int .i64 0, .int .i64 0, .int .i64 0, .slice none 0 0] 124)) at hbh
  have hz3 := Lib.hid (hsetRow_heap (new := (hC v W ⟨⟨t, f, q⟩, to', vv, u, an⟩ (.slice none 0 0) ⟨[0, 0, 0, 0, 0, 0, 0, 0, 0, 0, 0, 0, 0, 0, 0, 0], d, [], 0⟩)) hzh)
  have hb3 := hbelow_row hbh (Nat.le_refl _) (hC v W ⟨⟨t, f, q⟩, to', vv, u, an⟩ (.slice none 0 0) ⟨[0, 0, 0, 0, 0, 0, 0, 0, 0, 0, 0, 0, 0, 0, 0, 0], d, [], 0⟩)
  generalize (w2.alloc (.cells #[.slice none 0 0, .int .i64 0, .slice none 0 0, .int .u64 0, .int .i64 0, .int .i64 0, .int .i64 0, .int .i64 0, .int .i64 0, .int .i64 0, .bool false, .int .i64 0, .int .i64 0, .int .i64 0, .int .i64 0, .int .i64 0, .int .i64 0, .int .i64 0, .int .i64 0, .int .i64 0, .int .i64 0, .int .i64 0, .int .i64 0, .int .i64 0, .int .i64 0, .int .i64 0, .int .i64 0, .int .i64 0, .int .i64 0, .slice none 0 0] 124)).setRow w2.heap.size (hC v W ⟨⟨t, f, q⟩, to', vv, u, an⟩ (.slice none 0 0) ⟨[0, 0, 0, 0, 0, 0, 0, 0, 0, 0, 0, 0, 0, 0, 0, 0], d, [], 0⟩) = W3 at *
  clear hzh hbh
  have Fs := Lib.hid (Fh.out.below (hb3.mono Fh.out.sz))
  have hx0 := Fh.out.sz
  have hxs : w2.heap.size < W3.heap.size := (Array.getElem?_eq_some_iff.1 hz3.out).1
  clear Fh hb3
  generalize w2.heap.size = x at *
  clear w2
  refine wp_region_still_tail 4 (by kernel_rfl) (by kernel_rfl) ?_
  change wpStill _ _ W3.drew (fun a' => wpList _ _ _ _ a' (W3.drew)) _ _
  have hz4 : Hid (W3.drew.heap[x]? = some (.cells (hC v W ⟨⟨t, f, q⟩, to', vv, u, an⟩ (.slice none 0 0) ⟨[0, 0, 0, 0, 0, 0, 0, 0, 0, 0, 0, 0, 0, 0, 0, 0], d, [], 0⟩) 124 (0, 0))) := Lib.hid hz3.out
  have F4 := Lib.hid (Fs.out.below (w2 := W3.drew) ((Below.refl _ W3).drew))
  have hxs4 : x < W3.drew.heap.size := hxs
  clear hz3 Fs hxs
  generalize W3.drew = W4 at *
  simp only [List.take_succ_cons, List.take_zero, List.drop_succ_cons, List.drop_zero]
  repeat still_step
  refine wpStill_nil ?_
  refine wpList_copy_own rfl _ _ _ _ rfl 2 Tryz.underlying125 infoI64 x 11 16 16 ⟨w.heap.size + 1, 0, none⟩ 8 8 rfl rfl (hC v W ⟨⟨t, f, q⟩, to', vv, u, an⟩ (.slice none 0 0) ⟨[0, 0, 0, 0, 0, 0, 0, 0, 0, 0, 0, 0, 0, 0, 0, 0], d, [], 0⟩) 124 hz4.out [Value.int .i64 r0, .int .i64 r1, .int .i64 r2, .int .i64 r3, .int .i64 r4, .int .i64 r5, .int .i64 r6, .int .i64 r7] rfl (fun j u hj => by
    rw [addr_add]
    have hjl : j < 8 := by
      have := (List.getElem?_eq_some_iff.1 hj).1
      simpa using this
    obtain rfl | rfl | rfl | rfl | rfl | rfl | rfl | rfl : j = 0 ∨ j = 1 ∨ j = 2 ∨ j = 3 ∨ j = 4 ∨ j = 5 ∨ j = 6 ∨ j = 7 := by omega
    all_goals
      cases hj
      exact row_cell F4.out.s _ rfl) (by simp [hC]) (by simp [Value.oneCell']) ?_
  rw [hC_copy]
  have hz5 := hsetRow_heap (new := (hC v W ⟨⟨t, f, q⟩, to', vv, u, an⟩ (.slice none 0 0) (firstP ⟨[r0, r1, r2, r3, r4, r5, r6, r7], d, n⟩))) hz4.out
  have F5 := Lib.hid (F4.out.below (w2 := W4.setRow x (hC v W ⟨⟨t, f, q⟩, to', vv, u, an⟩ (.slice none 0 0) (firstP ⟨[r0, r1, r2, r3, r4, r5, r6, r7], d, n⟩))) (hbelow_row (Below.refl _ W4) hx0 _))
  have hs5 : x < (W4.setRow x (hC v W ⟨⟨t, f, q⟩, to', vv, u, an⟩ (.slice none 0 0) (firstP ⟨[r0, r1, r2, r3, r4, r5, r6, r7], d, n⟩))).heap.size := (Array.getElem?_eq_some_iff.1 hz5).1
  generalize W4.setRow x (hC v W ⟨⟨t, f, q⟩, to', vv, u, an⟩ (.slice none 0 0) (firstP ⟨[r0, r1, r2, r3, r4, r5, r6, r7], d, n⟩)) = W5 at *
  clear hz4 F4 hxs4 W4
  have hM : HM (x + 1) W5 x v W ⟨⟨t, f, q⟩, to', vv, u, an⟩ (.slice none 0 0) (firstP ⟨[r0, r1, r2, r3, r4, r5, r6, r7], d, n⟩) := ⟨Nat.lt_succ_self _, hs5, hz5, rfl, own_nil W5 _⟩
  have hrun := h_run (hpre.out (x + 1) W5 x (by omega) F5.out.b hM)
  clear hz5 hM hpre
  cases hr : nrm (runP W ⟨⟨t, f, q⟩, to', vv, u, an⟩ 4096 (firstP ⟨[r0, r1, r2, r3, r4, r5, r6, r7], d, n⟩)) with
  | on m2 => exact absurd hr (nrm_noton _ _)
  | fault k =>
    rw [hr] at hrun hRES
    clear hr
    go_wp2_with fail
    refine hrun.mono ?_
    rintro e W6 ⟨rfl, hk0, hK⟩
    have hk' : (k == 0) = false := by simpa using hk0
    have F6 := F5.out.kp hx0 (Nat.le_of_lt (Nat.lt_of_lt_of_le (by omega) hs5)) hK
    have hz6 := F6.z
    have hs6 : W6.heap[w.heap.size + 1]? = some (.cells (st10 r0 r1 r2 r3 r4 r5 r6 r7 d n) 34 (0, 0)) := F6.s
    obtain ⟨c0, c1, c2, c3, c4, c5, c6, c7, c8, c9⟩ := row10 hs6
    have hB6 := Lib.hid F6.b
    clear hK F6 hs6 hk0 hrun F5 hs5 hx0
    go_wp2_with (refine wpList_store_row rfl 34 (.tmp 6) (.tmp 47) rfl (w.heap.size + 1 + 1 + 1) (st10 r0 r1 r2 r3 r4 r5 r6 r7 d n) rfl rfl 34 (st10 0 0 0 0 0 0 0 0 0 0) hz6 infoSt rfl (st10_one _ _ _ _ _ _ _ _ _ _) ?_)
    have hz2 := setRow_heap (new := (st10 r0 r1 r2 r3 r4 r5 r6 r7 d n)) hz6
    have hB := Lib.hid (below_row hB6.out (g := w.heap.size + 1 + 1 + 1) (by omega) (st10 r0 r1 r2 r3 r4 r5 r6 r7 d n))
    generalize W6.setRow (w.heap.size + 1 + 1 + 1) (st10 r0 r1 r2 r3 r4 r5 r6 r7 d n) = W7 at *
    obtain ⟨q0, q1, q2, q3, q4, q5, q6, q7, q8, q9⟩ := row10 hz2
    clear hz2 c0 c1 c2 c3 c4 c5 c6 c7 c8 c9
    refine bodyPost_ret (v := .tuple #[.agg (st10 r0 r1 r2 r3 r4 r5 r6 r7 d n), .slice none 0 0, .int .i64 k]) (by simp [results, Tryz.results43, go_sem, st10, q0, q1, q2, q3, q4, q5, q6, q7, q8, q9]) rfl ?_
    rw [← hRES.out]
    exact ⟨none, 0, rfl, Ots.nil _, hB.out, fun k e => by cases e⟩
  | stop m2 =>
    rw [hr] at hrun hRES
    clear hr
    go_wp2_with fail
    refine hrun.mono ?_
    rintro e W6 ⟨rfl, b2, ov', pc', hM, hK, ho8⟩
    have F6 := F5.out.kp hx0 (Nat.le_of_lt (Nat.lt_of_lt_of_le (by omega) hs5)) hK
    obtain ⟨mr, md, mo, mp⟩ := m2
    obtain ⟨oa, oc, ho⟩ := hown_slice hM.own
    obtain ⟨y0, y1, y2, y3, y4, y5, y6, y7, y8, y9, ya, yb, yc, yd, ye, yf, hy⟩ := six16 hM.rl
    simp only at hy ho ho8
    subst hy
    subst ho
    have hst : ∀ w', HM b2 w' x v W ⟨⟨t, f, q⟩, to', vv, u, an⟩ (.slice oa mo.length oc) ⟨[y0, y1, y2, y3, y4, y5, y6, y7, y8, y9, ya, yb, yc, yd, ye, yf], md, mo, pc'⟩ →
        Calls Tryz.prog 66 #[.pointer (some ⟨x, 0, none⟩), .int .i64 n] w' fun e w2 => e = .returned (.agg #[.int .i64 y0, .int .i64 y1, .int .i64 y2, .int .i64 y3, .int .i64 y4, .int .i64 y5, .int .i64 y6, .int .i64 y7, .int .i64 md, .int .i64 (n + (mo.length : Int))]) ∧ Below w'.heap.size w' w2 :=
      fun w' h' => hState_any h' ho8 n hn'.1 hn'.2
    have hMd := hM.drew
    have hMw := hM.xb
    have hMb := hM.hb
    have s9 : W6.cell? ⟨w.heap.size + 1, 9, none⟩ = some (.int .i64 n) := row_cell F6.s 9 rfl
    have e29 : W6.cell? ⟨x, 29, none⟩ = some (.slice oa mo.length oc) := hM.o
    have hM' := Lib.hid hM
    have F6' := Lib.hid F6
    have hF6s := F6.sz
    have hnz1 : x ≠ w.heap.size + 1 + 1 + 1 := by omega
    have hnz2 : w.heap.size + 1 ≠ w.heap.size + 1 + 1 + 1 := by omega
    clear hM hK F6 F5 hs5 hrun
    go_wp2_with fail
    go_region_held3 (fun w' => w'.cell? ⟨w.heap.size + 1, 9, none⟩ = some (.int .i64 n) ∧ w'.cell? ⟨x, 29, none⟩ = some (.slice oa mo.length oc))
      (first | with_reducible exact ⟨s9, e29⟩ | with_reducible exact ⟨s9d, e29d⟩ | with_reducible exact ⟨(far10 hnz2).trans s9d, (far10 hnz1).trans e29d⟩ | go_keep)
      (first | (go_at_call 66; refine (hst _ hMd).mono ?_; rintro e W7 ⟨rfl, hb7⟩; have s9d : W7.cell? ⟨w.heap.size + 1, 9, none⟩ = some (.int .i64 n) := (hb7.cell (p := ⟨w.heap.size + 1, 9, none⟩) (by show w.heap.size + 1 < W6.heap.size; omega)).trans s9; have e29d : W7.cell? ⟨x, 29, none⟩ = some (.slice oa mo.length oc) := (hb7.cell (p := ⟨x, 29, none⟩) (by show x < W6.heap.size; omega)).trans e29; obtain ⟨zf, zc0, zc1, zc2, zc3, zc4, zc5, zc6, zc7, zc8, zc9⟩ := zrow ((hb7.block (w.heap.size + 1 + 1 + 1) (by show w.heap.size + 1 + 1 + 1 < W6.heap.size; omega)).trans F6'.out.z)))
    have hz7 := (hb7.block (w.heap.size + 1 + 1 + 1) (by show w.heap.size + 1 + 1 + 1 < W6.heap.size; omega)).trans F6'.out.z
    have hB7 : Below w.heap.size w W7 := F6'.out.b.trans ((show Below W6.heap.size W6 W7 from ⟨hb7.os, hb7.tape, hb7.output, hb7.size, hb7.block⟩).mono (by omega))
    have hD7 := hM'.out.drew.below hb7
    have hz2 : ((((((((((W7.setCell ⟨w.heap.size + 1 + 1 + 1, 0, none⟩ (.int .i64 y0)).setCell ⟨w.heap.size + 1 + 1 + 1, 1, none⟩ (.int .i64 y1)).setCell ⟨w.heap.size + 1 + 1 + 1, 2, none⟩ (.int .i64 y2)).setCell ⟨w.heap.size + 1 + 1 + 1, 3, none⟩ (.int .i64 y3)).setCell ⟨w.heap.size + 1 + 1 + 1, 4, none⟩ (.int .i64 y4)).setCell ⟨w.heap.size + 1 + 1 + 1, 5, none⟩ (.int .i64 y5)).setCell ⟨w.heap.size + 1 + 1 + 1, 6, none⟩ (.int .i64 y6)).setCell ⟨w.heap.size + 1 + 1 + 1, 7, none⟩ (.int .i64 y7)).setCell ⟨w.heap.size + 1 + 1 + 1, 8, none⟩ (.int .i64 md)).setCell ⟨w.heap.size + 1 + 1 + 1, 9, none⟩ (.int .i64 (n + (mo.length : Int)))).heap[w.heap.size + 1 + 1 + 1]? = _ := heap10 hz7
    have hB : Hid (Below w.heap.size w ((((((((((W7.setCell ⟨w.heap.size + 1 + 1 + 1, 0, none⟩ (.int .i64 y0)).setCell ⟨w.heap.size + 1 + 1 + 1, 1, none⟩ (.int .i64 y1)).setCell ⟨w.heap.size + 1 + 1 + 1, 2, none⟩ (.int .i64 y2)).setCell ⟨w.heap.size + 1 + 1 + 1, 3, none⟩ (.int .i64 y3)).setCell ⟨w.heap.size + 1 + 1 + 1, 4, none⟩ (.int .i64 y4)).setCell ⟨w.heap.size + 1 + 1 + 1, 5, none⟩ (.int .i64 y5)).setCell ⟨w.heap.size + 1 + 1 + 1, 6, none⟩ (.int .i64 y6)).setCell ⟨w.heap.size + 1 + 1 + 1, 7, none⟩ (.int .i64 y7)).setCell ⟨w.heap.size + 1 + 1 + 1, 8, none⟩ (.int .i64 md)).setCell ⟨w.heap.size + 1 + 1 + 1, 9, none⟩ (.int .i64 (n + (mo.length : Int))))) := Lib.hid (below10 hB7 (g := w.heap.size + 1 + 1 + 1) (by omega))
    have hF : Hid (∀ k, (Value.slice oa mo.length oc).ownBlock = some k → w.heap.size ≤ k) := Lib.hid (fun k e => by have h1 := hD7.xb; have h2 := (hD7.own.lt k e).1; have h3 := hx0; omega)
    have hO : Hid (Ots ((((((((((W7.setCell ⟨w.heap.size + 1 + 1 + 1, 0, none⟩ (.int .i64 y0)).setCell ⟨w.heap.size + 1 + 1 + 1, 1, none⟩ (.int .i64 y1)).setCell ⟨w.heap.size + 1 + 1 + 1, 2, none⟩ (.int .i64 y2)).setCell ⟨w.heap.size + 1 + 1 + 1, 3, none⟩ (.int .i64 y3)).setCell ⟨w.heap.size + 1 + 1 + 1, 4, none⟩ (.int .i64 y4)).setCell ⟨w.heap.size + 1 + 1 + 1, 5, none⟩ (.int .i64 y5)).setCell ⟨w.heap.size + 1 + 1 + 1, 6, none⟩ (.int .i64 y6)).setCell ⟨w.heap.size + 1 + 1 + 1, 7, none⟩ (.int .i64 y7)).setCell ⟨w.heap.size + 1 + 1 + 1, 8, none⟩ (.int .i64 md)).setCell ⟨w.heap.size + 1 + 1 + 1, 9, none⟩ (.int .i64 (n + (mo.length : Int)))) oa mo.length oc mo) := Lib.hid (ots_own (own10 hD7.own (g := w.heap.size + 1 + 1 + 1) (by omega)))
    clear hst hMd s9 e29 hM' F6' hz7 hB7 hD7 s9d e29d zf zc0 zc1 zc2 zc3 zc4 zc5 zc6 zc7 zc8 zc9 hnz1 hnz2 hb7
    generalize ((((((((((W7.setCell ⟨w.heap.size + 1 + 1 + 1, 0, none⟩ (.int .i64 y0)).setCell ⟨w.heap.size + 1 + 1 + 1, 1, none⟩ (.int .i64 y1)).setCell ⟨w.heap.size + 1 + 1 + 1, 2, none⟩ (.int .i64 y2)).setCell ⟨w.heap.size + 1 + 1 + 1, 3, none⟩ (.int .i64 y3)).setCell ⟨w.heap.size + 1 + 1 + 1, 4, none⟩ (.int .i64 y4)).setCell ⟨w.heap.size + 1 + 1 + 1, 5, none⟩ (.int .i64 y5)).setCell ⟨w.heap.size + 1 + 1 + 1, 6, none⟩ (.int .i64 y6)).setCell ⟨w.heap.size + 1 + 1 + 1, 7, none⟩ (.int .i64 y7)).setCell ⟨w.heap.size + 1 + 1 + 1, 8, none⟩ (.int .i64 md)).setCell ⟨w.heap.size + 1 + 1 + 1, 9, none⟩ (.int .i64 (n + (mo.length : Int)))) = W9 at *
    obtain ⟨q0, q1, q2, q3, q4, q5, q6, q7, q8, q9⟩ := row10 hz2
    clear hz2
    go_wp2_with fail
    refine bodyPost_ret (v := .tuple #[.agg (st10 y0 y1 y2 y3 y4 y5 y6 y7 md (n + (mo.length : Int))), .slice oa mo.length oc, .int .i64 0]) (by simp [results, Tryz.results43, go_sem, st10, q0, q1, q2, q3, q4, q5, q6, q7, q8, q9]) rfl ?_
    rw [← hRES.out]
    exact ⟨oa, oc, rfl, hO.out, hB.out, hF.out⟩
/-- The program's Run, at every world, state and message that can be read. -/
theorem vmRun_new {w : World} {v : Wv} {W : Wd} {s : Sta} {ev : M} {eb : Addr} (hw : Wds w v W) (hE : ErrIs w eb) (hT : ErrT w) (hs : s.r.length = 8) (hsR : ∀ z ∈ s.r, In64 z) (hev : In64 ev.v) :
    Calls Tryz.prog 43 #[v.val W, s.val, ev.val] w (RunF w (runW W s ev)) := by
  unfold runW
  by_cases hc : checkW W = 0
  · rw [if_neg (by simp [hc])]
    by_cases hm : chkM ev = 0
    · cases hd : countB s.d with
      | true =>
        cases hn : countB s.s with
        | true => rw [if_neg (by simp [hm, mayB_counts, hd, hn])]; exact vmRun_go hw hE hs hT hc hm hd hn hsR hev
        | false => rw [if_pos (Or.inr (by simp [mayB_counts, hn]))]; exact vmRun_sent hw hE hs hc hm hd hn
      | false => rw [if_pos (Or.inr (by simp [mayB_counts, hd]))]; exact vmRun_draws hw hE hs hc hm hd
    · rw [if_pos (Or.inl hm)]; exact vmRun_msg hw hE hs hc hm
  · rw [if_pos hc]; exact vmRun_check hw hE hs hc
end Go.Proofs.YtminfmjgmmkaoaaGreatDoor
