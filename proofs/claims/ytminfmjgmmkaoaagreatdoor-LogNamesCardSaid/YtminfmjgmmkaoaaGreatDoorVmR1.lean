/-
  The contract of the program's 'state': what a process remembers once its program has ended.
-/
import Derived.Test.YtminfmjgmmkaoaaGreatDoorVmH8
import Derived.Test.YtminfmjgmmkaoaaGreatDoorVmD8
import Derived.Test.YtminfmjgmmkaoaaGreatDoorVmC
import Derived.Laws.CopyOwn
import Derived.StillTailTactics
namespace Go.Proofs.YtminfmjgmmkaoaaGreatDoor
open Go.ChangeShapes Go.WideShapes Go.ChangeAt Go.RowKit Go.Sort
set_option linter.unusedVariables false
set_option maxRecDepth 4000

theorem row10 {w : World} {g : Nat} {r0 r1 r2 r3 r4 r5 r6 r7 d n : Int} (h : w.heap[g]? = some (.cells (st10 r0 r1 r2 r3 r4 r5 r6 r7 d n) 34 (0, 0))) :
    w.cell? ⟨g, 0, none⟩ = some (.int .i64 r0) ∧ w.cell? ⟨g, 1, none⟩ = some (.int .i64 r1) ∧ w.cell? ⟨g, 2, none⟩ = some (.int .i64 r2) ∧ w.cell? ⟨g, 3, none⟩ = some (.int .i64 r3) ∧ w.cell? ⟨g, 4, none⟩ = some (.int .i64 r4) ∧ w.cell? ⟨g, 5, none⟩ = some (.int .i64 r5) ∧ w.cell? ⟨g, 6, none⟩ = some (.int .i64 r6) ∧ w.cell? ⟨g, 7, none⟩ = some (.int .i64 r7) ∧ w.cell? ⟨g, 8, none⟩ = some (.int .i64 d) ∧ w.cell? ⟨g, 9, none⟩ = some (.int .i64 n) :=
  ⟨row_cell h 0 rfl, row_cell h 1 rfl, row_cell h 2 rfl, row_cell h 3 rfl, row_cell h 4 rfl, row_cell h 5 rfl, row_cell h 6 rfl, row_cell h 7 rfl, row_cell h 8 rfl, row_cell h 9 rfl⟩
theorem copy8 (d n : Int) (c0 c1 c2 c3 c4 c5 c6 c7 : Int) : ((st10 0 0 0 0 0 0 0 0 d n).toList.take 0 ++ ([Value.int .i64 c0, .int .i64 c1, .int .i64 c2, .int .i64 c3, .int .i64 c4, .int .i64 c5, .int .i64 c6, .int .i64 c7] ++ (st10 0 0 0 0 0 0 0 0 d n).toList.drop (0 + [Value.int .i64 c0, .int .i64 c1, .int .i64 c2, .int .i64 c3, .int .i64 c4, .int .i64 c5, .int .i64 c6, .int .i64 c7].length))).toArray = st10 c0 c1 c2 c3 c4 c5 c6 c7 d n := rfl
theorem infoI64 : (Tryz.prog.info? 2).map (·.size) = some 1 := by kernel_rfl
theorem addr_add (b o j : Nat) : (⟨b, o, none⟩ : Addr).add j = ⟨b, o + j, none⟩ := by unfold Addr.add; split <;> simp_all
set_option maxHeartbeats 4000000 in
theorem hState_any {b2 : Nat} {w : World} {x : Nat} {v : Wv} {W : Wd} {ev : M} {ov : Value} {m : Mc} (h : HM b2 w x v W ev ov m) (ho8 : m.o.length ≤ 8) (n : Int) (hn0 : 0 ≤ n) (hn1 : n ≤ 1125899906842624) :
    Calls Tryz.prog 66 #[.pointer (some ⟨x, 0, none⟩), .int .i64 n] w fun e w' => e = .returned (Sta.val ⟨m.r.take 8, m.d, n + (m.o.length : Int)⟩) ∧ Below w.heap.size w w' := by
  obtain ⟨oa, oc, ho⟩ := hown_slice h.own
  obtain ⟨y0, y1, y2, y3, y4, y5, y6, y7, y8, y9, ya, yb, yc, yd, ye, yf, hy⟩ := six16 h.rl
  have hv : Sta.val ⟨m.r.take 8, m.d, n + (m.o.length : Int)⟩ = .agg (st10 y0 y1 y2 y3 y4 y5 y6 y7 m.d (n + (m.o.length : Int))) := by rw [hy]; rfl
  rw [hv]
  have hregs : ∀ (w2 : World), HM b2 w2 x v W ev ov m → ∀ (j : Nat) (u : Value), [Value.int .i64 y0, .int .i64 y1, .int .i64 y2, .int .i64 y3, .int .i64 y4, .int .i64 y5, .int .i64 y6, .int .i64 y7][j]? = some u → w2.cell? ⟨x, 11 + j, none⟩ = some u := by
    intro w2 h2 j u hj
    have hjl : j < 8 := by
      have := (List.getElem?_eq_some_iff.1 hj).1
      simpa using this
    have := h2.reg j (by omega)
    rw [this]
    rw [← hj]
    have e : m.reg j = m.r.getD j 0 := by simp [Mc.reg]
    rw [e, hy]
    obtain rfl | rfl | rfl | rfl | rfl | rfl | rfl | rfl : j = 0 ∨ j = 1 ∨ j = 2 ∨ j = 3 ∨ j = 4 ∨ j = 5 ∨ j = 6 ∨ j = 7 := by omega
    all_goals rfl
  have hregs' := Lib.hid hregs
  have hD1 : HM b2 (w.alloc (.cells (st10 0 0 0 0 0 0 0 0 0 0) 34)) x v W ev ov m := h.alloc _
  have hZ1 := heap_alloc_new w (.cells (st10 0 0 0 0 0 0 0 0 0 0) 34)
  have hB1 : Below w.heap.size w (w.alloc (.cells (st10 0 0 0 0 0 0 0 0 0 0) 34)) := (Below.refl _ w).alloc (Nat.le_refl _) _
  have hs1 : (w.alloc (.cells (st10 0 0 0 0 0 0 0 0 0 0) 34)).heap.size = w.heap.size + 1 := by simp
  have hxw := h.xw
  have ho' := Lib.hid ho
  have hb2 := h.hb
  clear hy hv hregs h ho
  go_enter Tryz.func66, Tryz.ntmps66
  go_upto_region 1 with (fail)
  change HM b2 (w.alloc (.cells #[.int .i64 0, .int .i64 0, .int .i64 0, .int .i64 0, .int .i64 0, .int .i64 0, .int .i64 0, .int .i64 0, .int .i64 0, .int .i64 0] 34)) x v W ev ov m at hD1
  change (w.alloc (.cells #[.int .i64 0, .int .i64 0, .int .i64 0, .int .i64 0, .int .i64 0, .int .i64 0, .int .i64 0, .int .i64 0, .int .i64 0, .int .i64 0] 34)).heap[w.heap.size]? = some (.cells (st10 0 0 0 0 0 0 0 0 0 0) 34 (0, 0)) at hZ1
  change Below w.heap.size w (w.alloc (.cells #[.int .i64 0, .int .i64 0, .int .i64 0, .int .i64 0, .int .i64 0, .int .i64 0, .int .i64 0, .int .i64 0, .int .i64 0, .int .i64 0] 34)) at hB1
  change (w.alloc (.cells #[.int .i64 0, .int .i64 0, .int .i64 0, .int .i64 0, .int .i64 0, .int .i64 0, .int .i64 0, .int .i64 0, .int .i64 0, .int .i64 0] 34)).heap.size = w.heap.size + 1 at hs1
  generalize w.alloc (.cells #[.int .i64 0, .int .i64 0, .int .i64 0, .int .i64 0, .int .i64 0, .int .i64 0, .int .i64 0, .int .i64 0, .int .i64 0, .int .i64 0] 34) = W1 at *
  have hxW : x < W1.heap.size := hD1.xw
  have e28 : ∀ p, (wide W1 p).cell? ⟨x, 28, none⟩ = some (.int .i64 m.d) := fun p => wide_cell p hxW hD1.d
  have e29 : ∀ p, (wide W1 p).cell? ⟨x, 29, none⟩ = some (.slice oa m.o.length oc) := fun p => wide_cell p hxW (ho'.out ▸ hD1.o)
  have hwr : IntKind.i64.wrap (n + (m.o.length : Int)) = n + (m.o.length : Int) := IntWalk.i64_in _ (by omega)
  have hs1' := Lib.hid hs1
  have hD1' := Lib.hid hD1
  have hZ1' := Lib.hid hZ1
  clear hs1 hD1 hZ1
  refine wp_region_alloc_tail 12 (.cells (st10 0 0 0 0 0 0 0 0 0 0) 34 (0, 0)) (some 5) (by kernel_rfl) (by kernel_rfl) (fun _ _ => by kernel_rfl) (by kernel_rfl) ?_
  simp only [List.take_succ_cons, List.take_zero, List.drop_succ_cons, List.drop_zero]
  repeat (refine wpQuietB_step (fun K hK => ?_); go_simp; refine hK _ ?_; clear hK K)
  refine wpQuietB_nil ?_
  intro T W2 hb2' hT hz
  clear e28 e29 hwr
  go_wp2_with (refine wpList_store_row rfl 34 (.tmp 5) (.tmp 17) rfl T (st10 0 0 0 0 0 0 0 0 m.d (n + (m.o.length : Int))) rfl rfl 34 (st10 0 0 0 0 0 0 0 0 0 0) hz infoSt rfl (st10_one _ _ _ _ _ _ _ _ _ _) ?_)
  have hz3 := setRow_heap (new := (st10 0 0 0 0 0 0 0 0 m.d (n + (m.o.length : Int)))) hz
  have hB3 := hbelow_row hb2' hT (st10 0 0 0 0 0 0 0 0 m.d (n + (m.o.length : Int)))
  generalize W2.setRow T (st10 0 0 0 0 0 0 0 0 m.d (n + (m.o.length : Int))) = W3 at *
  have hD3 := hD1'.out.below hB3
  have hZ3 := (hB3.block w.heap.size (by have := hs1'.out; omega)).trans hZ1'.out
  clear hz hb2' hD1' hZ1' W2
  have hxT : x ≠ T := by omega
  have hD3' := Lib.hid hD3
  have hz3' := Lib.hid hz3
  have hZ3' := Lib.hid hZ3
  clear hD3 hz3 hZ3
  go_upto_region 2 with (fail)
  refine wp_region_still_tail 6 (by kernel_rfl) (by kernel_rfl) ?_
  change wpStill _ _ W3.drew (fun a' => wpList _ _ _ _ a' (W3.drew)) _ _
  have hB4 : Below W1.heap.size W1 W3.drew := hB3.drew
  have hD4 := Lib.hid hD3'.out.drew
  have hz4 : Hid (W3.drew.heap[T]? = some (.cells (st10 0 0 0 0 0 0 0 0 m.d (n + (m.o.length : Int))) 34 (0, 0))) := Lib.hid hz3'.out
  have hZ4 : Hid (W3.drew.heap[w.heap.size]? = some (.cells (st10 0 0 0 0 0 0 0 0 0 0) 34 (0, 0))) := Lib.hid hZ3'.out
  clear hD3' hz3' hZ3' hB3
  generalize W3.drew = W4 at *
  simp only [List.take_succ_cons, List.take_zero, List.drop_succ_cons, List.drop_zero]
  repeat still_step
  refine wpStill_nil ?_
  refine wpList_copy_own rfl _ _ _ _ rfl 2 Tryz.underlying125 infoI64 T 0 8 8 ⟨x, 11, none⟩ 16 16 rfl rfl (st10 0 0 0 0 0 0 0 0 m.d (n + (m.o.length : Int))) 34 hz4.out [Value.int .i64 y0, .int .i64 y1, .int .i64 y2, .int .i64 y3, .int .i64 y4, .int .i64 y5, .int .i64 y6, .int .i64 y7] rfl (fun j u hj => by rw [addr_add]; exact hregs'.out W4 hD4.out j u hj) (by simp [st10]) (by simp [Value.oneCell']) ?_
  rw [copy8]
  have hz5 := setRow_heap (new := (st10 y0 y1 y2 y3 y4 y5 y6 y7 m.d (n + (m.o.length : Int)))) hz4.out
  have hB5 := hbelow_row hB4 hT (st10 y0 y1 y2 y3 y4 y5 y6 y7 m.d (n + (m.o.length : Int)))
  have hZ5 := (show (W4.setRow T (st10 y0 y1 y2 y3 y4 y5 y6 y7 m.d (n + (m.o.length : Int)))).heap[w.heap.size]? = W4.heap[w.heap.size]? from setRow_other W4 T w.heap.size _ (by have := hs1'.out; omega)).trans hZ4.out
  generalize W4.setRow T (st10 y0 y1 y2 y3 y4 y5 y6 y7 m.d (n + (m.o.length : Int))) = W5 at *
  clear hz4 hB4 hZ4 hD4 hregs' W4 W3
  obtain ⟨c0, c1, c2, c3, c4, c5, c6, c7, c8, c9⟩ := row10 hz5
  have hZ5' := hZ5
  go_wp2_with (refine wpList_store_row rfl 34 (.tmp 4) (.tmp 25) rfl w.heap.size (st10 y0 y1 y2 y3 y4 y5 y6 y7 m.d (n + (m.o.length : Int))) rfl rfl 34 (st10 0 0 0 0 0 0 0 0 0 0) hZ5 infoSt rfl (st10_one _ _ _ _ _ _ _ _ _ _) ?_)
  have hZ6 := setRow_heap (new := (st10 y0 y1 y2 y3 y4 y5 y6 y7 m.d (n + (m.o.length : Int)))) hZ5'
  have hB6 := Lib.hid (hbelow_row (hB1.trans (hB5.mono hB1.size)) (Nat.le_refl w.heap.size) (st10 y0 y1 y2 y3 y4 y5 y6 y7 m.d (n + (m.o.length : Int))))
  generalize W5.setRow w.heap.size (st10 y0 y1 y2 y3 y4 y5 y6 y7 m.d (n + (m.o.length : Int))) = W6 at *
  obtain ⟨q0, q1, q2, q3, q4, q5, q6, q7, q8, q9⟩ := row10 hZ6
  exact bodyPost_ret (v := .agg (st10 y0 y1 y2 y3 y4 y5 y6 y7 m.d (n + (m.o.length : Int)))) (by simp [results, Tryz.results66, go_sem, st10, q0, q1, q2, q3, q4, q5, q6, q7, q8, q9]) rfl ⟨rfl, hB6.out⟩
end Go.Proofs.YtminfmjgmmkaoaaGreatDoor
