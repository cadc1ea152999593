/-
  The law on what a handler sees.
-/
import Derived.Test.YtghbdpjegmdhbaaDoorVmL2
import Derived.Test.YtghbdpjegmdhbaaDoorVmF
import Derived.Test.YtghbdpjegmdhbaaDoorVmI
namespace Go.Proofs.YtghbdpjegmdhbaaDoor
open Go.ChangeShapes Go.WideShapes Go.ChangeAt Go.RowKit Go.Sort
set_option linter.unusedVariables false
set_option maxRecDepth 4000

theorem tells_fits : ∀ i ∈ tellsI, i.fits := by
  intro i hi
  simp only [tellsI, List.mem_cons, List.not_mem_nil, or_false] at hi
  rcases hi with rfl | rfl | rfl | rfl <;> exact ⟨by decide, by decide, by decide, by decide⟩
theorem small_wf {x : Int} (hx : 0 ≤ x ∧ x < 16) : (Lit.int .i64 x).wf = true := by
  exact WalkArith.wf_i64 (by omega)
set_option maxHeartbeats 8000000 in
theorem lawTells_ok {w : World} {ev : M} {eb : Addr} (hE : ErrIs w eb) (hT : ErrT w) (hev : In64 ev.v) (b : Int) (hb : 0 ≤ b ∧ b ≤ 255) (hm : chkM ev = 0) :
    Calls Tryd.prog 9 #[ev.val, .int .u8 b] w fun e w' => e = .returned (.bool true) ∧ Below w.heap.size w w' := by
  have hx : 0 ≤ b % 16 ∧ b % 16 < 16 := by omega
  have hr := tellsR (b % 16) hx ev hm
  have hc1 := fun (o1 o3 : Obj) => 
    have F := Tri.mk3 w o1 (.cells (flatI tellsI).toArray 56) o3
    vmRun_lit (v := ⟨some ⟨w.heap.size + 1, 0, none⟩, 4, 4, none, 0, 0⟩) (W := ⟨tellsI, b % 16, [], 0⟩)
      ⟨inss_of_block F.s rfl (by show 4 ≤ _; unfold maxLen; omega) (by rfl) tells_fits, lks_nil _, by show 0 < _; omega, small_wf hx⟩ (hE.below F.b) (hT.below F.b) (s := Sta.zero) rfl zero_in hev hr
  clear hE hT hr hev
  obtain ⟨⟨t, f, q⟩, to', vv, u, an⟩ := ev
  simp only [Wv.val, M.val, Sta.val, Sta.cells, Sta.zero, List.map_cons, List.map_nil, List.cons_append, List.nil_append] at *
  simp only [tellsI, flatI, List.flatMap_cons, List.flatMap_nil, cellsOfI, List.cons_append, List.nil_append] at hc1
  go_enter Tryd.func9, Tryd.ntmps9
  go_wp2_with fail
  refine (hc1 _ _).mono ?_
  rintro e w1 ⟨a, cap, rfl, hq1⟩
  have F := (Tri.mk3 w _ _ _).below (hq1.out.2.mono (by simp))
  have F2 := fun o => F.below ((Below.refl _ w1).alloc F.sz o)
  have qm := fun o => row7 (F2 o).a
  simp only [forall_and] at qm
  obtain ⟨m0, m1, m2, m3, m4, m5, m6⟩ := qm
  have hB := Lib.hid (F.b.alloc F.b.size)
  clear F F2 hq1 hc1
  go_wp2_with fail
  go_ret
  exact ⟨rfl, hB.out _⟩
set_option maxHeartbeats 8000000 in
theorem lawTells_bad {w : World} {ev : M} {eb : Addr} (hE : ErrIs w eb) (hT : ErrT w) (hev : In64 ev.v) (b : Int) (hb : 0 ≤ b ∧ b ≤ 255) (hm : chkM ev ≠ 0) :
    Calls Tryd.prog 9 #[ev.val, .int .u8 b] w fun e w' => e = .returned (.bool true) ∧ Below w.heap.size w w' := by
  have hx : 0 ≤ b % 16 ∧ b % 16 < 16 := by omega
  have hr := tellsF (b % 16) hx ev hm
  have hc1 := fun (o1 o3 : Obj) => 
    have F := Tri.mk3 w o1 (.cells (flatI tellsI).toArray 56) o3
    vmRun_lit (v := ⟨some ⟨w.heap.size + 1, 0, none⟩, 4, 4, none, 0, 0⟩) (W := ⟨tellsI, b % 16, [], 0⟩)
      ⟨inss_of_block F.s rfl (by show 4 ≤ _; unfold maxLen; omega) (by rfl) tells_fits, lks_nil _, by show 0 < _; omega, small_wf hx⟩ (hE.below F.b) (hT.below F.b) (s := Sta.zero) rfl zero_in hev hr
  have hm1 : chkM ev = 1 := by unfold chkM at *; split at hm <;> simp_all
  have hck := fun w' => eCheck_any ev w'
  rw [hm1] at hck
  clear hE hT hr hev hm hm1
  obtain ⟨⟨t, f, q⟩, to', vv, u, an⟩ := ev
  simp only [Wv.val, M.val, Sta.val, Sta.cells, Sta.zero, List.map_cons, List.map_nil, List.cons_append, List.nil_append] at *
  simp only [tellsI, flatI, List.flatMap_cons, List.flatMap_nil, cellsOfI, List.cons_append, List.nil_append] at hc1
  go_enter Tryd.func9, Tryd.ntmps9
  go_wp2_with fail
  refine (hc1 _ _).mono ?_
  rintro e w1 ⟨a, cap, rfl, hq1⟩
  have F := (Tri.mk3 w _ _ _).below (hq1.out.2.mono (by simp))
  have F2 := fun o => F.below ((Below.refl _ w1).alloc F.sz o)
  have qm := fun o => row7 (F2 o).a
  simp only [forall_and] at qm
  obtain ⟨m0, m1, m2, m3, m4, m5, m6⟩ := qm
  have hB := Lib.hid (F.b.alloc F.b.size)
  clear F F2 hq1 hc1
  go_wp2_with fail
  refine (hck _).mono ?_
  rintro e w2 ⟨rfl, hr2⟩
  have hB2 := Lib.hid ((hB.out _).trans (hr2.below.mono (hB.out _).size))
  clear hr2 hck
  go_wp2
  go_ret
  exact ⟨rfl, hB2.out⟩
theorem lawVmTells {w : World} {ev : M} {eb : Addr} (hE : ErrIs w eb) (hT : ErrT w) (hev : In64 ev.v) (b : Int) (hb : (Lit.int .u8 b).wf = true) :
    Calls Tryd.prog 9 #[ev.val, .int .u8 b] w fun e w' => e = .returned (.bool true) ∧ Below w.heap.size w w' := by
  by_cases hm : chkM ev = 0
  · exact lawTells_ok hE hT hev b (wf_u8 hb) hm
  · exact lawTells_bad hE hT hev b (wf_u8 hb) hm
end Go.Proofs.YtghbdpjegmdhbaaDoor
