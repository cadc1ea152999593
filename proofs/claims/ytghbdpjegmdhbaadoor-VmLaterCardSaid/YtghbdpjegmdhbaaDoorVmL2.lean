/-
  What the laws of package vm share, further on: states compared, sendings compared; three boxes. And the law on runs.
-/
import Derived.Test.YtghbdpjegmdhbaaDoorVmL1
import Derived.LoopTactic
import Derived.ChangeKeysEq
namespace Go.Proofs.YtghbdpjegmdhbaaDoor
open Go.ChangeShapes Go.WideShapes Go.ChangeAt Go.RowKit Go.Sort
set_option linter.unusedVariables false
set_option maxRecDepth 4000

/-- A state is as itself. -/
theorem eqlS_refl (x0 x1 x2 x3 x4 x5 x6 x7 x8 x9 : Int) (w : World) : Sem.run Tryd.prog (binOp .eql 29 (.agg #[.int .i64 x0, .int .i64 x1, .int .i64 x2, .int .i64 x3, .int .i64 x4, .int .i64 x5, .int .i64 x6, .int .i64 x7, .int .i64 x8, .int .i64 x9]) (.agg #[.int .i64 x0, .int .i64 x1, .int .i64 x2, .int .i64 x3, .int .i64 x4, .int .i64 x5, .int .i64 x6, .int .i64 x7, .int .i64 x8, .int .i64 x9])) w = .ok (.bool true) w := by
  have u2 := Tryd.underlying2
  have u3 := Tryd.underlying3
  have a2 := Tryd.isAgg2
  have z2 := Tryd.sizeOf2
  have a3 := Tryd.isAgg3
  have z3 := Tryd.sizeOf3
  have aR := Tryd.isAgg27
  have zR := Tryd.sizeOf27
  have hS : Tryd.prog.underlying 29 = some (.struct (Tryd.prog.fieldsOf 29)) := by kernel_rfl
  have hp : Tryd.prog.stoodInHeld 29 = false := by kernel_rfl
  have hc : Tryd.prog.cellsOf 2 = 1 := by kernel_rfl
  have hA : ∀ (d : Nat) (w : World), Sem.run Tryd.prog (Op.equalIn (d + 2) 27 (.agg #[.int .i64 x0, .int .i64 x1, .int .i64 x2, .int .i64 x3, .int .i64 x4, .int .i64 x5, .int .i64 x6, .int .i64 x7]) (.agg #[.int .i64 x0, .int .i64 x1, .int .i64 x2, .int .i64 x3, .int .i64 x4, .int .i64 x5, .int .i64 x6, .int .i64 x7])) w = .ok true w := by
    intro d w
    obtain ⟨i, hi⟩ := info_of_underlying u2
    rw [run_equalIn_array w (d + 1) _ _ Tryd.underlying27 hi, hc, show List.range 8 = [0, 1, 2, 3, 4, 5, 6, 7] from rfl]
    go_simp
    simp [Op.eqItems]
    try go_simp
  rw [run_eql_struct, run_equalIn_agg w 9999 29 _ _ hS hp]
  simp only [Program.fieldsOf, Tryd.underlying29]
  go_simp
/-- A sending is as itself. -/
theorem eqOt_refl (x0 x1 x2 : Int) (w : World) : Sem.run Tryd.prog (binOp .eql 47 (.agg #[.int .i64 x0, .int .i64 x1, .int .i64 x2]) (.agg #[.int .i64 x0, .int .i64 x1, .int .i64 x2])) w = .ok (.bool true) w := by
  have u2 := Tryd.underlying2
  have u3 := Tryd.underlying3
  have a2 := Tryd.isAgg2
  have z2 := Tryd.sizeOf2
  have a3 := Tryd.isAgg3
  have z3 := Tryd.sizeOf3
  have hS : Tryd.prog.underlying 47 = some (.struct (Tryd.prog.fieldsOf 47)) := by kernel_rfl
  have hp : Tryd.prog.stoodInHeld 47 = false := by kernel_rfl
  rw [run_eql_struct, run_equalIn_agg w 9999 47 _ _ hS hp]
  simp only [Program.fieldsOf, Tryd.underlying47]
  go_simp
theorem neqOt_refl (x0 x1 x2 : Int) (w : World) : Sem.run Tryd.prog (binOp .neq 47 (.agg #[.int .i64 x0, .int .i64 x1, .int .i64 x2]) (.agg #[.int .i64 x0, .int .i64 x1, .int .i64 x2])) w = .ok (.bool false) w := by
  have u2 := Tryd.underlying2
  have u3 := Tryd.underlying3
  have a2 := Tryd.isAgg2
  have z2 := Tryd.sizeOf2
  have a3 := Tryd.isAgg3
  have z3 := Tryd.sizeOf3
  have hS : Tryd.prog.underlying 47 = some (.struct (Tryd.prog.fieldsOf 47)) := by kernel_rfl
  have hp : Tryd.prog.stoodInHeld 47 = false := by kernel_rfl
  rw [run_neq_struct, run_equalIn_agg w 9999 47 _ _ hS hp]
  simp only [Program.fieldsOf, Tryd.underlying47]
  go_simp

set_option maxHeartbeats 2000000 in
/-- Two lists of the same sendings. -/
theorem outs5_eq {w : World} {a a' : Option Addr} {len cap cap' : Nat} {os : List Ot} (h : Ots w a len cap os) (h' : Ots w a' len cap' os) :
    Calls Tryd.prog 13 #[.slice a len cap, .slice a' len cap'] w fun e w' => e = .returned (.bool true) ∧ Read w w' := by
  have mixed := mixed
  obtain ⟨hz, hlc, hmx, h⟩ := h
  obtain ⟨-, -, -, h'⟩ := h'
  unfold maxLen at hmx
  rcases h with h0 | ⟨b, off, rfl, hc⟩
  · subst h0
    clear hz h'
    go_enter Tryd.func13, Tryd.ntmps13
    go_wp2
    go_loop [5] (fun i => i = .int .i64 0) (fun i => 0)
    case atStart => rfl
    case round =>
      obtain rfl := hrel
      go_wp2
      go_ret
      exact ⟨rfl, Read.refl _⟩
  · rcases h' with h0 | ⟨b', off', rfl, hc2⟩
    · subst h0
      clear hz hc
      go_enter Tryd.func13, Tryd.ntmps13
      go_wp2
      go_loop [5] (fun i => i = .int .i64 0) (fun i => 0)
      case atStart => rfl
      case round =>
        obtain rfl := hrel
        go_wp2
        go_ret
        exact ⟨rfl, Read.refl _⟩
    · have hc' := Lib.hid hc
      have hc2' := Lib.hid hc2
      clear hz hc hc2
      go_enter Tryd.func13, Tryd.ntmps13
      go_wp2
      go_loopw [5] (fun i wr => ∃ k : Nat, k ≤ len ∧ i = .int .i64 k ∧ Read w wr) (fun i _ => len - (intOf i).toNat)
      case atStart => exact ⟨0, Nat.zero_le _, rfl, Read.refl _⟩
      case round =>
        obtain ⟨k, hk, rfl, hrk⟩ := hrel
        by_cases hlt : k < len
        · have hx := (hc'.out k hlt).below hrk.below
          have hy := (hc2'.out k hlt).below hrk.below
          generalize os.getD k default = x at hx hy
          obtain ⟨x0, x1, x2⟩ := x
          have hne := fun w => neqOt_refl x0 x1 x2 w
          replace hx := fun n os => hx.below (Read.below ⟨n, os, rfl⟩)
          replace hy := fun n os => hy.below (Read.below ⟨n, os, rfl⟩)
          simp only [OtAt, forall_and] at hx hy
          obtain ⟨-, p0, p1, p2⟩ := hx
          obtain ⟨-, q0, q1, q2⟩ := hy
          go_wp2
          go_quiet_grown (fail)
          go_wp2
          go_round
          case rel => exact ⟨k + 1, by omega, by go_num, hrk.trans ⟨_, _, rfl⟩⟩
          case measure => simp [intOf]; omega
        · go_wp2
          go_ret
          exact ⟨rfl, hrk⟩
/-- Three blocks, as a law's boxes lie. -/
structure Tri (w w1 : World) (A S M : Obj) : Prop where
  a : w1.heap[w.heap.size]? = some A
  s : w1.heap[w.heap.size + 1]? = some S
  m : w1.heap[w.heap.size + 1 + 1]? = some M
  b : Below w.heap.size w w1
  sz : w.heap.size + 3 ≤ w1.heap.size
theorem Tri.mk3 (w : World) (A S M : Obj) : Tri w (((w.alloc A).alloc S).alloc M) A S M := by
  refine ⟨?_, ?_, ?_, (((Below.refl _ w).alloc (Nat.le_refl _) A).alloc (by simp) S).alloc (by simp; omega) M, by simp⟩
  · rw [Below.heap_alloc _ _ _ (by simp; omega), Below.heap_alloc _ _ _ (by simp)]; exact heap_alloc_new w A
  · rw [Below.heap_alloc _ _ _ (by simp)]; have := heap_alloc_new (w.alloc A) S; rwa [World.size_alloc] at this
  · have := heap_alloc_new ((w.alloc A).alloc S) M; rwa [World.size_alloc, World.size_alloc] at this
theorem Tri.below {w w1 w2 : World} {A S M : Obj} (h : Tri w w1 A S M) (hb : Below (w.heap.size + 3) w1 w2) : Tri w w2 A S M :=
  ⟨(hb.block _ (by omega)).trans h.a, (hb.block _ (by omega)).trans h.s, (hb.block _ (by omega)).trans h.m, h.b.trans (hb.mono (by omega)), Nat.le_trans h.sz hb.size⟩
theorem runW_lit {W : Wd} {s : Sta} {ev : M} (hs : s.r.length = 8) : ∃ y0 y1 y2 y3 y4 y5 y6 y7 d n o k, runW W s ev = (⟨[y0, y1, y2, y3, y4, y5, y6, y7], d, n⟩, o, k) := by
  have hl := runW_len (W := W) (ev := ev) hs
  rcases hr : runW W s ev with ⟨⟨r, d, n⟩, o, k⟩
  rw [hr] at hl
  obtain ⟨y0, y1, y2, y3, y4, y5, y6, y7, rfl⟩ := eight hl
  exact ⟨_, _, _, _, _, _, _, _, _, _, _, _, rfl⟩
set_option maxHeartbeats 8000000 in
theorem lawVmRuns {w : World} {v : Wv} {W : Wd} {s : Sta} {ev : M} {eb : Addr} (hE : ErrIs w eb) (hT : ErrT w) (hW : Wds w v W) (hs : s.r.length = 8) (hsR : ∀ z ∈ s.r, In64 z) (hsd : In64 s.d) (hss : In64 s.s) (hev : In64 ev.v) :
    Calls Tryd.prog 3 #[v.val W, s.val, ev.val] w fun e w' => e = .returned (.bool true) ∧ Below w.heap.size w w' := by
  obtain ⟨y0, y1, y2, y3, y4, y5, y6, y7, yd, yn, o, k, hr⟩ := runW_lit (W := W) (ev := ev) hs
  have hc1 := fun (o1 o2 o3 : Obj) => have hb := (Tri.mk3 w o1 o2 o3).b; vmRun_lit (hW.below hb) (hE.below hb) (hT.below hb) hs hsR hev hr
  have hc2 := fun (w1 : World) (hb0 : Below w.heap.size w w1) (ob : Obj) => have hb := hb0.alloc hb0.size ob; r5Run_lit (hW.below hb) hs hsR hev hr
  have hc3 := fun (w1 : World) (hb : Below w.heap.size w w1) => awake5_any (hE.below hb) (hT.below hb)
  have hes := eqlS_refl y0 y1 y2 y3 y4 y5 y6 y7 yd yn
  clear hW hE hT hr hev hsR hsd hss
  obtain ⟨⟨t, f, q⟩, to', vv, u, an⟩ := ev
  obtain ⟨r, d, n⟩ := s
  obtain ⟨r0, r1, r2, r3, r4, r5, r6, r7, rfl⟩ := eight hs
  clear hs
  simp only [Wv.val, M.val, Sta.val, Sta.cells, List.map_cons, List.map_nil, List.cons_append, List.nil_append] at *
  go_enter Tryd.func3, Tryd.ntmps3
  go_wp2_with fail
  refine (hc1 _ _ _).mono ?_
  rintro e w1 ⟨a, cap, rfl, hq1⟩
  have F := (Tri.mk3 w _ _ _).below (hq1.out.2.mono (by simp))
  have hO := Lib.hid hq1.out.1
  have F' := Lib.hid F
  clear hc1 hq1
  have F2 := fun o => F.below ((Below.refl _ w1).alloc F.sz o)
  have qa := fun o => row4 (F2 o).a
  have qb := fun o => row10 (F2 o).s
  have qm := fun o => row7 (F2 o).m
  simp only [forall_and] at qa qb qm
  obtain ⟨a0, a1, a2, a3⟩ := qa
  obtain ⟨b0, b1, b2, b3, b4, b5, b6, b7, b8, b9⟩ := qb
  obtain ⟨m0, m1, m2, m3, m4, m5, m6⟩ := qm
  have sz1 := F.sz
  clear F F2
  go_wp2_with fail
  refine (hc2 _ F'.out.b _).mono ?_
  rintro e w2 ⟨a', cap', rfl, hq2⟩
  have hb2 := hq2.out.2
  have hx := (hb2.block w1.heap.size (by simp)).trans (heap_alloc_new w1 _)
  obtain ⟨c0, c1, c2, c3, c4, c5, c6, c7, c8, c9⟩ := row10 hx
  have hO1 := Lib.hid ((hO.out.below ((Below.refl _ w1).alloc (Nat.le_refl _) _)).below hb2)
  have hO2 := Lib.hid hq2.out.1
  have hbb := F'.out.b.alloc F'.out.b.size (.cells #[.int .i64 y0, .int .i64 y1, .int .i64 y2, .int .i64 y3, .int .i64 y4, .int .i64 y5, .int .i64 y6, .int .i64 y7, .int .i64 yd, .int .i64 yn] 29)
  have hB := Lib.hid (hbb.trans (hb2.mono hbb.size))
  have sz2 : w1.heap.size < w2.heap.size := Nat.lt_of_lt_of_le (by simp) hb2.size
  clear hc2 hq2 a0 a1 a2 a3 b0 b1 b2 b3 b4 b5 b6 b7 b8 b9 m0 m1 m2 m3 m4 m5 m6 hbb hb2 hx hO sz1
  go_wp2_with fail
  have hb3 := fun o => (Below.refl w2.heap.size w2).alloc (Nat.le_refl _) o
  refine (outs5_eq (hO1.out.below (hb3 _)) (hO2.out.below (hb3 _))).mono ?_
  rintro e w4 ⟨rfl, hr4⟩
  have hB4 := Lib.hid ((hB.out.alloc hB.out.size _).trans (hr4.below.mono (Nat.le_trans hB.out.size (by simp))))
  clear hb3 hr4
  go_wp2_with fail
  refine (hc3 _ hB4.out).mono ?_
  rintro e w5 ⟨rfl, hb5⟩
  have hB5 := Lib.hid (hB4.out.trans (hb5.mono hB4.out.size))
  clear hb5
  go_wp2
  go_ret
  exact ⟨rfl, hB5.out⟩
end Go.Proofs.YtghbdpjegmdhbaaDoor
