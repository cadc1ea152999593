/-
  The law that what is sent is later.
-/
import Derived.Test.YtghbdpjegmdhbaaDoorVmS
namespace Go.Proofs.YtghbdpjegmdhbaaDoor
open Go.ChangeShapes Go.WideShapes Go.ChangeAt Go.RowKit Go.Sort
set_option linter.unusedVariables false
set_option maxRecDepth 4000

set_option maxHeartbeats 8000000 in
theorem later_none {w : World} {v : Wv} {W : Wd} {r0 r1 r2 r3 r4 r5 r6 r7 d n t f q to' vv u : Int} {an : Bool} {eb : Addr} (hE : ErrIs w eb) (hT : ErrT w) (hW : Wds w v W) (hsR : ∀ z ∈ [r0, r1, r2, r3, r4, r5, r6, r7], In64 z) (hev : In64 vv) (k : Int) (hk : k = 1 ∨ k = 2 ∨ k = 130)
    (hr : runW W ⟨[r0, r1, r2, r3, r4, r5, r6, r7], d, n⟩ ⟨⟨t, f, q⟩, to', vv, u, an⟩ = (⟨[0, 0, 0, 0, 0, 0, 0, 0], 0, 0⟩, [], k)) :
    Calls Tryd.prog 5 #[v.val W, Sta.val ⟨[r0, r1, r2, r3, r4, r5, r6, r7], d, n⟩, M.val ⟨⟨t, f, q⟩, to', vv, u, an⟩] w fun e w' => e = .returned (.bool true) ∧ Below w.heap.size w w' := by
  have hc1 := fun (o1 o2 o3 : Obj) => have hb := (Tri.mk3 w o1 o2 o3).b; vmRun_lit (s := ⟨[r0, r1, r2, r3, r4, r5, r6, r7], d, n⟩) (ev := ⟨⟨t, f, q⟩, to', vv, u, an⟩) (hW.below hb) (hE.below hb) (hT.below hb) rfl hsR hev hr
  have hc3 := fun (w1 : World) (hb : Below w.heap.size w w1) => awake5_any (hE.below hb) (hT.below hb)
  have hes := eqlS_refl 0 0 0 0 0 0 0 0 0 0
  clear hW hE hT hr hev hsR
  simp only [Wv.val, M.val, Sta.val, Sta.cells, List.map_cons, List.map_nil, List.cons_append, List.nil_append] at *
  rcases hk with rfl | rfl | rfl
  all_goals
    go_enter Tryd.func5, Tryd.ntmps5
    go_wp2_with fail
    refine (hc1 _ _ _).mono ?_
    rintro e w1 ⟨a, cap, rfl, hq1⟩
    have F := Lib.hid ((Tri.mk3 w _ _ _).below (hq1.out.2.mono (by simp)))
    clear hc1 hq1
    go_wp2_with fail
    have hB := Lib.hid (F.out.b.alloc F.out.b.size (.cells #[.int .i64 0, .int .i64 0, .int .i64 0, .int .i64 0, .int .i64 0, .int .i64 0, .int .i64 0, .int .i64 0, .int .i64 0, .int .i64 0] 29))
    refine (hc3 _ hB.out).mono ?_
    rintro e w2 ⟨rfl, hb2⟩
    have hB2 := Lib.hid (hB.out.trans (hb2.mono hB.out.size))
    clear hb2
    go_wp2
    go_ret
    exact ⟨rfl, hB2.out⟩
set_option maxHeartbeats 8000000 in
theorem later_same {w : World} {v : Wv} {W : Wd} {r0 r1 r2 r3 r4 r5 r6 r7 d n t f q to' vv u : Int} {an : Bool} {eb : Addr} (hE : ErrIs w eb) (hT : ErrT w) (hW : Wds w v W) (hsR : ∀ z ∈ [r0, r1, r2, r3, r4, r5, r6, r7], In64 z) (hev : In64 vv) (k : Int) (hk : k = 50 ∨ k = 10)
    (hr : runW W ⟨[r0, r1, r2, r3, r4, r5, r6, r7], d, n⟩ ⟨⟨t, f, q⟩, to', vv, u, an⟩ = (⟨[r0, r1, r2, r3, r4, r5, r6, r7], d, n⟩, [], k)) :
    Calls Tryd.prog 5 #[v.val W, Sta.val ⟨[r0, r1, r2, r3, r4, r5, r6, r7], d, n⟩, M.val ⟨⟨t, f, q⟩, to', vv, u, an⟩] w fun e w' => e = .returned (.bool true) ∧ Below w.heap.size w w' := by
  have hc1 := fun (o1 o2 o3 : Obj) => have hb := (Tri.mk3 w o1 o2 o3).b; vmRun_lit (s := ⟨[r0, r1, r2, r3, r4, r5, r6, r7], d, n⟩) (ev := ⟨⟨t, f, q⟩, to', vv, u, an⟩) (hW.below hb) (hE.below hb) (hT.below hb) rfl hsR hev hr
  have hes := eqlS_refl r0 r1 r2 r3 r4 r5 r6 r7 d n
  clear hW hE hT hr hev hsR
  simp only [Wv.val, M.val, Sta.val, Sta.cells, List.map_cons, List.map_nil, List.cons_append, List.nil_append] at *
  rcases hk with rfl | rfl
  all_goals
    go_enter Tryd.func5, Tryd.ntmps5
    go_wp2_with fail
    refine (hc1 _ _ _).mono ?_
    rintro e w1 ⟨a, cap, rfl, hq1⟩
    have F := (Tri.mk3 w _ _ _).below (hq1.out.2.mono (by simp))
    have F2 := fun o => F.below ((Below.refl _ w1).alloc F.sz o)
    have qb := fun o => row10 (F2 o).s
    simp only [forall_and] at qb
    obtain ⟨b0, b1, b2, b3, b4, b5, b6, b7, b8, b9⟩ := qb
    have F' := Lib.hid F
    clear hc1 hq1 F F2
    go_wp2
    go_ret
    exact ⟨rfl, F'.out.b.alloc F'.out.b.size _⟩
theorem wide_call {f : FuncId} {args : Array Value} {W : World} {u : Value} (h : ∀ w, Calls Tryd.prog f args w fun e w' => e = .returned u ∧ Read w w') : ∀ p, Calls Tryd.prog f args (wide W p) fun e w' => e = .returned u ∧ Below (wide W p).heap.size (wide W p) w' := fun p => (h (wide W p)).mono fun e w' h => ⟨h.1, h.2.below⟩
theorem checkW_link {W : Wd} (h : checkW W = 0) (j : Nat) (hj : j < W.links.length) : (W.links.getD j default).mayB = true := by
  cases hb : (W.links.getD j default).mayB
  · have := checkW_bad (checkW_zero h).1 j hj hb
    omega
  · rfl
theorem link_rng {l : Lk} (h : l.mayB = true) : 0 ≤ l.dst ∧ l.dst < 16 ∧ 1 ≤ l.look ∧ l.look ≤ 4611686018427387903 := by simpa [Lk.mayB] using h
theorem getD_mem {o : List Ot} {k : Nat} (h : k < o.length) : o.getD k default ∈ o := by
  simp only [List.getD_eq_getElem?_getD, List.getElem?_eq_getElem h, Option.getD_some]
  exact List.getElem_mem h
set_option maxHeartbeats 16000000 in
theorem later_go {w : World} {v : Wv} {W : Wd} {r0 r1 r2 r3 r4 r5 r6 r7 y0 y1 y2 y3 y4 y5 y6 y7 d' d n t f q to' vv u : Int} {an : Bool} {eb : Addr} {o : List Ot} (hE : ErrIs w eb) (hT : ErrT w) (hW : Wds w v W) (hsR : ∀ z ∈ [r0, r1, r2, r3, r4, r5, r6, r7], In64 z) (hev : In64 vv)
    (hr : runW W ⟨[r0, r1, r2, r3, r4, r5, r6, r7], d, n⟩ ⟨⟨t, f, q⟩, to', vv, u, an⟩ = (⟨[y0, y1, y2, y3, y4, y5, y6, y7], d', n + (o.length : Int)⟩, o, 0)) (hl : Late W t o) (hd1 : d ≤ d') (hd2 : d' ≤ d + 4096) (hcw : checkW W = 0) (hm : chkM ⟨⟨t, f, q⟩, to', vv, u, an⟩ = 0) (hdn : 0 ≤ d ∧ d ≤ 1125899906842624 ∧ 0 ≤ n ∧ n ≤ 1125899906842624) :
    Calls Tryd.prog 5 #[v.val W, Sta.val ⟨[r0, r1, r2, r3, r4, r5, r6, r7], d, n⟩, M.val ⟨⟨t, f, q⟩, to', vv, u, an⟩] w fun e w' => e = .returned (.bool true) ∧ Below w.heap.size w w' := by
  have hc1 := fun (o1 o2 o3 : Obj) => have hb := (Tri.mk3 w o1 o2 o3).b; vmRun_lit (s := ⟨[r0, r1, r2, r3, r4, r5, r6, r7], d, n⟩) (ev := ⟨⟨t, f, q⟩, to', vv, u, an⟩) (hW.below hb) (hE.below hb) (hT.below hb) rfl hsR hev hr
  have hc3 := Lib.hid (fun (w1 : World) (hb : Below w.heap.size w w1) => awake5_any (hE.below hb) (hT.below hb))
  have htr : 0 ≤ t ∧ t ≤ 4611686018427387903 := chkM_time hm
  have hself := checkW_self hcw
  have hW' := Lib.hid hW
  have hl' := Lib.hid hl
  have hcw' := Lib.hid hcw
  have h8 : o.length ≤ 8 := hl.2
  clear hW hE hT hr hev hsR hm hl hcw
  simp only [Wv.val, M.val, Sta.val, Sta.cells, List.map_cons, List.map_nil, List.cons_append, List.nil_append] at *
  go_enter Tryd.func5, Tryd.ntmps5
  go_wp2_with fail
  refine (hc1 _ _ _).mono ?_
  rintro e w1 ⟨a, cap, rfl, hq1⟩
  have F := (Tri.mk3 w _ _ _).below (hq1.out.2.mono (by simp))
  have hO := hq1.out.1
  clear hc1 hq1
  have hLL' := Lib.hid (show o.length = o.length from rfl)
  generalize hLL : o.length = L at *
  go_upto_region 6 with (fail)
  have hst := heap_alloc_new w1 (.cells #[.int .i64 y0, .int .i64 y1, .int .i64 y2, .int .i64 y3, .int .i64 y4, .int .i64 y5, .int .i64 y6, .int .i64 y7, .int .i64 d', .int .i64 (n + (L : Int))] 29)
  have FW := F.below ((Below.refl _ w1).alloc F.sz (.cells #[.int .i64 y0, .int .i64 y1, .int .i64 y2, .int .i64 y3, .int .i64 y4, .int .i64 y5, .int .i64 y6, .int .i64 y7, .int .i64 d', .int .i64 (n + (L : Int))] 29))
  have hOW := hO.below ((Below.refl _ w1).alloc (Nat.le_refl _) (.cells #[.int .i64 y0, .int .i64 y1, .int .i64 y2, .int .i64 y3, .int .i64 y4, .int .i64 y5, .int .i64 y6, .int .i64 y7, .int .i64 d', .int .i64 (n + (L : Int))] 29))
  generalize w1.alloc (.cells #[.int .i64 y0, .int .i64 y1, .int .i64 y2, .int .i64 y3, .int .i64 y4, .int .i64 y5, .int .i64 y6, .int .i64 y7, .int .i64 d', .int .i64 (n + (L : Int))] 29) = W1 at *
  generalize w1.heap.size = X at *
  have F' := Lib.hid FW
  have hO' := Lib.hid hOW
  have hst' := Lib.hid hst
  have hLo := Lib.hid hLL
  clear F hO FW hOW hst hLL' hLL
  go_wp2_with fail
  go_loopw [10] (fun i wr => ∃ k : Nat, k ≤ L ∧ i = .int .i64 k ∧ Aside (Below W1.heap.size W1 wr)) (fun i _ => L - (intOf i).toNat)
  case atStart => exact ⟨0, Nat.zero_le _, rfl, Below.refl _ _⟩
  case round =>
    obtain ⟨k, hk, rfl, hbk⟩ := hrel
    by_cases hlt : k < L
    · obtain ⟨b, off, rfl, hom⟩ : ∃ b off, a = some ⟨b, off, none⟩ ∧ ∀ j, j < L → OtAt W1 b (off + j * 3) (o.getD j default) := by
        rcases hO'.out.2.2.2 with g | g
        · omega
        · exact g
      have hox := (hom k hlt).below hbk.out
      have hkl0 : k < o.length := by rw [hLo.out]; exact hlt
      have hok := hl'.out.1 (o.getD k default) (getD_mem hkl0)
      obtain ⟨hk0, hk1, hk2, hk3⟩ := hok
      have hll0 := hW'.out.2.1.1
      have FR := F'.out.below (hbk.out.mono F'.out.sz)
      obtain ⟨lb, lo, hla, hlm⟩ : ∃ lb lo, v.la = some ⟨lb, lo, none⟩ ∧ ∀ j, j < v.ll → LkAt w lb (lo + j * 4) (W.links.getD j default) := by
        rcases hW'.out.2.1.2.2.2 with g | g
        · omega
        · exact g
      generalize o.getD k default = xx at hox hk0 hk1 hk2 hk3
      obtain ⟨xl, xd, xv⟩ := xx
      simp only at hk0 hk1 hk2 hk3
      obtain ⟨kk, rfl⟩ := Int.eq_ofNat_of_zero_le hk0
      have hkl : kk < v.ll := by omega
      have hlx := (hlm kk hkl).below FR.b
      simp only [Int.toNat_natCast] at hk2
      generalize W.links.getD kk default = lk at hlx hk2
      obtain ⟨src, dst, look, loose⟩ := lk
      simp only at hk2
      obtain ⟨px, p0, p1, p2⟩ := hox
      obtain ⟨lx, -, -, l2, -⟩ := hlx
      have c2 := (row4 FR.a).2.2.1
      rw [hla] at c2
      have c0 := (row7 FR.m).1
      have hsz := FR.sz
      have e0 := fun p => wide_cell (w := wr) p px p0
      have e1 := fun p => wide_cell (w := wr) p px p1
      have e2 := fun p => wide_cell (w := wr) p lx l2
      have e3 := fun p => wide_cell (w := wr) (a := ⟨w.heap.size, 2, none⟩) p (by show w.heap.size < _; omega) c2
      have e4 := fun p => wide_cell (w := wr) (a := ⟨w.heap.size + 1 + 1, 0, none⟩) p (by show w.heap.size + 1 + 1 < _; omega) c0
      have hbk' := Lib.hid hbk.out
      have g3 : ¬ 4611686018427387903 - t < xd := by omega
      have g2 : ¬ xd < look := by omega
      clear hbk hom hla hlm hkl0 FR px lx p0 p1 p2 l2 c2 c0 hll0
      go_upto_region 9 with (fail)
      refine wp_region_wide (by kernel_rfl) (by kernel_rfl) ?_
      repeat (first | go_big_quiet_step (fail) | quiet_step (fail))
      refine wpQuiet_nil ?_
      refine wide_all fun W2 hb2 => ?_
      have hB2 := Lib.hid (hbk'.out.trans (hb2.mono hbk'.out.size))
      clear hb2 e0 e1 e2 e3 e4
      go_wp2
      go_roundw
      case rel => exact ⟨k + 1, by omega, by go_num, hB2.out⟩
      case measure => simp [intOf]; omega
    · obtain rfl : k = L := by omega
      have FR := F'.out.below (hbk.out.mono F'.out.sz)
      have hsend := vmSends_late (r0 := r0) (r1 := r1) (r2 := r2) (r3 := r3) (r4 := r4) (r5 := r5) (r6 := r6) (r7 := r7) (d := d) (f := f) (q := q) (to' := to') (vv := vv) (u := u) (an := an) (hW'.out.below FR.b) (hO'.out.below hbk.out) hl'.out htr ⟨hdn.2.2.1, hdn.2.2.2⟩ (by have := checkW_links hcw'.out; have := hW'.out.2.1.1; omega) (fun j hj => (link_rng (checkW_link hcw'.out j (by have := hW'.out.2.1.1; omega))).2.2.1)
      simp only [Wv.val, M.val, Sta.val, Sta.cells, List.map_cons, List.map_nil, List.cons_append, List.nil_append] at hsend
      obtain ⟨w0, w1', w2, w3⟩ := row4 FR.a
      obtain ⟨s0, s1, s2, s3, s4, s5, s6, s7, s8, s9⟩ := row10 FR.s
      obtain ⟨m0, m1, m2, m3, m4, m5, m6⟩ := row7 FR.m
      have FR' := Lib.hid FR
      have hbk' := Lib.hid hbk.out
      clear FR hbk
      go_wp2_with fail
      refine hsend.mono ?_
      rintro e w5 ⟨a5, cap5, rfl, hq5⟩
      have F5 := Lib.hid (FR'.out.below (hq5.out.2.mono FR'.out.sz))
      have hM5 := Lib.hid hq5.out.1
      have hX5 := Lib.hid ((hq5.out.2.block X (Nat.lt_of_lt_of_le (Array.getElem?_eq_some_iff.1 hst'.out).1 hbk'.out.size)).trans ((hbk'.out.block X (Array.getElem?_eq_some_iff.1 hst'.out).1).trans hst'.out))
      clear hsend hq5 w0 w1' w2 w3 s0 s1 s2 s3 s4 s5 s6 s7 s8 s9 m0 m1 m2 m3 m4 m5 m6
      go_wp2_with fail
      go_loopw [12] (fun i wr => ∃ j : Nat, j ≤ k ∧ i = .int .i64 j ∧ Aside (Below w5.heap.size w5 wr)) (fun i _ => k - (intOf i).toNat)
      case atStart => exact ⟨0, Nat.zero_le _, rfl, Below.refl _ _⟩
      case round =>
        obtain ⟨j, hj, rfl, hbj⟩ := hrel
        have FJ := F5.out.below (hbj.out.mono F5.out.sz)
        by_cases hlt2 : j < k
        · have hjl : j < o.length := by rw [hLo.out]; exact hlt2
          obtain ⟨b5, off5, rfl, hmm⟩ : ∃ b off, a5 = some ⟨b, off, none⟩ ∧ ∀ i, i < k → MsgAt w5 b (off + i * 7) ((mgs W n t 5 o k).getD i default) := by
            rcases hM5.out.2.2.2 with g | g
            · omega
            · exact g
          have hmx := (hmm j hlt2).below hbj.out
          rw [mgs_get W n t 5 o k j hlt2] at hmx
          have hok := hl'.out.1 (o.getD j default) (getD_mem hjl)
          obtain ⟨hk0, hk1, hk2, hk3⟩ := hok
          have hlr := fun (i : Nat) (hi : i < W.links.length) => link_rng (checkW_link hcw'.out i hi)
          generalize o.getD j default = xx at hmx hk0 hk1 hk2 hk3
          obtain ⟨xl, xd, xv⟩ := xx
          simp only at hk0 hk1 hk2 hk3
          obtain ⟨kk, rfl⟩ := Int.eq_ofNat_of_zero_le hk0
          have hlr2 := hlr kk (by omega)
          simp only [mgOf, Int.toNat_natCast] at hmx hk2
          generalize W.links.getD kk default = lk at hmx hk2 hlr2
          obtain ⟨src, dst, look, loose⟩ := lk
          simp only at hk2 hlr2 hmx
          have hck : chkM ⟨⟨t + xd, W.self, n + (j : Int)⟩, dst, xv, 5 + (j : Int), false⟩ = 0 := by
            unfold chkM
            rw [if_pos (by simp only; omega)]
          have hcp : cmpK ⟨t, f, q⟩ ⟨t + xd, W.self, n + (j : Int)⟩ = -1 := by
            rw [cmpK_t (by simp only; omega)]
            exact sgn_lt (by simp only; omega)
          have hk1' := wide_call (W := wr) (fun w' => eCheck_any ⟨⟨t + xd, W.self, n + (j : Int)⟩, dst, xv, 5 + (j : Int), false⟩ w')
          have hk2' := wide_call (W := wr) (fun w' => eCompare_any ⟨t, f, q⟩ ⟨t + xd, W.self, n + (j : Int)⟩ w')
          rw [hck] at hk1'
          rw [hcp] at hk2'
          simp only [M.val, K.val] at hk1' hk2'
          obtain ⟨px, p0, p1, p2, p3, p4, p5, p6⟩ := hmx
          have c9 := (row10 FJ.s).2.2.2.2.2.2.2.2.2
          have c0 := (row7 FJ.m).1
          have c1 := (row7 FJ.m).2.1
          have cc2 := (row7 FJ.m).2.2.1
          have hsz := FJ.sz
          have e0 := fun p => wide_cell (w := wr) p px p0
          have e1 := fun p => wide_cell (w := wr) p px p1
          have e2 := fun p => wide_cell (w := wr) p px p2
          have e3 := fun p => wide_cell (w := wr) p px p3
          have e4 := fun p => wide_cell (w := wr) p px p4
          have e5 := fun p => wide_cell (w := wr) p px p5
          have e6 := fun p => wide_cell (w := wr) p px p6
          have e7 := fun p => wide_cell (w := wr) (a := ⟨w.heap.size + 1, 9, none⟩) p (by show w.heap.size + 1 < _; omega) c9
          have e8 := fun p => wide_cell (w := wr) (a := ⟨w.heap.size + 1 + 1, 0, none⟩) p (by show w.heap.size + 1 + 1 < _; omega) c0
          have e9 := fun p => wide_cell (w := wr) (a := ⟨w.heap.size + 1 + 1, 1, none⟩) p (by show w.heap.size + 1 + 1 < _; omega) c1
          have ea := fun p => wide_cell (w := wr) (a := ⟨w.heap.size + 1 + 1, 2, none⟩) p (by show w.heap.size + 1 + 1 < _; omega) cc2
          have hbj' := Lib.hid hbj.out
          clear hbj hmm hjl FJ px p0 p1 p2 p3 p4 p5 p6 c9 c0 c1 cc2 hlr hck hcp
          go_upto_region 15 with (fail)
          refine wp_region_wide (by kernel_rfl) (by kernel_rfl) ?_
          repeat (first | go_big_quiet_step (first | exact Calls.wide_of (hk1' _) | exact Calls.wide_of (hk2' _)) | quiet_step (first | exact Calls.wide_of (hk1' _) | exact Calls.wide_of (hk2' _)))
          refine wpQuiet_nil ?_
          refine wide_all fun W2 hb2 => ?_
          have hB2 := Lib.hid (hbj'.out.trans (hb2.mono hbj'.out.size))
          clear hb2 e0 e1 e2 e3 e4 e5 e6 e7 e8 e9 ea hk1' hk2'
          go_wp2
          go_roundw
          case rel => exact ⟨j + 1, by omega, by go_num, hB2.out⟩
          case measure => simp [intOf]; omega
        · obtain rfl : j = k := by omega
          obtain ⟨s0, s1, s2, s3, s4, s5, s6, s7, s8, s9⟩ := row10 FJ.s
          obtain ⟨x0, x1, x2, x3, x4, x5, x6, x7, x8, x9⟩ := row10 ((hbj.out.block X (Array.getElem?_eq_some_iff.1 hX5.out).1).trans hX5.out)
          have FJ' := Lib.hid FJ
          clear FJ hbj
          go_wp2_with fail
          refine (hc3.out _ FJ'.out.b).mono ?_
          rintro e w9 ⟨rfl, hb9⟩
          have hB9 := Lib.hid (FJ'.out.b.trans (hb9.mono FJ'.out.b.size))
          clear hb9
          go_wp2
          go_ret
          exact ⟨rfl, hB9.out⟩
theorem lawVmLater {w : World} {v : Wv} {W : Wd} {s : Sta} {ev : M} {eb : Addr} (hE : ErrIs w eb) (hT : ErrT w) (hW : Wds w v W) (hs : s.r.length = 8) (hsR : ∀ z ∈ s.r, In64 z) (hsd : In64 s.d) (hss : In64 s.s) (hev : In64 ev.v) :
    Calls Tryd.prog 5 #[v.val W, s.val, ev.val] w fun e w' => e = .returned (.bool true) ∧ Below w.heap.size w w' := by
  obtain ⟨⟨t, f, q⟩, to', vv, u, an⟩ := ev
  obtain ⟨r, d, n⟩ := s
  obtain ⟨r0, r1, r2, r3, r4, r5, r6, r7, rfl⟩ := eight hs
  rcases later_ways (W := W) (r0 := r0) (r1 := r1) (r2 := r2) (r3 := r3) (r4 := r4) (r5 := r5) (r6 := r6) (r7 := r7) (d := d) (n := n) (ev := ⟨⟨t, f, q⟩, to', vv, u, an⟩) with ⟨k, hk, hr⟩ | ⟨k, hk, hr⟩ | ⟨y0, y1, y2, y3, y4, y5, y6, y7, d', o, hr, hl, h1, h2, h3, h4, h5⟩
  · exact later_none hE hT hW hsR hev k hk hr
  · exact later_same hE hT hW hsR hev k hk hr
  · exact later_go hE hT hW hsR hev hr hl h1 h2 h3 h4 h5
end Go.Proofs.YtghbdpjegmdhbaaDoor
