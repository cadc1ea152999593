/-
  The law of nothing done.
-/
import Derived.Test.YtghbdpjegmdhbaaDoorVmL2
import Derived.Test.YtghbdpjegmdhbaaDoorVmF
import Derived.Test.YtghbdpjegmdhbaaDoorVmI
import Derived.Lib.MinMax
namespace Go.Proofs.YtghbdpjegmdhbaaDoor
open Go.ChangeShapes Go.WideShapes Go.ChangeAt Go.RowKit Go.Sort
set_option linter.unusedVariables false
set_option maxRecDepth 4000

theorem one_start3 (w : World) (o1 o2 o3 : Obj) : ((((w.alloc o1).alloc o2).alloc o3).alloc (.cells #[.int .i64 0, .int .i64 0, .int .i64 0, .int .i64 0] 56)).ownsRow (w.heap.size + 1 + 1 + 1) 56 4 (.slice (some ⟨w.heap.size + 1 + 1 + 1, 0, none⟩) 1 1) 1 (flatI [⟨0, 0, 0, 0⟩]) := by
  have h := heap_alloc_new (((w.alloc o1).alloc o2).alloc o3) (.cells #[.int .i64 0, .int .i64 0, .int .i64 0, .int .i64 0] 56)
  simp only [World.size_alloc] at h
  exact ⟨rfl, .inr ⟨w.heap.size + 1 + 1 + 1, 1, _, rfl, Nat.le_refl _, h, Nat.le_refl _, by unfold maxLen; omega, rfl, rfl⟩⟩
theorem Tri.set0 {w w1 : World} {A S : Obj} {x b c d : Value} {T : TypeId} (h : Tri w w1 A S (.cells #[x, b, c, d] T (0, 0))) (u : Value) : Tri w (w1.setCell ⟨w.heap.size + 1 + 1, 0, none⟩ u) A S (.cells #[u, b, c, d] T (0, 0)) := by
  have hb := (Below.refl (w.heap.size + 1 + 1) w1).setCell (p := ⟨w.heap.size + 1 + 1, 0, none⟩) (Nat.le_refl _) u
  refine ⟨(hb.block _ (by omega)).trans h.a, (hb.block _ (by omega)).trans h.s, ?_, h.b.trans (hb.mono (by omega)), Nat.le_trans h.sz hb.size⟩
  have := heap_set (j := 0) (u := u) h.m
  simpa using this
theorem halts_fits {is : List I} (h : ∀ i ∈ is, i.fits) : ∀ i ∈ [(⟨0, 0, 0, 0⟩ : I)] ++ is, i.fits := by
  intro i hi
  rcases List.mem_append.1 hi with h1 | h1
  · simp only [List.mem_singleton] at h1
    subst h1
    exact ⟨by decide, by decide, by decide, by decide⟩
  · exact h i h1
theorem grown_tri {w w4 : World} {A S M : Obj} (h : (((((w.alloc A).alloc S).alloc M).alloc (.cells #[.int .i64 0, .int .i64 0, .int .i64 0, .int .i64 0] 56)).grownBy w4 (Value.ownBlock (.slice (some ⟨w.heap.size + 1 + 1 + 1, 0, none⟩) 1 1)))) : Tri w w4 A S M :=
  (Tri.mk3 w A S M).below (((Below.refl (w.heap.size + 3) (((w.alloc A).alloc S).alloc M)).alloc (by simp) _).grown h (by simp) (fun k hk => ((one_start3 w A S M).lt k hk).1))
theorem self0 : (Lit.int .i64 0).wf = true := by decide

set_option maxHeartbeats 8000000 in
theorem stays_true_A {w : World} {r0 r1 r2 r3 r4 r5 r6 r7 d n t f q to' vv u : Int} {an : Bool} {eb : Addr} {a : Option Addr} {len cap : Nat} {is : List I} {z : Int} (hE : ErrIs w eb) (hT : ErrT w) (hsR : ∀ z ∈ [r0, r1, r2, r3, r4, r5, r6, r7], In64 z) (hev : In64 vv) (h : Inss w a len cap is) (hlr : len * 32 ≤ 140737488351232) (hn : NilP a len cap)
    (hr : runW ⟨([⟨0, 0, 0, 0⟩] ++ is), 0, [], 0⟩ ⟨[r0, r1, r2, r3, r4, r5, r6, r7], d, n⟩ ⟨⟨t, f, q⟩, to', vv, u, an⟩ = (⟨[0, 0, 0, 0, 0, 0, 0, 0], 0, 0⟩, [], z)) (hz : (z == 0) = false) (hck : checkW ⟨([⟨0, 0, 0, 0⟩] ++ is), 0, [], 0⟩ = z) :
    Calls Tryd.prog 8 #[Sta.val ⟨[r0, r1, r2, r3, r4, r5, r6, r7], d, n⟩, M.val ⟨⟨t, f, q⟩, to', vv, u, an⟩, .bool true, .slice a len cap] w fun e w' => e = .returned (.bool true) ∧ Below w.heap.size w w' := by
  have hE' := Lib.hid hE
  have hT' := Lib.hid hT
  have hI := Lib.hid h
  have hn' := Lib.hid hn
  have hr' := Lib.hid hr
  have hs' := Lib.hid hsR
  have hv' := Lib.hid hev
  have hc3 := fun (w1 : World) (hb : Below w.heap.size w w1) => awake5_any (hE.below hb) (hT.below hb)
  clear hE hT h hn hr hsR hev
  have hck' := Lib.hid hck
  clear hck
  have hes := eqlS_refl 0 0 0 0 0 0 0 0 0 0
  simp only [M.val, Sta.val, Sta.cells, List.map_cons, List.map_nil, List.cons_append, List.nil_append]
  go_enter Tryd.func8, Tryd.ntmps8
  go_wp2_with (at_builtin; refine wpList_append_inss rfl _ _ rfl (w.heap.size + 1 + 1 + 1) _ 1 (flatI [⟨0, 0, 0, 0⟩]) rfl (one_start3 w _ _ _) a len cap is rfl (hI.out.below (Four.mk4 w _ _ _ _).b) hn'.out ?c3 ?c4 ?c5 ?_)
  case c3 => unfold maxLen; omega
  case c4 => omega
  try (case c5 => simp)
  intro v' w4 hown4 hg4
  have F4 := grown_tri hg4.out
  obtain ⟨a', cap', rfl⟩ := own_slice hown4
  have hI4 := Lib.hid (ownsRow_setCell_below hown4 (a := ⟨w.heap.size + 1 + 1, 0, none⟩) (by simp) (.slice a' (1 + len) cap'))
  have F5 := Lib.hid (F4.set0 (.slice a' (1 + len) cap'))
  have fz : ∀ j, w4.frozen? ⟨w.heap.size + 1 + 1, j, none⟩ = false := fun j => by simp [World.frozen?, F4.m]
  obtain ⟨g0, g1, g2, g3⟩ := row4 F4.m
  clear hown4 hg4 F4
  go_upto_region 4 with (fail)
  generalize w4.setCell ⟨w.heap.size + 1 + 1, 0, none⟩ (.slice a' (1 + len) cap') = W5 at *
  obtain ⟨a9, cap9, e9, hI9⟩ := inss_of_own (by rw [← flatI_append] at hI4; exact hI4.out) (halts_fits hI.out.2.2.2.1)
  cases e9
  have hW5 := Lib.hid (show Wds W5 ⟨a', 1 + len, cap', none, 0, 0⟩ ⟨([⟨0, 0, 0, 0⟩] ++ is), 0, [], 0⟩ from ⟨hI9, lks_nil _, by show 0 < _; omega, self0⟩)
  clear fz g0 g1 g2 g3 hI9 hI4
  obtain ⟨s50, s51, s52, s53, s54, s55, s56, s57, s58, s59⟩ := row10 F5.out.a
  obtain ⟨m50, m51, m52, m53, m54, m55, m56⟩ := row7 F5.out.s
  obtain ⟨w50, w51, w52, w53⟩ := row4 F5.out.m
  have hc1 := vmRun_lit hW5.out (hE'.out.below F5.out.b) (hT'.out.below F5.out.b) (s := ⟨[r0, r1, r2, r3, r4, r5, r6, r7], d, n⟩) (ev := ⟨⟨t, f, q⟩, to', vv, u, an⟩) rfl hs'.out hv'.out hr'.out
  simp only [Wv.val, M.val, Sta.val, Sta.cells, List.map_cons, List.map_nil, List.cons_append, List.nil_append] at hc1
  go_wp2_with fail
  refine hc1.mono ?_
  rintro e w6 ⟨a6, cap6, rfl, hq⟩
  have F6 := F5.out.below (hq.out.2.mono F5.out.sz)
  have F2 := fun o => F6.below ((Below.refl _ w6).alloc F6.sz o)
  have hW6 := Lib.hid (fun o => (hW5.out.below hq.out.2).below ((Below.refl _ w6).alloc (Nat.le_refl _) o))
  clear s50 s51 s52 s53 s54 s55 s56 s57 s58 s59 m50 m51 m52 m53 m54 m55 m56 w50 w51 w52 w53
  have qs := fun o => row10 (F2 o).a
  have qm := fun o => row7 (F2 o).s
  have qw := fun o => row4 (F2 o).m
  simp only [forall_and] at qs qm qw
  obtain ⟨s60, s61, s62, s63, s64, s65, s66, s67, s68, s69⟩ := qs
  obtain ⟨m60, m61, m62, m63, m64, m65, m66⟩ := qm
  obtain ⟨w60, w61, w62, w63⟩ := qw
  have F2' := Lib.hid F2
  clear hc1 hq F2 F6
  have hvk := fun o => vmCheck_any (hW6.out o) (hE'.out.below (F2'.out o).b)
  simp only [Wv.val] at hvk
  simp only [hck'.out] at hvk
  go_wp2_with fail
  refine (hvk _).mono ?_
  rintro e w7 ⟨rfl, hr7⟩
  have F7 := Lib.hid ((F2'.out _).below (hr7.below.mono (F2'.out _).sz))
  clear s60 s61 s62 s63 s64 s65 s66 s67 s68 s69 m60 m61 m62 m63 m64 m65 m66 w60 w61 w62 w63
  obtain ⟨s70, s71, s72, s73, s74, s75, s76, s77, s78, s79⟩ := row10 F7.out.a
  obtain ⟨m70, m71, m72, m73, m74, m75, m76⟩ := row7 F7.out.s
  obtain ⟨w70, w71, w72, w73⟩ := row4 F7.out.m
  clear hvk hr7
  go_wp2_with fail
  refine (hc3 _ F7.out.b).mono ?_
  rintro e w9 ⟨rfl, hb9⟩
  have hB9 := Lib.hid (F7.out.b.trans (hb9.mono F7.out.b.size))
  clear hb9
  go_wp2
  go_ret
  exact ⟨rfl, hB9.out⟩

set_option maxHeartbeats 8000000 in
theorem stays_true_B {w : World} {r0 r1 r2 r3 r4 r5 r6 r7 d n t f q to' vv u : Int} {an : Bool} {eb : Addr} {a : Option Addr} {len cap : Nat} {is : List I} (hE : ErrIs w eb) (hT : ErrT w) (hsR : ∀ z ∈ [r0, r1, r2, r3, r4, r5, r6, r7], In64 z) (hev : In64 vv) (h : Inss w a len cap is) (hlr : len * 32 ≤ 140737488351232) (hn : NilP a len cap)
    (hr : runW ⟨([⟨0, 0, 0, 0⟩] ++ is), 0, [], 0⟩ ⟨[r0, r1, r2, r3, r4, r5, r6, r7], d, n⟩ ⟨⟨t, f, q⟩, to', vv, u, an⟩ = (⟨[0, 0, 0, 0, 0, 0, 0, 0], 0, 0⟩, [], 1)) (hck : checkW ⟨([⟨0, 0, 0, 0⟩] ++ is), 0, [], 0⟩ = 0) (hcm : chkM ⟨⟨t, f, q⟩, to', vv, u, an⟩ = 1) :
    Calls Tryd.prog 8 #[Sta.val ⟨[r0, r1, r2, r3, r4, r5, r6, r7], d, n⟩, M.val ⟨⟨t, f, q⟩, to', vv, u, an⟩, .bool true, .slice a len cap] w fun e w' => e = .returned (.bool true) ∧ Below w.heap.size w w' := by
  have hE' := Lib.hid hE
  have hT' := Lib.hid hT
  have hI := Lib.hid h
  have hn' := Lib.hid hn
  have hr' := Lib.hid hr
  have hs' := Lib.hid hsR
  have hv' := Lib.hid hev
  have hc3 := fun (w1 : World) (hb : Below w.heap.size w w1) => awake5_any (hE.below hb) (hT.below hb)
  clear hE hT h hn hr hsR hev
  have hck' := Lib.hid hck
  clear hck
  have hes := eqlS_refl 0 0 0 0 0 0 0 0 0 0
  have hem := fun w' => eCheck_any ⟨⟨t, f, q⟩, to', vv, u, an⟩ w'
  rw [hcm] at hem
  clear hcm
  simp only [M.val] at hem
  simp only [M.val, Sta.val, Sta.cells, List.map_cons, List.map_nil, List.cons_append, List.nil_append]
  go_enter Tryd.func8, Tryd.ntmps8
  go_wp2_with (at_builtin; refine wpList_append_inss rfl _ _ rfl (w.heap.size + 1 + 1 + 1) _ 1 (flatI [⟨0, 0, 0, 0⟩]) rfl (one_start3 w _ _ _) a len cap is rfl (hI.out.below (Four.mk4 w _ _ _ _).b) hn'.out ?c3 ?c4 ?c5 ?_)
  case c3 => unfold maxLen; omega
  case c4 => omega
  try (case c5 => simp)
  intro v' w4 hown4 hg4
  have F4 := grown_tri hg4.out
  obtain ⟨a', cap', rfl⟩ := own_slice hown4
  have hI4 := Lib.hid (ownsRow_setCell_below hown4 (a := ⟨w.heap.size + 1 + 1, 0, none⟩) (by simp) (.slice a' (1 + len) cap'))
  have F5 := Lib.hid (F4.set0 (.slice a' (1 + len) cap'))
  have fz : ∀ j, w4.frozen? ⟨w.heap.size + 1 + 1, j, none⟩ = false := fun j => by simp [World.frozen?, F4.m]
  obtain ⟨g0, g1, g2, g3⟩ := row4 F4.m
  clear hown4 hg4 F4
  go_upto_region 4 with (fail)
  generalize w4.setCell ⟨w.heap.size + 1 + 1, 0, none⟩ (.slice a' (1 + len) cap') = W5 at *
  obtain ⟨a9, cap9, e9, hI9⟩ := inss_of_own (by rw [← flatI_append] at hI4; exact hI4.out) (halts_fits hI.out.2.2.2.1)
  cases e9
  have hW5 := Lib.hid (show Wds W5 ⟨a', 1 + len, cap', none, 0, 0⟩ ⟨([⟨0, 0, 0, 0⟩] ++ is), 0, [], 0⟩ from ⟨hI9, lks_nil _, by show 0 < _; omega, self0⟩)
  clear fz g0 g1 g2 g3 hI9 hI4
  obtain ⟨s50, s51, s52, s53, s54, s55, s56, s57, s58, s59⟩ := row10 F5.out.a
  obtain ⟨m50, m51, m52, m53, m54, m55, m56⟩ := row7 F5.out.s
  obtain ⟨w50, w51, w52, w53⟩ := row4 F5.out.m
  have hc1 := vmRun_lit hW5.out (hE'.out.below F5.out.b) (hT'.out.below F5.out.b) (s := ⟨[r0, r1, r2, r3, r4, r5, r6, r7], d, n⟩) (ev := ⟨⟨t, f, q⟩, to', vv, u, an⟩) rfl hs'.out hv'.out hr'.out
  simp only [Wv.val, M.val, Sta.val, Sta.cells, List.map_cons, List.map_nil, List.cons_append, List.nil_append] at hc1
  go_wp2_with fail
  refine hc1.mono ?_
  rintro e w6 ⟨a6, cap6, rfl, hq⟩
  have F6 := F5.out.below (hq.out.2.mono F5.out.sz)
  have F2 := fun o => F6.below ((Below.refl _ w6).alloc F6.sz o)
  have hW6 := Lib.hid (fun o => (hW5.out.below hq.out.2).below ((Below.refl _ w6).alloc (Nat.le_refl _) o))
  clear s50 s51 s52 s53 s54 s55 s56 s57 s58 s59 m50 m51 m52 m53 m54 m55 m56 w50 w51 w52 w53
  have qs := fun o => row10 (F2 o).a
  have qm := fun o => row7 (F2 o).s
  have qw := fun o => row4 (F2 o).m
  simp only [forall_and] at qs qm qw
  obtain ⟨s60, s61, s62, s63, s64, s65, s66, s67, s68, s69⟩ := qs
  obtain ⟨m60, m61, m62, m63, m64, m65, m66⟩ := qm
  obtain ⟨w60, w61, w62, w63⟩ := qw
  have F2' := Lib.hid F2
  clear hc1 hq F2 F6
  have hvk := fun o => vmCheck_any (hW6.out o) (hE'.out.below (F2'.out o).b)
  simp only [Wv.val] at hvk
  simp only [hck'.out] at hvk
  go_wp2_with fail
  refine (hvk _).mono ?_
  rintro e w7 ⟨rfl, hr7⟩
  have F7 := Lib.hid ((F2'.out _).below (hr7.below.mono (F2'.out _).sz))
  clear s60 s61 s62 s63 s64 s65 s66 s67 s68 s69 m60 m61 m62 m63 m64 m65 m66 w60 w61 w62 w63
  obtain ⟨s70, s71, s72, s73, s74, s75, s76, s77, s78, s79⟩ := row10 F7.out.a
  obtain ⟨m70, m71, m72, m73, m74, m75, m76⟩ := row7 F7.out.s
  obtain ⟨w70, w71, w72, w73⟩ := row4 F7.out.m
  clear hvk hr7
  go_wp2_with fail
  refine (hem _).mono ?_
  rintro e w8 ⟨rfl, hr8⟩
  have F8 := Lib.hid (F7.out.below (hr8.below.mono F7.out.sz))
  clear s70 s71 s72 s73 s74 s75 s76 s77 s78 s79 m70 m71 m72 m73 m74 m75 m76 w70 w71 w72 w73
  obtain ⟨s80, s81, s82, s83, s84, s85, s86, s87, s88, s89⟩ := row10 F8.out.a
  obtain ⟨m80, m81, m82, m83, m84, m85, m86⟩ := row7 F8.out.s
  obtain ⟨w80, w81, w82, w83⟩ := row4 F8.out.m
  clear hem hr8
  go_wp2_with fail
  refine (hc3 _ F8.out.b).mono ?_
  rintro e w9 ⟨rfl, hb9⟩
  have hB9 := Lib.hid (F8.out.b.trans (hb9.mono F8.out.b.size))
  clear hb9
  go_wp2
  go_ret
  exact ⟨rfl, hB9.out⟩

set_option maxHeartbeats 8000000 in
theorem stays_true_C {w : World} {r0 r1 r2 r3 r4 r5 r6 r7 d n t f q to' vv u : Int} {an : Bool} {eb : Addr} {a : Option Addr} {len cap : Nat} {is : List I} (hE : ErrIs w eb) (hT : ErrT w) (hsR : ∀ z ∈ [r0, r1, r2, r3, r4, r5, r6, r7], In64 z) (hev : In64 vv) (h : Inss w a len cap is) (hlr : len * 32 ≤ 140737488351232) (hn : NilP a len cap)
    (hr : runW ⟨([⟨0, 0, 0, 0⟩] ++ is), 0, [], 0⟩ ⟨[r0, r1, r2, r3, r4, r5, r6, r7], d, n⟩ ⟨⟨t, f, q⟩, to', vv, u, an⟩ = (⟨[0, 0, 0, 0, 0, 0, 0, 0], 0, 0⟩, [], 1)) (hck : checkW ⟨([⟨0, 0, 0, 0⟩] ++ is), 0, [], 0⟩ = 0) (hcm : chkM ⟨⟨t, f, q⟩, to', vv, u, an⟩ = 0) (hdn : min d n < 0) :
    Calls Tryd.prog 8 #[Sta.val ⟨[r0, r1, r2, r3, r4, r5, r6, r7], d, n⟩, M.val ⟨⟨t, f, q⟩, to', vv, u, an⟩, .bool true, .slice a len cap] w fun e w' => e = .returned (.bool true) ∧ Below w.heap.size w w' := by
  have hE' := Lib.hid hE
  have hT' := Lib.hid hT
  have hI := Lib.hid h
  have hn' := Lib.hid hn
  have hr' := Lib.hid hr
  have hs' := Lib.hid hsR
  have hv' := Lib.hid hev
  have hc3 := fun (w1 : World) (hb : Below w.heap.size w w1) => awake5_any (hE.below hb) (hT.below hb)
  clear hE hT h hn hr hsR hev
  have hck' := Lib.hid hck
  clear hck
  have hes := eqlS_refl 0 0 0 0 0 0 0 0 0 0
  have hem := fun w' => eCheck_any ⟨⟨t, f, q⟩, to', vv, u, an⟩ w'
  rw [hcm] at hem
  clear hcm
  simp only [M.val] at hem
  simp only [M.val, Sta.val, Sta.cells, List.map_cons, List.map_nil, List.cons_append, List.nil_append]
  go_enter Tryd.func8, Tryd.ntmps8
  go_wp2_with (at_builtin; refine wpList_append_inss rfl _ _ rfl (w.heap.size + 1 + 1 + 1) _ 1 (flatI [⟨0, 0, 0, 0⟩]) rfl (one_start3 w _ _ _) a len cap is rfl (hI.out.below (Four.mk4 w _ _ _ _).b) hn'.out ?c3 ?c4 ?c5 ?_)
  case c3 => unfold maxLen; omega
  case c4 => omega
  try (case c5 => simp)
  intro v' w4 hown4 hg4
  have F4 := grown_tri hg4.out
  obtain ⟨a', cap', rfl⟩ := own_slice hown4
  have hI4 := Lib.hid (ownsRow_setCell_below hown4 (a := ⟨w.heap.size + 1 + 1, 0, none⟩) (by simp) (.slice a' (1 + len) cap'))
  have F5 := Lib.hid (F4.set0 (.slice a' (1 + len) cap'))
  have fz : ∀ j, w4.frozen? ⟨w.heap.size + 1 + 1, j, none⟩ = false := fun j => by simp [World.frozen?, F4.m]
  obtain ⟨g0, g1, g2, g3⟩ := row4 F4.m
  clear hown4 hg4 F4
  go_upto_region 4 with (fail)
  generalize w4.setCell ⟨w.heap.size + 1 + 1, 0, none⟩ (.slice a' (1 + len) cap') = W5 at *
  obtain ⟨a9, cap9, e9, hI9⟩ := inss_of_own (by rw [← flatI_append] at hI4; exact hI4.out) (halts_fits hI.out.2.2.2.1)
  cases e9
  have hW5 := Lib.hid (show Wds W5 ⟨a', 1 + len, cap', none, 0, 0⟩ ⟨([⟨0, 0, 0, 0⟩] ++ is), 0, [], 0⟩ from ⟨hI9, lks_nil _, by show 0 < _; omega, self0⟩)
  clear fz g0 g1 g2 g3 hI9 hI4
  obtain ⟨s50, s51, s52, s53, s54, s55, s56, s57, s58, s59⟩ := row10 F5.out.a
  obtain ⟨m50, m51, m52, m53, m54, m55, m56⟩ := row7 F5.out.s
  obtain ⟨w50, w51, w52, w53⟩ := row4 F5.out.m
  have hc1 := vmRun_lit hW5.out (hE'.out.below F5.out.b) (hT'.out.below F5.out.b) (s := ⟨[r0, r1, r2, r3, r4, r5, r6, r7], d, n⟩) (ev := ⟨⟨t, f, q⟩, to', vv, u, an⟩) rfl hs'.out hv'.out hr'.out
  simp only [Wv.val, M.val, Sta.val, Sta.cells, List.map_cons, List.map_nil, List.cons_append, List.nil_append] at hc1
  go_wp2_with fail
  refine hc1.mono ?_
  rintro e w6 ⟨a6, cap6, rfl, hq⟩
  have F6 := F5.out.below (hq.out.2.mono F5.out.sz)
  have F2 := fun o => F6.below ((Below.refl _ w6).alloc F6.sz o)
  have hW6 := Lib.hid (fun o => (hW5.out.below hq.out.2).below ((Below.refl _ w6).alloc (Nat.le_refl _) o))
  clear s50 s51 s52 s53 s54 s55 s56 s57 s58 s59 m50 m51 m52 m53 m54 m55 m56 w50 w51 w52 w53
  have qs := fun o => row10 (F2 o).a
  have qm := fun o => row7 (F2 o).s
  have qw := fun o => row4 (F2 o).m
  simp only [forall_and] at qs qm qw
  obtain ⟨s60, s61, s62, s63, s64, s65, s66, s67, s68, s69⟩ := qs
  obtain ⟨m60, m61, m62, m63, m64, m65, m66⟩ := qm
  obtain ⟨w60, w61, w62, w63⟩ := qw
  have F2' := Lib.hid F2
  clear hc1 hq F2 F6
  have hvk := fun o => vmCheck_any (hW6.out o) (hE'.out.below (F2'.out o).b)
  simp only [Wv.val] at hvk
  simp only [hck'.out] at hvk
  go_wp2_with fail
  refine (hvk _).mono ?_
  rintro e w7 ⟨rfl, hr7⟩
  have F7 := Lib.hid ((F2'.out _).below (hr7.below.mono (F2'.out _).sz))
  clear s60 s61 s62 s63 s64 s65 s66 s67 s68 s69 m60 m61 m62 m63 m64 m65 m66 w60 w61 w62 w63
  obtain ⟨s70, s71, s72, s73, s74, s75, s76, s77, s78, s79⟩ := row10 F7.out.a
  obtain ⟨m70, m71, m72, m73, m74, m75, m76⟩ := row7 F7.out.s
  obtain ⟨w70, w71, w72, w73⟩ := row4 F7.out.m
  clear hvk hr7
  go_wp2_with fail
  refine (hem _).mono ?_
  rintro e w8 ⟨rfl, hr8⟩
  have F8 := Lib.hid (F7.out.below (hr8.below.mono F7.out.sz))
  clear s70 s71 s72 s73 s74 s75 s76 s77 s78 s79 m70 m71 m72 m73 m74 m75 m76 w70 w71 w72 w73
  obtain ⟨s80, s81, s82, s83, s84, s85, s86, s87, s88, s89⟩ := row10 F8.out.a
  obtain ⟨m80, m81, m82, m83, m84, m85, m86⟩ := row7 F8.out.s
  obtain ⟨w80, w81, w82, w83⟩ := row4 F8.out.m
  clear hem hr8
  go_wp2_with fail
  refine (hc3 _ F8.out.b).mono ?_
  rintro e w9 ⟨rfl, hb9⟩
  have hB9 := Lib.hid (F8.out.b.trans (hb9.mono F8.out.b.size))
  clear hb9
  go_wp2
  go_ret
  exact ⟨rfl, hB9.out⟩

set_option maxHeartbeats 8000000 in
theorem stays_true_X {w : World} {r0 r1 r2 r3 r4 r5 r6 r7 d n t f q to' vv u : Int} {an : Bool} {eb : Addr} {a : Option Addr} {len cap : Nat} {is : List I} (hE : ErrIs w eb) (hT : ErrT w) (hsR : ∀ z ∈ [r0, r1, r2, r3, r4, r5, r6, r7], In64 z) (hev : In64 vv) (h : Inss w a len cap is) (hlr : len * 32 ≤ 140737488351232) (hn : NilP a len cap)
    (hr : runW ⟨([⟨0, 0, 0, 0⟩] ++ is), 0, [], 0⟩ ⟨[r0, r1, r2, r3, r4, r5, r6, r7], d, n⟩ ⟨⟨t, f, q⟩, to', vv, u, an⟩ = (⟨[0, 0, 0, 0, 0, 0, 0, 0], 0, 0⟩, [], 1)) (hck : checkW ⟨([⟨0, 0, 0, 0⟩] ++ is), 0, [], 0⟩ = 0) (hcm : chkM ⟨⟨t, f, q⟩, to', vv, u, an⟩ = 0) (hdn : ¬ min d n < 0) (hdx : 1125899906842624 < max d n) :
    Calls Tryd.prog 8 #[Sta.val ⟨[r0, r1, r2, r3, r4, r5, r6, r7], d, n⟩, M.val ⟨⟨t, f, q⟩, to', vv, u, an⟩, .bool true, .slice a len cap] w fun e w' => e = .returned (.bool true) ∧ Below w.heap.size w w' := by
  have hE' := Lib.hid hE
  have hT' := Lib.hid hT
  have hI := Lib.hid h
  have hn' := Lib.hid hn
  have hr' := Lib.hid hr
  have hs' := Lib.hid hsR
  have hv' := Lib.hid hev
  have hc3 := fun (w1 : World) (hb : Below w.heap.size w w1) => awake5_any (hE.below hb) (hT.below hb)
  clear hE hT h hn hr hsR hev
  have hck' := Lib.hid hck
  clear hck
  have hes := eqlS_refl 0 0 0 0 0 0 0 0 0 0
  have hem := fun w' => eCheck_any ⟨⟨t, f, q⟩, to', vv, u, an⟩ w'
  rw [hcm] at hem
  clear hcm
  simp only [M.val] at hem
  simp only [M.val, Sta.val, Sta.cells, List.map_cons, List.map_nil, List.cons_append, List.nil_append]
  go_enter Tryd.func8, Tryd.ntmps8
  go_wp2_with (at_builtin; refine wpList_append_inss rfl _ _ rfl (w.heap.size + 1 + 1 + 1) _ 1 (flatI [⟨0, 0, 0, 0⟩]) rfl (one_start3 w _ _ _) a len cap is rfl (hI.out.below (Four.mk4 w _ _ _ _).b) hn'.out ?c3 ?c4 ?c5 ?_)
  case c3 => unfold maxLen; omega
  case c4 => omega
  try (case c5 => simp)
  intro v' w4 hown4 hg4
  have F4 := grown_tri hg4.out
  obtain ⟨a', cap', rfl⟩ := own_slice hown4
  have hI4 := Lib.hid (ownsRow_setCell_below hown4 (a := ⟨w.heap.size + 1 + 1, 0, none⟩) (by simp) (.slice a' (1 + len) cap'))
  have F5 := Lib.hid (F4.set0 (.slice a' (1 + len) cap'))
  have fz : ∀ j, w4.frozen? ⟨w.heap.size + 1 + 1, j, none⟩ = false := fun j => by simp [World.frozen?, F4.m]
  obtain ⟨g0, g1, g2, g3⟩ := row4 F4.m
  clear hown4 hg4 F4
  go_upto_region 4 with (fail)
  generalize w4.setCell ⟨w.heap.size + 1 + 1, 0, none⟩ (.slice a' (1 + len) cap') = W5 at *
  obtain ⟨a9, cap9, e9, hI9⟩ := inss_of_own (by rw [← flatI_append] at hI4; exact hI4.out) (halts_fits hI.out.2.2.2.1)
  cases e9
  have hW5 := Lib.hid (show Wds W5 ⟨a', 1 + len, cap', none, 0, 0⟩ ⟨([⟨0, 0, 0, 0⟩] ++ is), 0, [], 0⟩ from ⟨hI9, lks_nil _, by show 0 < _; omega, self0⟩)
  clear fz g0 g1 g2 g3 hI9 hI4
  obtain ⟨s50, s51, s52, s53, s54, s55, s56, s57, s58, s59⟩ := row10 F5.out.a
  obtain ⟨m50, m51, m52, m53, m54, m55, m56⟩ := row7 F5.out.s
  obtain ⟨w50, w51, w52, w53⟩ := row4 F5.out.m
  have hc1 := vmRun_lit hW5.out (hE'.out.below F5.out.b) (hT'.out.below F5.out.b) (s := ⟨[r0, r1, r2, r3, r4, r5, r6, r7], d, n⟩) (ev := ⟨⟨t, f, q⟩, to', vv, u, an⟩) rfl hs'.out hv'.out hr'.out
  simp only [Wv.val, M.val, Sta.val, Sta.cells, List.map_cons, List.map_nil, List.cons_append, List.nil_append] at hc1
  go_wp2_with fail
  refine hc1.mono ?_
  rintro e w6 ⟨a6, cap6, rfl, hq⟩
  have F6 := F5.out.below (hq.out.2.mono F5.out.sz)
  have F2 := fun o => F6.below ((Below.refl _ w6).alloc F6.sz o)
  have hW6 := Lib.hid (fun o => (hW5.out.below hq.out.2).below ((Below.refl _ w6).alloc (Nat.le_refl _) o))
  clear s50 s51 s52 s53 s54 s55 s56 s57 s58 s59 m50 m51 m52 m53 m54 m55 m56 w50 w51 w52 w53
  have qs := fun o => row10 (F2 o).a
  have qm := fun o => row7 (F2 o).s
  have qw := fun o => row4 (F2 o).m
  simp only [forall_and] at qs qm qw
  obtain ⟨s60, s61, s62, s63, s64, s65, s66, s67, s68, s69⟩ := qs
  obtain ⟨m60, m61, m62, m63, m64, m65, m66⟩ := qm
  obtain ⟨w60, w61, w62, w63⟩ := qw
  have F2' := Lib.hid F2
  clear hc1 hq F2 F6
  have hvk := fun o => vmCheck_any (hW6.out o) (hE'.out.below (F2'.out o).b)
  simp only [Wv.val] at hvk
  simp only [hck'.out] at hvk
  go_wp2_with fail
  refine (hvk _).mono ?_
  rintro e w7 ⟨rfl, hr7⟩
  have F7 := Lib.hid ((F2'.out _).below (hr7.below.mono (F2'.out _).sz))
  clear s60 s61 s62 s63 s64 s65 s66 s67 s68 s69 m60 m61 m62 m63 m64 m65 m66 w60 w61 w62 w63
  obtain ⟨s70, s71, s72, s73, s74, s75, s76, s77, s78, s79⟩ := row10 F7.out.a
  obtain ⟨m70, m71, m72, m73, m74, m75, m76⟩ := row7 F7.out.s
  obtain ⟨w70, w71, w72, w73⟩ := row4 F7.out.m
  clear hvk hr7
  go_wp2_with fail
  refine (hem _).mono ?_
  rintro e w8 ⟨rfl, hr8⟩
  have F8 := Lib.hid (F7.out.below (hr8.below.mono F7.out.sz))
  clear s70 s71 s72 s73 s74 s75 s76 s77 s78 s79 m70 m71 m72 m73 m74 m75 m76 w70 w71 w72 w73
  obtain ⟨s80, s81, s82, s83, s84, s85, s86, s87, s88, s89⟩ := row10 F8.out.a
  obtain ⟨m80, m81, m82, m83, m84, m85, m86⟩ := row7 F8.out.s
  obtain ⟨w80, w81, w82, w83⟩ := row4 F8.out.m
  clear hem hr8
  go_wp2_with fail
  refine (hc3 _ F8.out.b).mono ?_
  rintro e w9 ⟨rfl, hb9⟩
  have hB9 := Lib.hid (F8.out.b.trans (hb9.mono F8.out.b.size))
  clear hb9
  go_wp2
  go_ret
  exact ⟨rfl, hB9.out⟩

set_option maxHeartbeats 8000000 in
theorem stays_true_D {w : World} {r0 r1 r2 r3 r4 r5 r6 r7 d n t f q to' vv u : Int} {an : Bool} {eb : Addr} {a : Option Addr} {len cap : Nat} {is : List I} (hE : ErrIs w eb) (hT : ErrT w) (hsR : ∀ z ∈ [r0, r1, r2, r3, r4, r5, r6, r7], In64 z) (hev : In64 vv) (h : Inss w a len cap is) (hlr : len * 32 ≤ 140737488351232) (hn : NilP a len cap)
    (hr : runW ⟨([⟨0, 0, 0, 0⟩] ++ is), 0, [], 0⟩ ⟨[r0, r1, r2, r3, r4, r5, r6, r7], d, n⟩ ⟨⟨t, f, q⟩, to', vv, u, an⟩ = (⟨[r0, r1, r2, r3, r4, r5, r6, r7], d, n⟩, [], 0)) :
    Calls Tryd.prog 8 #[Sta.val ⟨[r0, r1, r2, r3, r4, r5, r6, r7], d, n⟩, M.val ⟨⟨t, f, q⟩, to', vv, u, an⟩, .bool true, .slice a len cap] w fun e w' => e = .returned (.bool true) ∧ Below w.heap.size w w' := by
  have hE' := Lib.hid hE
  have hT' := Lib.hid hT
  have hI := Lib.hid h
  have hn' := Lib.hid hn
  have hr' := Lib.hid hr
  have hs' := Lib.hid hsR
  have hv' := Lib.hid hev
  have hc3 := fun (w1 : World) (hb : Below w.heap.size w w1) => awake5_any (hE.below hb) (hT.below hb)
  clear hE hT h hn hr hsR hev
  have hes := eqlS_refl r0 r1 r2 r3 r4 r5 r6 r7 d n
  simp only [M.val, Sta.val, Sta.cells, List.map_cons, List.map_nil, List.cons_append, List.nil_append]
  go_enter Tryd.func8, Tryd.ntmps8
  go_wp2_with (at_builtin; refine wpList_append_inss rfl _ _ rfl (w.heap.size + 1 + 1 + 1) _ 1 (flatI [⟨0, 0, 0, 0⟩]) rfl (one_start3 w _ _ _) a len cap is rfl (hI.out.below (Four.mk4 w _ _ _ _).b) hn'.out ?c3 ?c4 ?c5 ?_)
  case c3 => unfold maxLen; omega
  case c4 => omega
  try (case c5 => simp)
  intro v' w4 hown4 hg4
  have F4 := grown_tri hg4.out
  obtain ⟨a', cap', rfl⟩ := own_slice hown4
  have hI4 := Lib.hid (ownsRow_setCell_below hown4 (a := ⟨w.heap.size + 1 + 1, 0, none⟩) (by simp) (.slice a' (1 + len) cap'))
  have F5 := Lib.hid (F4.set0 (.slice a' (1 + len) cap'))
  have fz : ∀ j, w4.frozen? ⟨w.heap.size + 1 + 1, j, none⟩ = false := fun j => by simp [World.frozen?, F4.m]
  obtain ⟨g0, g1, g2, g3⟩ := row4 F4.m
  clear hown4 hg4 F4
  go_upto_region 4 with (fail)
  generalize w4.setCell ⟨w.heap.size + 1 + 1, 0, none⟩ (.slice a' (1 + len) cap') = W5 at *
  obtain ⟨a9, cap9, e9, hI9⟩ := inss_of_own (by rw [← flatI_append] at hI4; exact hI4.out) (halts_fits hI.out.2.2.2.1)
  cases e9
  have hW5 := Lib.hid (show Wds W5 ⟨a', 1 + len, cap', none, 0, 0⟩ ⟨([⟨0, 0, 0, 0⟩] ++ is), 0, [], 0⟩ from ⟨hI9, lks_nil _, by show 0 < _; omega, self0⟩)
  clear fz g0 g1 g2 g3 hI9 hI4
  obtain ⟨s50, s51, s52, s53, s54, s55, s56, s57, s58, s59⟩ := row10 F5.out.a
  obtain ⟨m50, m51, m52, m53, m54, m55, m56⟩ := row7 F5.out.s
  obtain ⟨w50, w51, w52, w53⟩ := row4 F5.out.m
  have hc1 := vmRun_lit hW5.out (hE'.out.below F5.out.b) (hT'.out.below F5.out.b) (s := ⟨[r0, r1, r2, r3, r4, r5, r6, r7], d, n⟩) (ev := ⟨⟨t, f, q⟩, to', vv, u, an⟩) rfl hs'.out hv'.out hr'.out
  simp only [Wv.val, M.val, Sta.val, Sta.cells, List.map_cons, List.map_nil, List.cons_append, List.nil_append] at hc1
  go_wp2_with fail
  refine hc1.mono ?_
  rintro e w6 ⟨a6, cap6, rfl, hq⟩
  have F6 := F5.out.below (hq.out.2.mono F5.out.sz)
  have F2 := fun o => F6.below ((Below.refl _ w6).alloc F6.sz o)
  have hW6 := Lib.hid (fun o => (hW5.out.below hq.out.2).below ((Below.refl _ w6).alloc (Nat.le_refl _) o))
  clear s50 s51 s52 s53 s54 s55 s56 s57 s58 s59 m50 m51 m52 m53 m54 m55 m56 w50 w51 w52 w53
  have qs := fun o => row10 (F2 o).a
  have qm := fun o => row7 (F2 o).s
  have qw := fun o => row4 (F2 o).m
  simp only [forall_and] at qs qm qw
  obtain ⟨s60, s61, s62, s63, s64, s65, s66, s67, s68, s69⟩ := qs
  obtain ⟨m60, m61, m62, m63, m64, m65, m66⟩ := qm
  obtain ⟨w60, w61, w62, w63⟩ := qw
  have F2' := Lib.hid F2
  clear hc1 hq F2 F6
  go_wp2_with fail
  refine (hc3 _ (F2'.out _).b).mono ?_
  rintro e w9 ⟨rfl, hb9⟩
  have hB9 := Lib.hid ((F2'.out _).b.trans (hb9.mono (F2'.out _).b.size))
  clear hb9
  go_wp2
  go_ret
  exact ⟨rfl, hB9.out⟩

set_option maxHeartbeats 8000000 in
theorem stays_false_A {w : World} {r0 r1 r2 r3 r4 r5 r6 r7 d n t f q to' vv u : Int} {an : Bool} {eb : Addr} {a : Option Addr} {len cap : Nat} {is : List I} {z : Int} (hE : ErrIs w eb) (hT : ErrT w) (hsR : ∀ z ∈ [r0, r1, r2, r3, r4, r5, r6, r7], In64 z) (hev : In64 vv) (h : Inss w a len cap is) (hlr : len * 32 ≤ 140737488351232) (hn : NilP a len cap)
    (hr : runW ⟨[], 0, [], 0⟩ ⟨[r0, r1, r2, r3, r4, r5, r6, r7], d, n⟩ ⟨⟨t, f, q⟩, to', vv, u, an⟩ = (⟨[0, 0, 0, 0, 0, 0, 0, 0], 0, 0⟩, [], z)) (hz : (z == 0) = false) (hck : checkW ⟨[], 0, [], 0⟩ = z) :
    Calls Tryd.prog 8 #[Sta.val ⟨[r0, r1, r2, r3, r4, r5, r6, r7], d, n⟩, M.val ⟨⟨t, f, q⟩, to', vv, u, an⟩, .bool false, .slice a len cap] w fun e w' => e = .returned (.bool true) ∧ Below w.heap.size w w' := by
  have hE' := Lib.hid hE
  have hT' := Lib.hid hT
  have hI := Lib.hid h
  have hn' := Lib.hid hn
  have hr' := Lib.hid hr
  have hs' := Lib.hid hsR
  have hv' := Lib.hid hev
  have hc3 := fun (w1 : World) (hb : Below w.heap.size w w1) => awake5_any (hE.below hb) (hT.below hb)
  clear hE hT h hn hr hsR hev
  have hck' := Lib.hid hck
  clear hck
  have hes := eqlS_refl 0 0 0 0 0 0 0 0 0 0
  simp only [M.val, Sta.val, Sta.cells, List.map_cons, List.map_nil, List.cons_append, List.nil_append]
  go_enter Tryd.func8, Tryd.ntmps8
  go_upto_region 4 with (fail)
  have F5 := Lib.hid (Tri.mk3 w (.cells #[.int .i64 r0, .int .i64 r1, .int .i64 r2, .int .i64 r3, .int .i64 r4, .int .i64 r5, .int .i64 r6, .int .i64 r7, .int .i64 d, .int .i64 n] 29) (.cells #[.int .i64 t, .int .i64 f, .int .i64 q, .int .i64 to', .int .i64 vv, .int .i64 u, .bool an] 33) (.cells #[.slice none 0 0, .int .i64 0, .slice none 0 0, .int .u64 0] 26))
  generalize ((w.alloc (.cells #[.int .i64 r0, .int .i64 r1, .int .i64 r2, .int .i64 r3, .int .i64 r4, .int .i64 r5, .int .i64 r6, .int .i64 r7, .int .i64 d, .int .i64 n] 29)).alloc (.cells #[.int .i64 t, .int .i64 f, .int .i64 q, .int .i64 to', .int .i64 vv, .int .i64 u, .bool an] 33)).alloc (.cells #[.slice none 0 0, .int .i64 0, .slice none 0 0, .int .u64 0] 26) = W5 at *
  have hW5 := Lib.hid (show Wds W5 ⟨none, 0, 0, none, 0, 0⟩ ⟨[], 0, [], 0⟩ from ⟨⟨rfl, Nat.le_refl _, by show 0 ≤ maxLen; unfold maxLen; omega, by simp, .inl rfl⟩, lks_nil _, by show 0 < _; omega, self0⟩)
  obtain ⟨s50, s51, s52, s53, s54, s55, s56, s57, s58, s59⟩ := row10 F5.out.a
  obtain ⟨m50, m51, m52, m53, m54, m55, m56⟩ := row7 F5.out.s
  obtain ⟨w50, w51, w52, w53⟩ := row4 F5.out.m
  have hc1 := vmRun_lit hW5.out (hE'.out.below F5.out.b) (hT'.out.below F5.out.b) (s := ⟨[r0, r1, r2, r3, r4, r5, r6, r7], d, n⟩) (ev := ⟨⟨t, f, q⟩, to', vv, u, an⟩) rfl hs'.out hv'.out hr'.out
  simp only [Wv.val, M.val, Sta.val, Sta.cells, List.map_cons, List.map_nil, List.cons_append, List.nil_append] at hc1
  go_wp2_with fail
  refine hc1.mono ?_
  rintro e w6 ⟨a6, cap6, rfl, hq⟩
  have F6 := F5.out.below (hq.out.2.mono F5.out.sz)
  have F2 := fun o => F6.below ((Below.refl _ w6).alloc F6.sz o)
  have hW6 := Lib.hid (fun o => (hW5.out.below hq.out.2).below ((Below.refl _ w6).alloc (Nat.le_refl _) o))
  clear s50 s51 s52 s53 s54 s55 s56 s57 s58 s59 m50 m51 m52 m53 m54 m55 m56 w50 w51 w52 w53
  have qs := fun o => row10 (F2 o).a
  have qm := fun o => row7 (F2 o).s
  have qw := fun o => row4 (F2 o).m
  simp only [forall_and] at qs qm qw
  obtain ⟨s60, s61, s62, s63, s64, s65, s66, s67, s68, s69⟩ := qs
  obtain ⟨m60, m61, m62, m63, m64, m65, m66⟩ := qm
  obtain ⟨w60, w61, w62, w63⟩ := qw
  have F2' := Lib.hid F2
  clear hc1 hq F2 F6
  have hvk := fun o => vmCheck_any (hW6.out o) (hE'.out.below (F2'.out o).b)
  simp only [Wv.val] at hvk
  simp only [hck'.out] at hvk
  go_wp2_with fail
  refine (hvk _).mono ?_
  rintro e w7 ⟨rfl, hr7⟩
  have F7 := Lib.hid ((F2'.out _).below (hr7.below.mono (F2'.out _).sz))
  clear s60 s61 s62 s63 s64 s65 s66 s67 s68 s69 m60 m61 m62 m63 m64 m65 m66 w60 w61 w62 w63
  obtain ⟨s70, s71, s72, s73, s74, s75, s76, s77, s78, s79⟩ := row10 F7.out.a
  obtain ⟨m70, m71, m72, m73, m74, m75, m76⟩ := row7 F7.out.s
  obtain ⟨w70, w71, w72, w73⟩ := row4 F7.out.m
  clear hvk hr7
  go_wp2_with fail
  refine (hc3 _ F7.out.b).mono ?_
  rintro e w9 ⟨rfl, hb9⟩
  have hB9 := Lib.hid (F7.out.b.trans (hb9.mono F7.out.b.size))
  clear hb9
  go_wp2
  go_ret
  exact ⟨rfl, hB9.out⟩

set_option maxHeartbeats 8000000 in
theorem stays_false_B {w : World} {r0 r1 r2 r3 r4 r5 r6 r7 d n t f q to' vv u : Int} {an : Bool} {eb : Addr} {a : Option Addr} {len cap : Nat} {is : List I} (hE : ErrIs w eb) (hT : ErrT w) (hsR : ∀ z ∈ [r0, r1, r2, r3, r4, r5, r6, r7], In64 z) (hev : In64 vv) (h : Inss w a len cap is) (hlr : len * 32 ≤ 140737488351232) (hn : NilP a len cap)
    (hr : runW ⟨[], 0, [], 0⟩ ⟨[r0, r1, r2, r3, r4, r5, r6, r7], d, n⟩ ⟨⟨t, f, q⟩, to', vv, u, an⟩ = (⟨[0, 0, 0, 0, 0, 0, 0, 0], 0, 0⟩, [], 1)) (hck : checkW ⟨[], 0, [], 0⟩ = 0) (hcm : chkM ⟨⟨t, f, q⟩, to', vv, u, an⟩ = 1) :
    Calls Tryd.prog 8 #[Sta.val ⟨[r0, r1, r2, r3, r4, r5, r6, r7], d, n⟩, M.val ⟨⟨t, f, q⟩, to', vv, u, an⟩, .bool false, .slice a len cap] w fun e w' => e = .returned (.bool true) ∧ Below w.heap.size w w' := by
  have hE' := Lib.hid hE
  have hT' := Lib.hid hT
  have hI := Lib.hid h
  have hn' := Lib.hid hn
  have hr' := Lib.hid hr
  have hs' := Lib.hid hsR
  have hv' := Lib.hid hev
  have hc3 := fun (w1 : World) (hb : Below w.heap.size w w1) => awake5_any (hE.below hb) (hT.below hb)
  clear hE hT h hn hr hsR hev
  have hck' := Lib.hid hck
  clear hck
  have hes := eqlS_refl 0 0 0 0 0 0 0 0 0 0
  have hem := fun w' => eCheck_any ⟨⟨t, f, q⟩, to', vv, u, an⟩ w'
  rw [hcm] at hem
  clear hcm
  simp only [M.val] at hem
  simp only [M.val, Sta.val, Sta.cells, List.map_cons, List.map_nil, List.cons_append, List.nil_append]
  go_enter Tryd.func8, Tryd.ntmps8
  go_upto_region 4 with (fail)
  have F5 := Lib.hid (Tri.mk3 w (.cells #[.int .i64 r0, .int .i64 r1, .int .i64 r2, .int .i64 r3, .int .i64 r4, .int .i64 r5, .int .i64 r6, .int .i64 r7, .int .i64 d, .int .i64 n] 29) (.cells #[.int .i64 t, .int .i64 f, .int .i64 q, .int .i64 to', .int .i64 vv, .int .i64 u, .bool an] 33) (.cells #[.slice none 0 0, .int .i64 0, .slice none 0 0, .int .u64 0] 26))
  generalize ((w.alloc (.cells #[.int .i64 r0, .int .i64 r1, .int .i64 r2, .int .i64 r3, .int .i64 r4, .int .i64 r5, .int .i64 r6, .int .i64 r7, .int .i64 d, .int .i64 n] 29)).alloc (.cells #[.int .i64 t, .int .i64 f, .int .i64 q, .int .i64 to', .int .i64 vv, .int .i64 u, .bool an] 33)).alloc (.cells #[.slice none 0 0, .int .i64 0, .slice none 0 0, .int .u64 0] 26) = W5 at *
  have hW5 := Lib.hid (show Wds W5 ⟨none, 0, 0, none, 0, 0⟩ ⟨[], 0, [], 0⟩ from ⟨⟨rfl, Nat.le_refl _, by show 0 ≤ maxLen; unfold maxLen; omega, by simp, .inl rfl⟩, lks_nil _, by show 0 < _; omega, self0⟩)
  obtain ⟨s50, s51, s52, s53, s54, s55, s56, s57, s58, s59⟩ := row10 F5.out.a
  obtain ⟨m50, m51, m52, m53, m54, m55, m56⟩ := row7 F5.out.s
  obtain ⟨w50, w51, w52, w53⟩ := row4 F5.out.m
  have hc1 := vmRun_lit hW5.out (hE'.out.below F5.out.b) (hT'.out.below F5.out.b) (s := ⟨[r0, r1, r2, r3, r4, r5, r6, r7], d, n⟩) (ev := ⟨⟨t, f, q⟩, to', vv, u, an⟩) rfl hs'.out hv'.out hr'.out
  simp only [Wv.val, M.val, Sta.val, Sta.cells, List.map_cons, List.map_nil, List.cons_append, List.nil_append] at hc1
  go_wp2_with fail
  refine hc1.mono ?_
  rintro e w6 ⟨a6, cap6, rfl, hq⟩
  have F6 := F5.out.below (hq.out.2.mono F5.out.sz)
  have F2 := fun o => F6.below ((Below.refl _ w6).alloc F6.sz o)
  have hW6 := Lib.hid (fun o => (hW5.out.below hq.out.2).below ((Below.refl _ w6).alloc (Nat.le_refl _) o))
  clear s50 s51 s52 s53 s54 s55 s56 s57 s58 s59 m50 m51 m52 m53 m54 m55 m56 w50 w51 w52 w53
  have qs := fun o => row10 (F2 o).a
  have qm := fun o => row7 (F2 o).s
  have qw := fun o => row4 (F2 o).m
  simp only [forall_and] at qs qm qw
  obtain ⟨s60, s61, s62, s63, s64, s65, s66, s67, s68, s69⟩ := qs
  obtain ⟨m60, m61, m62, m63, m64, m65, m66⟩ := qm
  obtain ⟨w60, w61, w62, w63⟩ := qw
  have F2' := Lib.hid F2
  clear hc1 hq F2 F6
  have hvk := fun o => vmCheck_any (hW6.out o) (hE'.out.below (F2'.out o).b)
  simp only [Wv.val] at hvk
  simp only [hck'.out] at hvk
  go_wp2_with fail
  refine (hvk _).mono ?_
  rintro e w7 ⟨rfl, hr7⟩
  have F7 := Lib.hid ((F2'.out _).below (hr7.below.mono (F2'.out _).sz))
  clear s60 s61 s62 s63 s64 s65 s66 s67 s68 s69 m60 m61 m62 m63 m64 m65 m66 w60 w61 w62 w63
  obtain ⟨s70, s71, s72, s73, s74, s75, s76, s77, s78, s79⟩ := row10 F7.out.a
  obtain ⟨m70, m71, m72, m73, m74, m75, m76⟩ := row7 F7.out.s
  obtain ⟨w70, w71, w72, w73⟩ := row4 F7.out.m
  clear hvk hr7
  go_wp2_with fail
  refine (hem _).mono ?_
  rintro e w8 ⟨rfl, hr8⟩
  have F8 := Lib.hid (F7.out.below (hr8.below.mono F7.out.sz))
  clear s70 s71 s72 s73 s74 s75 s76 s77 s78 s79 m70 m71 m72 m73 m74 m75 m76 w70 w71 w72 w73
  obtain ⟨s80, s81, s82, s83, s84, s85, s86, s87, s88, s89⟩ := row10 F8.out.a
  obtain ⟨m80, m81, m82, m83, m84, m85, m86⟩ := row7 F8.out.s
  obtain ⟨w80, w81, w82, w83⟩ := row4 F8.out.m
  clear hem hr8
  go_wp2_with fail
  refine (hc3 _ F8.out.b).mono ?_
  rintro e w9 ⟨rfl, hb9⟩
  have hB9 := Lib.hid (F8.out.b.trans (hb9.mono F8.out.b.size))
  clear hb9
  go_wp2
  go_ret
  exact ⟨rfl, hB9.out⟩

set_option maxHeartbeats 8000000 in
theorem stays_false_C {w : World} {r0 r1 r2 r3 r4 r5 r6 r7 d n t f q to' vv u : Int} {an : Bool} {eb : Addr} {a : Option Addr} {len cap : Nat} {is : List I} (hE : ErrIs w eb) (hT : ErrT w) (hsR : ∀ z ∈ [r0, r1, r2, r3, r4, r5, r6, r7], In64 z) (hev : In64 vv) (h : Inss w a len cap is) (hlr : len * 32 ≤ 140737488351232) (hn : NilP a len cap)
    (hr : runW ⟨[], 0, [], 0⟩ ⟨[r0, r1, r2, r3, r4, r5, r6, r7], d, n⟩ ⟨⟨t, f, q⟩, to', vv, u, an⟩ = (⟨[0, 0, 0, 0, 0, 0, 0, 0], 0, 0⟩, [], 1)) (hck : checkW ⟨[], 0, [], 0⟩ = 0) (hcm : chkM ⟨⟨t, f, q⟩, to', vv, u, an⟩ = 0) (hdn : min d n < 0) :
    Calls Tryd.prog 8 #[Sta.val ⟨[r0, r1, r2, r3, r4, r5, r6, r7], d, n⟩, M.val ⟨⟨t, f, q⟩, to', vv, u, an⟩, .bool false, .slice a len cap] w fun e w' => e = .returned (.bool true) ∧ Below w.heap.size w w' := by
  have hE' := Lib.hid hE
  have hT' := Lib.hid hT
  have hI := Lib.hid h
  have hn' := Lib.hid hn
  have hr' := Lib.hid hr
  have hs' := Lib.hid hsR
  have hv' := Lib.hid hev
  have hc3 := fun (w1 : World) (hb : Below w.heap.size w w1) => awake5_any (hE.below hb) (hT.below hb)
  clear hE hT h hn hr hsR hev
  have hck' := Lib.hid hck
  clear hck
  have hes := eqlS_refl 0 0 0 0 0 0 0 0 0 0
  have hem := fun w' => eCheck_any ⟨⟨t, f, q⟩, to', vv, u, an⟩ w'
  rw [hcm] at hem
  clear hcm
  simp only [M.val] at hem
  simp only [M.val, Sta.val, Sta.cells, List.map_cons, List.map_nil, List.cons_append, List.nil_append]
  go_enter Tryd.func8, Tryd.ntmps8
  go_upto_region 4 with (fail)
  have F5 := Lib.hid (Tri.mk3 w (.cells #[.int .i64 r0, .int .i64 r1, .int .i64 r2, .int .i64 r3, .int .i64 r4, .int .i64 r5, .int .i64 r6, .int .i64 r7, .int .i64 d, .int .i64 n] 29) (.cells #[.int .i64 t, .int .i64 f, .int .i64 q, .int .i64 to', .int .i64 vv, .int .i64 u, .bool an] 33) (.cells #[.slice none 0 0, .int .i64 0, .slice none 0 0, .int .u64 0] 26))
  generalize ((w.alloc (.cells #[.int .i64 r0, .int .i64 r1, .int .i64 r2, .int .i64 r3, .int .i64 r4, .int .i64 r5, .int .i64 r6, .int .i64 r7, .int .i64 d, .int .i64 n] 29)).alloc (.cells #[.int .i64 t, .int .i64 f, .int .i64 q, .int .i64 to', .int .i64 vv, .int .i64 u, .bool an] 33)).alloc (.cells #[.slice none 0 0, .int .i64 0, .slice none 0 0, .int .u64 0] 26) = W5 at *
  have hW5 := Lib.hid (show Wds W5 ⟨none, 0, 0, none, 0, 0⟩ ⟨[], 0, [], 0⟩ from ⟨⟨rfl, Nat.le_refl _, by show 0 ≤ maxLen; unfold maxLen; omega, by simp, .inl rfl⟩, lks_nil _, by show 0 < _; omega, self0⟩)
  obtain ⟨s50, s51, s52, s53, s54, s55, s56, s57, s58, s59⟩ := row10 F5.out.a
  obtain ⟨m50, m51, m52, m53, m54, m55, m56⟩ := row7 F5.out.s
  obtain ⟨w50, w51, w52, w53⟩ := row4 F5.out.m
  have hc1 := vmRun_lit hW5.out (hE'.out.below F5.out.b) (hT'.out.below F5.out.b) (s := ⟨[r0, r1, r2, r3, r4, r5, r6, r7], d, n⟩) (ev := ⟨⟨t, f, q⟩, to', vv, u, an⟩) rfl hs'.out hv'.out hr'.out
  simp only [Wv.val, M.val, Sta.val, Sta.cells, List.map_cons, List.map_nil, List.cons_append, List.nil_append] at hc1
  go_wp2_with fail
  refine hc1.mono ?_
  rintro e w6 ⟨a6, cap6, rfl, hq⟩
  have F6 := F5.out.below (hq.out.2.mono F5.out.sz)
  have F2 := fun o => F6.below ((Below.refl _ w6).alloc F6.sz o)
  have hW6 := Lib.hid (fun o => (hW5.out.below hq.out.2).below ((Below.refl _ w6).alloc (Nat.le_refl _) o))
  clear s50 s51 s52 s53 s54 s55 s56 s57 s58 s59 m50 m51 m52 m53 m54 m55 m56 w50 w51 w52 w53
  have qs := fun o => row10 (F2 o).a
  have qm := fun o => row7 (F2 o).s
  have qw := fun o => row4 (F2 o).m
  simp only [forall_and] at qs qm qw
  obtain ⟨s60, s61, s62, s63, s64, s65, s66, s67, s68, s69⟩ := qs
  obtain ⟨m60, m61, m62, m63, m64, m65, m66⟩ := qm
  obtain ⟨w60, w61, w62, w63⟩ := qw
  have F2' := Lib.hid F2
  clear hc1 hq F2 F6
  have hvk := fun o => vmCheck_any (hW6.out o) (hE'.out.below (F2'.out o).b)
  simp only [Wv.val] at hvk
  simp only [hck'.out] at hvk
  go_wp2_with fail
  refine (hvk _).mono ?_
  rintro e w7 ⟨rfl, hr7⟩
  have F7 := Lib.hid ((F2'.out _).below (hr7.below.mono (F2'.out _).sz))
  clear s60 s61 s62 s63 s64 s65 s66 s67 s68 s69 m60 m61 m62 m63 m64 m65 m66 w60 w61 w62 w63
  obtain ⟨s70, s71, s72, s73, s74, s75, s76, s77, s78, s79⟩ := row10 F7.out.a
  obtain ⟨m70, m71, m72, m73, m74, m75, m76⟩ := row7 F7.out.s
  obtain ⟨w70, w71, w72, w73⟩ := row4 F7.out.m
  clear hvk hr7
  go_wp2_with fail
  refine (hem _).mono ?_
  rintro e w8 ⟨rfl, hr8⟩
  have F8 := Lib.hid (F7.out.below (hr8.below.mono F7.out.sz))
  clear s70 s71 s72 s73 s74 s75 s76 s77 s78 s79 m70 m71 m72 m73 m74 m75 m76 w70 w71 w72 w73
  obtain ⟨s80, s81, s82, s83, s84, s85, s86, s87, s88, s89⟩ := row10 F8.out.a
  obtain ⟨m80, m81, m82, m83, m84, m85, m86⟩ := row7 F8.out.s
  obtain ⟨w80, w81, w82, w83⟩ := row4 F8.out.m
  clear hem hr8
  go_wp2_with fail
  refine (hc3 _ F8.out.b).mono ?_
  rintro e w9 ⟨rfl, hb9⟩
  have hB9 := Lib.hid (F8.out.b.trans (hb9.mono F8.out.b.size))
  clear hb9
  go_wp2
  go_ret
  exact ⟨rfl, hB9.out⟩

set_option maxHeartbeats 8000000 in
theorem stays_false_X {w : World} {r0 r1 r2 r3 r4 r5 r6 r7 d n t f q to' vv u : Int} {an : Bool} {eb : Addr} {a : Option Addr} {len cap : Nat} {is : List I} (hE : ErrIs w eb) (hT : ErrT w) (hsR : ∀ z ∈ [r0, r1, r2, r3, r4, r5, r6, r7], In64 z) (hev : In64 vv) (h : Inss w a len cap is) (hlr : len * 32 ≤ 140737488351232) (hn : NilP a len cap)
    (hr : runW ⟨[], 0, [], 0⟩ ⟨[r0, r1, r2, r3, r4, r5, r6, r7], d, n⟩ ⟨⟨t, f, q⟩, to', vv, u, an⟩ = (⟨[0, 0, 0, 0, 0, 0, 0, 0], 0, 0⟩, [], 1)) (hck : checkW ⟨[], 0, [], 0⟩ = 0) (hcm : chkM ⟨⟨t, f, q⟩, to', vv, u, an⟩ = 0) (hdn : ¬ min d n < 0) (hdx : 1125899906842624 < max d n) :
    Calls Tryd.prog 8 #[Sta.val ⟨[r0, r1, r2, r3, r4, r5, r6, r7], d, n⟩, M.val ⟨⟨t, f, q⟩, to', vv, u, an⟩, .bool false, .slice a len cap] w fun e w' => e = .returned (.bool true) ∧ Below w.heap.size w w' := by
  have hE' := Lib.hid hE
  have hT' := Lib.hid hT
  have hI := Lib.hid h
  have hn' := Lib.hid hn
  have hr' := Lib.hid hr
  have hs' := Lib.hid hsR
  have hv' := Lib.hid hev
  have hc3 := fun (w1 : World) (hb : Below w.heap.size w w1) => awake5_any (hE.below hb) (hT.below hb)
  clear hE hT h hn hr hsR hev
  have hck' := Lib.hid hck
  clear hck
  have hes := eqlS_refl 0 0 0 0 0 0 0 0 0 0
  have hem := fun w' => eCheck_any ⟨⟨t, f, q⟩, to', vv, u, an⟩ w'
  rw [hcm] at hem
  clear hcm
  simp only [M.val] at hem
  simp only [M.val, Sta.val, Sta.cells, List.map_cons, List.map_nil, List.cons_append, List.nil_append]
  go_enter Tryd.func8, Tryd.ntmps8
  go_upto_region 4 with (fail)
  have F5 := Lib.hid (Tri.mk3 w (.cells #[.int .i64 r0, .int .i64 r1, .int .i64 r2, .int .i64 r3, .int .i64 r4, .int .i64 r5, .int .i64 r6, .int .i64 r7, .int .i64 d, .int .i64 n] 29) (.cells #[.int .i64 t, .int .i64 f, .int .i64 q, .int .i64 to', .int .i64 vv, .int .i64 u, .bool an] 33) (.cells #[.slice none 0 0, .int .i64 0, .slice none 0 0, .int .u64 0] 26))
  generalize ((w.alloc (.cells #[.int .i64 r0, .int .i64 r1, .int .i64 r2, .int .i64 r3, .int .i64 r4, .int .i64 r5, .int .i64 r6, .int .i64 r7, .int .i64 d, .int .i64 n] 29)).alloc (.cells #[.int .i64 t, .int .i64 f, .int .i64 q, .int .i64 to', .int .i64 vv, .int .i64 u, .bool an] 33)).alloc (.cells #[.slice none 0 0, .int .i64 0, .slice none 0 0, .int .u64 0] 26) = W5 at *
  have hW5 := Lib.hid (show Wds W5 ⟨none, 0, 0, none, 0, 0⟩ ⟨[], 0, [], 0⟩ from ⟨⟨rfl, Nat.le_refl _, by show 0 ≤ maxLen; unfold maxLen; omega, by simp, .inl rfl⟩, lks_nil _, by show 0 < _; omega, self0⟩)
  obtain ⟨s50, s51, s52, s53, s54, s55, s56, s57, s58, s59⟩ := row10 F5.out.a
  obtain ⟨m50, m51, m52, m53, m54, m55, m56⟩ := row7 F5.out.s
  obtain ⟨w50, w51, w52, w53⟩ := row4 F5.out.m
  have hc1 := vmRun_lit hW5.out (hE'.out.below F5.out.b) (hT'.out.below F5.out.b) (s := ⟨[r0, r1, r2, r3, r4, r5, r6, r7], d, n⟩) (ev := ⟨⟨t, f, q⟩, to', vv, u, an⟩) rfl hs'.out hv'.out hr'.out
  simp only [Wv.val, M.val, Sta.val, Sta.cells, List.map_cons, List.map_nil, List.cons_append, List.nil_append] at hc1
  go_wp2_with fail
  refine hc1.mono ?_
  rintro e w6 ⟨a6, cap6, rfl, hq⟩
  have F6 := F5.out.below (hq.out.2.mono F5.out.sz)
  have F2 := fun o => F6.below ((Below.refl _ w6).alloc F6.sz o)
  have hW6 := Lib.hid (fun o => (hW5.out.below hq.out.2).below ((Below.refl _ w6).alloc (Nat.le_refl _) o))
  clear s50 s51 s52 s53 s54 s55 s56 s57 s58 s59 m50 m51 m52 m53 m54 m55 m56 w50 w51 w52 w53
  have qs := fun o => row10 (F2 o).a
  have qm := fun o => row7 (F2 o).s
  have qw := fun o => row4 (F2 o).m
  simp only [forall_and] at qs qm qw
  obtain ⟨s60, s61, s62, s63, s64, s65, s66, s67, s68, s69⟩ := qs
  obtain ⟨m60, m61, m62, m63, m64, m65, m66⟩ := qm
  obtain ⟨w60, w61, w62, w63⟩ := qw
  have F2' := Lib.hid F2
  clear hc1 hq F2 F6
  have hvk := fun o => vmCheck_any (hW6.out o) (hE'.out.below (F2'.out o).b)
  simp only [Wv.val] at hvk
  simp only [hck'.out] at hvk
  go_wp2_with fail
  refine (hvk _).mono ?_
  rintro e w7 ⟨rfl, hr7⟩
  have F7 := Lib.hid ((F2'.out _).below (hr7.below.mono (F2'.out _).sz))
  clear s60 s61 s62 s63 s64 s65 s66 s67 s68 s69 m60 m61 m62 m63 m64 m65 m66 w60 w61 w62 w63
  obtain ⟨s70, s71, s72, s73, s74, s75, s76, s77, s78, s79⟩ := row10 F7.out.a
  obtain ⟨m70, m71, m72, m73, m74, m75, m76⟩ := row7 F7.out.s
  obtain ⟨w70, w71, w72, w73⟩ := row4 F7.out.m
  clear hvk hr7
  go_wp2_with fail
  refine (hem _).mono ?_
  rintro e w8 ⟨rfl, hr8⟩
  have F8 := Lib.hid (F7.out.below (hr8.below.mono F7.out.sz))
  clear s70 s71 s72 s73 s74 s75 s76 s77 s78 s79 m70 m71 m72 m73 m74 m75 m76 w70 w71 w72 w73
  obtain ⟨s80, s81, s82, s83, s84, s85, s86, s87, s88, s89⟩ := row10 F8.out.a
  obtain ⟨m80, m81, m82, m83, m84, m85, m86⟩ := row7 F8.out.s
  obtain ⟨w80, w81, w82, w83⟩ := row4 F8.out.m
  clear hem hr8
  go_wp2_with fail
  refine (hc3 _ F8.out.b).mono ?_
  rintro e w9 ⟨rfl, hb9⟩
  have hB9 := Lib.hid (F8.out.b.trans (hb9.mono F8.out.b.size))
  clear hb9
  go_wp2
  go_ret
  exact ⟨rfl, hB9.out⟩

set_option maxHeartbeats 8000000 in
theorem stays_false_D {w : World} {r0 r1 r2 r3 r4 r5 r6 r7 d n t f q to' vv u : Int} {an : Bool} {eb : Addr} {a : Option Addr} {len cap : Nat} {is : List I} (hE : ErrIs w eb) (hT : ErrT w) (hsR : ∀ z ∈ [r0, r1, r2, r3, r4, r5, r6, r7], In64 z) (hev : In64 vv) (h : Inss w a len cap is) (hlr : len * 32 ≤ 140737488351232) (hn : NilP a len cap)
    (hr : runW ⟨[], 0, [], 0⟩ ⟨[r0, r1, r2, r3, r4, r5, r6, r7], d, n⟩ ⟨⟨t, f, q⟩, to', vv, u, an⟩ = (⟨[r0, r1, r2, r3, r4, r5, r6, r7], d, n⟩, [], 0)) :
    Calls Tryd.prog 8 #[Sta.val ⟨[r0, r1, r2, r3, r4, r5, r6, r7], d, n⟩, M.val ⟨⟨t, f, q⟩, to', vv, u, an⟩, .bool false, .slice a len cap] w fun e w' => e = .returned (.bool true) ∧ Below w.heap.size w w' := by
  have hE' := Lib.hid hE
  have hT' := Lib.hid hT
  have hI := Lib.hid h
  have hn' := Lib.hid hn
  have hr' := Lib.hid hr
  have hs' := Lib.hid hsR
  have hv' := Lib.hid hev
  have hc3 := fun (w1 : World) (hb : Below w.heap.size w w1) => awake5_any (hE.below hb) (hT.below hb)
  clear hE hT h hn hr hsR hev
  have hes := eqlS_refl r0 r1 r2 r3 r4 r5 r6 r7 d n
  simp only [M.val, Sta.val, Sta.cells, List.map_cons, List.map_nil, List.cons_append, List.nil_append]
  go_enter Tryd.func8, Tryd.ntmps8
  go_upto_region 4 with (fail)
  have F5 := Lib.hid (Tri.mk3 w (.cells #[.int .i64 r0, .int .i64 r1, .int .i64 r2, .int .i64 r3, .int .i64 r4, .int .i64 r5, .int .i64 r6, .int .i64 r7, .int .i64 d, .int .i64 n] 29) (.cells #[.int .i64 t, .int .i64 f, .int .i64 q, .int .i64 to', .int .i64 vv, .int .i64 u, .bool an] 33) (.cells #[.slice none 0 0, .int .i64 0, .slice none 0 0, .int .u64 0] 26))
  generalize ((w.alloc (.cells #[.int .i64 r0, .int .i64 r1, .int .i64 r2, .int .i64 r3, .int .i64 r4, .int .i64 r5, .int .i64 r6, .int .i64 r7, .int .i64 d, .int .i64 n] 29)).alloc (.cells #[.int .i64 t, .int .i64 f, .int .i64 q, .int .i64 to', .int .i64 vv, .int .i64 u, .bool an] 33)).alloc (.cells #[.slice none 0 0, .int .i64 0, .slice none 0 0, .int .u64 0] 26) = W5 at *
  have hW5 := Lib.hid (show Wds W5 ⟨none, 0, 0, none, 0, 0⟩ ⟨[], 0, [], 0⟩ from ⟨⟨rfl, Nat.le_refl _, by show 0 ≤ maxLen; unfold maxLen; omega, by simp, .inl rfl⟩, lks_nil _, by show 0 < _; omega, self0⟩)
  obtain ⟨s50, s51, s52, s53, s54, s55, s56, s57, s58, s59⟩ := row10 F5.out.a
  obtain ⟨m50, m51, m52, m53, m54, m55, m56⟩ := row7 F5.out.s
  obtain ⟨w50, w51, w52, w53⟩ := row4 F5.out.m
  have hc1 := vmRun_lit hW5.out (hE'.out.below F5.out.b) (hT'.out.below F5.out.b) (s := ⟨[r0, r1, r2, r3, r4, r5, r6, r7], d, n⟩) (ev := ⟨⟨t, f, q⟩, to', vv, u, an⟩) rfl hs'.out hv'.out hr'.out
  simp only [Wv.val, M.val, Sta.val, Sta.cells, List.map_cons, List.map_nil, List.cons_append, List.nil_append] at hc1
  go_wp2_with fail
  refine hc1.mono ?_
  rintro e w6 ⟨a6, cap6, rfl, hq⟩
  have F6 := F5.out.below (hq.out.2.mono F5.out.sz)
  have F2 := fun o => F6.below ((Below.refl _ w6).alloc F6.sz o)
  have hW6 := Lib.hid (fun o => (hW5.out.below hq.out.2).below ((Below.refl _ w6).alloc (Nat.le_refl _) o))
  clear s50 s51 s52 s53 s54 s55 s56 s57 s58 s59 m50 m51 m52 m53 m54 m55 m56 w50 w51 w52 w53
  have qs := fun o => row10 (F2 o).a
  have qm := fun o => row7 (F2 o).s
  have qw := fun o => row4 (F2 o).m
  simp only [forall_and] at qs qm qw
  obtain ⟨s60, s61, s62, s63, s64, s65, s66, s67, s68, s69⟩ := qs
  obtain ⟨m60, m61, m62, m63, m64, m65, m66⟩ := qm
  obtain ⟨w60, w61, w62, w63⟩ := qw
  have F2' := Lib.hid F2
  clear hc1 hq F2 F6
  go_wp2_with fail
  refine (hc3 _ (F2'.out _).b).mono ?_
  rintro e w9 ⟨rfl, hb9⟩
  have hB9 := Lib.hid ((F2'.out _).b.trans (hb9.mono (F2'.out _).b.size))
  clear hb9
  go_wp2
  go_ret
  exact ⟨rfl, hB9.out⟩

theorem lawVmStays {w : World} {s : Sta} {ev : M} {eb : Addr} {a : Option Addr} {len cap : Nat} {is : List I} (hE : ErrIs w eb) (hT : ErrT w) (hs : s.r.length = 8) (hsR : ∀ z ∈ s.r, In64 z) (hsd : In64 s.d) (hss : In64 s.s) (hev : In64 ev.v) (b : Bool) (h : Inss w a len cap is) (hlr : len * 32 ≤ 140737488351232) (hn : NilP a len cap) :
    Calls Tryd.prog 8 #[s.val, ev.val, .bool b, .slice a len cap] w fun e w' => e = .returned (.bool true) ∧ Below w.heap.size w w' := by
  obtain ⟨⟨t, f, q⟩, to', vv, u, an⟩ := ev
  obtain ⟨r, d, n⟩ := s
  obtain ⟨r0, r1, r2, r3, r4, r5, r6, r7, rfl⟩ := eight hs
  have key : ∀ P : List I, (P = [] ∨ ∃ r, P = ⟨0, 0, 0, 0⟩ :: r) →
      (checkW ⟨P, 0, [], 0⟩ ≠ 0 ∧ runW ⟨P, 0, [], 0⟩ ⟨[r0, r1, r2, r3, r4, r5, r6, r7], d, n⟩ ⟨⟨t, f, q⟩, to', vv, u, an⟩ = (⟨[0, 0, 0, 0, 0, 0, 0, 0], 0, 0⟩, [], checkW ⟨P, 0, [], 0⟩)) ∨
      (checkW ⟨P, 0, [], 0⟩ = 0 ∧ chkM ⟨⟨t, f, q⟩, to', vv, u, an⟩ = 1 ∧ runW ⟨P, 0, [], 0⟩ ⟨[r0, r1, r2, r3, r4, r5, r6, r7], d, n⟩ ⟨⟨t, f, q⟩, to', vv, u, an⟩ = (⟨[0, 0, 0, 0, 0, 0, 0, 0], 0, 0⟩, [], 1)) ∨
      (checkW ⟨P, 0, [], 0⟩ = 0 ∧ chkM ⟨⟨t, f, q⟩, to', vv, u, an⟩ = 0 ∧ min d n < 0 ∧ runW ⟨P, 0, [], 0⟩ ⟨[r0, r1, r2, r3, r4, r5, r6, r7], d, n⟩ ⟨⟨t, f, q⟩, to', vv, u, an⟩ = (⟨[0, 0, 0, 0, 0, 0, 0, 0], 0, 0⟩, [], 1)) ∨
      (checkW ⟨P, 0, [], 0⟩ = 0 ∧ chkM ⟨⟨t, f, q⟩, to', vv, u, an⟩ = 0 ∧ ¬ min d n < 0 ∧ 1125899906842624 < max d n ∧ runW ⟨P, 0, [], 0⟩ ⟨[r0, r1, r2, r3, r4, r5, r6, r7], d, n⟩ ⟨⟨t, f, q⟩, to', vv, u, an⟩ = (⟨[0, 0, 0, 0, 0, 0, 0, 0], 0, 0⟩, [], 1)) ∨
      runW ⟨P, 0, [], 0⟩ ⟨[r0, r1, r2, r3, r4, r5, r6, r7], d, n⟩ ⟨⟨t, f, q⟩, to', vv, u, an⟩ = (⟨[r0, r1, r2, r3, r4, r5, r6, r7], d, n⟩, [], 0) := by
    intro P hP
    by_cases hc : checkW ⟨P, 0, [], 0⟩ = 0
    · by_cases hm : chkM ⟨⟨t, f, q⟩, to', vv, u, an⟩ = 0
      · by_cases hy : Sta.mayB ⟨[r0, r1, r2, r3, r4, r5, r6, r7], d, n⟩ = true
        · exact .inr (.inr (.inr (.inr (staysR hP rfl hc hm hy))))
        · have hrr := runW_msg (s := ⟨[r0, r1, r2, r3, r4, r5, r6, r7], d, n⟩) (ev := ⟨⟨t, f, q⟩, to', vv, u, an⟩) hc (fun hh => hy hh.2)
          have hy' : ¬ (0 ≤ d ∧ d ≤ 1125899906842624 ∧ 0 ≤ n ∧ n ≤ 1125899906842624) := by simpa [Sta.mayB] using hy
          by_cases hd : min d n < 0
          · exact .inr (.inr (.inl ⟨hc, hm, hd, hrr⟩))
          · exact .inr (.inr (.inr (.inl ⟨hc, hm, hd, by omega, hrr⟩)))
      · have hm1 : chkM ⟨⟨t, f, q⟩, to', vv, u, an⟩ = 1 := by unfold chkM at *; split at hm <;> simp_all
        exact .inr (.inl ⟨hc, hm1, runW_msg hc (fun hh => hm hh.1)⟩)
    · exact .inl ⟨hc, runW_chk hc⟩
  cases b
  · rcases key [] (.inl rfl) with ⟨h1, h2⟩ | ⟨h1, h2, h3⟩ | ⟨h1, h2, h3, h4⟩ | ⟨h1, h2, h3, h4, h5⟩ | h1
    · exact stays_false_A hE hT hsR hev h hlr hn h2 (by simpa using h1) rfl
    · exact stays_false_B hE hT hsR hev h hlr hn h3 h1 h2
    · exact stays_false_C hE hT hsR hev h hlr hn h4 h1 h2 h3
    · exact stays_false_X hE hT hsR hev h hlr hn h5 h1 h2 h3 h4
    · exact stays_false_D hE hT hsR hev h hlr hn h1
  · rcases key ([⟨0, 0, 0, 0⟩] ++ is) (.inr ⟨is, rfl⟩) with ⟨h1, h2⟩ | ⟨h1, h2, h3⟩ | ⟨h1, h2, h3, h4⟩ | ⟨h1, h2, h3, h4, h5⟩ | h1
    · exact stays_true_A hE hT hsR hev h hlr hn h2 (by simpa using h1) rfl
    · exact stays_true_B hE hT hsR hev h hlr hn h3 h1 h2
    · exact stays_true_C hE hT hsR hev h hlr hn h4 h1 h2 h3
    · exact stays_true_X hE hT hsR hev h hlr hn h5 h1 h2 h3 h4
    · exact stays_true_D hE hT hsR hev h hlr hn h1

end Go.Proofs.YtghbdpjegmdhbaaDoor
