
/-
  A message added to the bottom.
-/
import Derived.Test.YtcfpfbemmklbaaaLDE
namespace Go.Proofs.Ytcfpfbemmklbaaa
open Go.ChangeShapes Go.WideShapes Go.ChangeAt Go.Shelf Go.RowKit Go.Lib Go.Sort Go.Deep
set_option linter.unusedVariables false

set_option maxHeartbeats 4000000 in
set_option maxRecDepth 100000 in
theorem badd_any {w : World} {b o : Nat} {v : Value} {cs : Array Value} {t : TypeId} {l : List M} (hb : w.heap[b]? = some (.cells cs t (0, 0))) (hc : w.cell? ⟨b, o, none⟩ = some v) (h : AtM w v l) (hv : ¬ vext v 7 b o) (hO : InOrder ltM l) (m : M) (hl : l.length < 1000000) :
    Calls Try.prog 44 #[.pointer (some ⟨b, o, none⟩), m.val] w fun e w' => e = .returned (.tuple #[]) ∧ ∃ p, PlaceB l m p ∧ RungRes w b o v (l.take p ++ m :: l.drop p) w' := by
  have mixed := mixed
  have hvl := RowAt.lt h
  have hbl : b < w.heap.size := (Array.getElem?_eq_some_iff.1 hb).1
  obtain ⟨A, hA⟩ : ∃ A, A = w.heap.size := ⟨_, rfl⟩
  obtain ⟨W1, hW1⟩ : ∃ W1, W1 = w.alloc (.cells #[.pointer (some ⟨b, o, none⟩)] 95) := ⟨_, rfl⟩
  have s1 : W1.heap.size = A + 1 := by rw [hW1, hA]; simp
  obtain ⟨W2, hW2⟩ : ∃ W2, W2 = W1.alloc (.cells m.cells 34) := ⟨_, rfl⟩
  have hb1 : Below w.heap.size w W1 := by rw [hW1]; exact (Below.refl _ w).alloc (Nat.le_refl _) _
  have hb2 : Below w.heap.size w W2 := by rw [hW2]; exact hb1.alloc hb1.size _
  have hbx : BoxM W2 (A + 1) m := by rw [hW2, ← s1]; exact BoxM.mk W1 m
  have hax : W2.heap[A]? = some (.cells #[.pointer (some ⟨b, o, none⟩)] 95 (0, 0)) := by
    rw [hW2, Below.heap_alloc W1 _ A (by omega), hW1, hA]
    exact heap_alloc_new w _
  -- what the loads read, in every world that is as W2 but for the list
  have hS : ∀ w', KeptC (vext v 7) W2 w' → w'.cell? ⟨A, 0, none⟩ = some (.pointer (some ⟨b, o, none⟩)) ∧ w'.cell? ⟨b, o, none⟩ = some v ∧ w'.frozen? ⟨b, o, none⟩ = false ∧ MsgAt w' (A + 1) 0 m := by
    intro w' hk
    have hA' : w'.heap[A]? = some (.cells #[.pointer (some ⟨b, o, none⟩)] 95 (0, 0)) := (hk.block A (Array.getElem?_eq_some_iff.1 hax).1 (fun q e => by have := hvl _ e.own; omega)).trans hax
    have hB' : BoxM w' (A + 1) m := hbx.keptC hk (fun q e => by have := hvl _ e.own; omega)
    obtain ⟨q1, q2⟩ := cell_keptC (below_row hb hb2) ((hb2.cell (p := ⟨b, o, none⟩) hbl).trans hc) hk hv
    exact ⟨by simp [World.cell?, hA'], q1, q2, hB'.at⟩
  have hread : ∀ w', Read W2 w' → KeptC (vext v 7) W2 w' := fun w' hr => .of_below hr.below
  have hsr : Calls Try.prog 41 #[.int .i64 l.length, .func (.func 52) #[] #[.pointer (some ⟨A + 1, 0, none⟩), .pointer (some ⟨A, 0, none⟩)]] W2 fun e w' => ∃ p : Nat, e = .returned (.int .i64 p) ∧ Hid (Below W2.heap.size W2 w' ∧ PlaceB l m p) := by
    refine (find_lbadd1 l.length hl (fun i => ltM m (l.getD i default)) _ _ (fun k hk W hW => ?_) (fun i j => up_mono hO m i j)).mono ?_
    · obtain ⟨g, off, cap, hve, hR⟩ := AtM.form h (by omega)
      subst hve
      obtain ⟨p1, p2, -, p3⟩ := hS W (hread W hW)
      exact badd1_any m p1 p2 p3 (RowM.kept0 hR (hb2.trans (hW.below.mono hb2.size))) k hk
    · rintro e w' ⟨p, he, hr, h1, h2, h3⟩
      exact ⟨p, he, hr.below, h1, h2, h3⟩
  obtain ⟨a, cap, hve, hlc⟩ := RowAt.shape h
  have hsz : ∀ w', Below W2.heap.size W2 w' → Calls Try.prog 45 #[.pointer (some ⟨b, o, none⟩)] w' fun e w'' => e = .returned (.int .i64 l.length) ∧ w' = w'' := by
    intro w' hbw
    have := (hS w' (.of_below hbw)).2.1
    rw [hve] at this
    exact rsize_any this
  have hsz2 := hsz W2 (Below.refl _ _)
  have hin : Hid (∀ p W5 B5, PlaceB l m p → Below W2.heap.size W2 W5 → W2.heap.size ≤ B5 → BoxM W5 B5 m → Calls Try.prog 53 #[v, .int .i64 p, .slice (some ⟨B5, 0, none⟩) 1 1] W5 fun e w5 => ∃ g off cap : Nat, e = .returned (.slice (some ⟨g, off, none⟩) (l.length + 1) cap) ∧
      Hid (KeptC (vext v 7) W2 w5 ∧ RungRes w b o v (l.take p ++ m :: l.drop p) (w5.setCell ⟨b, o, none⟩ (.slice (some ⟨g, off, none⟩) (l.length + 1) cap)))) := by
    intro p W5 B5 hp hb5 hs5 hx5
    have hb05 : Below w.heap.size w W5 := hb2.trans (hb5.mono hb2.size)
    have hw24 := hb2.size
    refine (insM_any (v := v) (RowAt.below h hb05) p hp.1 hx5 (fun e => by have := hvl _ e; omega) hl).mono ?_
    rintro e w5 ⟨g, off, cap, he, hR, hk, hx⟩
    refine ⟨g, off, cap, he, (KeptC.of_below hb5).trans hk, ?_⟩
    have hA5 : AtM w5 (.slice (some ⟨g, off, none⟩) (l.length + 1) cap) (l.take p ++ m :: l.drop p) := by
      have hR' : RowIn w5 34 7 g off (l.take p ++ m :: l.drop p).length cap (flat (l.take p ++ m :: l.drop p)) := hR
      unfold AtM
      rw [ins_len l p hp.1] at hR' ⊢
      exact hR'.at_
    exact RungRes.from_below hb05 (rung_set (below_row hb hb05) (cell_in_row hb hc) hv hA5 hk (fun k q e => hx k q (vext_some.1 e)) (own_of_ext hA5 (by rw [ins_len l p hp.1]; omega) (fun k q e => hx k q (vext_some.1 e))))
  have hW1' := Lib.hid hW1
  have hW2' := Lib.hid hW2
  have hA' := Lib.hid hA
  have hfin : Hid (∀ p w', RungRes w b o v (l.take p ++ m :: l.drop p) w' → PlaceB l m p → ∃ p, PlaceB l m p ∧ RungRes w b o v (l.take p ++ m :: l.drop p) w') := fun p w' h1 h2 => ⟨p, h2, h1⟩
  subst hve
  have hS2 : Hid (∀ w', KeptC (vext (.slice a l.length cap) 7) W2 w' → w'.cell? ⟨A, 0, none⟩ = some (.pointer (some ⟨b, o, none⟩)) ∧ w'.cell? ⟨b, o, none⟩ = some (.slice a l.length cap) ∧ w'.frozen? ⟨b, o, none⟩ = false ∧ (w'.cell? ⟨A + 1, 0, none⟩ = some (.int .i64 m.k.t) ∧ w'.cell? ⟨A + 1, 1, none⟩ = some (.int .i64 m.k.f) ∧ w'.cell? ⟨A + 1, 2, none⟩ = some (.int .i64 m.k.s) ∧ w'.cell? ⟨A + 1, 3, none⟩ = some (.int .i64 m.to) ∧ w'.cell? ⟨A + 1, 4, none⟩ = some (.int .i64 m.v) ∧ w'.cell? ⟨A + 1, 5, none⟩ = some (.int .i64 m.u) ∧ w'.cell? ⟨A + 1, 6, none⟩ = some (.bool m.anti))) := by
    intro w' hk
    obtain ⟨p1, p2, p3, -, y0, y1, y2, y3, y4, y5, y6⟩ := hS w' hk
    simp only [Nat.zero_add] at y0 y1 y2 y3 y4 y5 y6
    exact ⟨p1, p2, p3, y0, y1, y2, y3, y4, y5, y6⟩
  have hc2 := hS2.out W2 (KeptC.refl _ _)
  have hcA := hc2.1
  clear hS hread hsz hb2 hb1 hbx hax hb hc h hv hvl hO hlc hW1 hW2 hA hbl hc2
  have hsr' := Lib.hid hsr
  clear hsr
  obtain ⟨⟨mt, f, s⟩, tt, vv, u, an⟩ := m
  simp only [M.val, M.cells] at hW2' hS2 hin ⊢
  go_enter Try.func44, Try.ntmps44
  go_upto_region 1 with (fail)
  rw [show w.alloc (.cells #[.pointer (some ⟨b, o, none⟩)] 95) = W1 from hW1'.out.symm, ← hA'.out, ← hW2'.out]
  go_upto_region 2 with (first
    | (go_at_call 45; refine hsz2.mono ?_; rintro e w2 ⟨rfl, rfl⟩)
    | (go_at_call 41; refine hsr'.out.mono ?_; rintro e w3 ⟨p, rfl, h3⟩))
  obtain ⟨hb3, hpl⟩ := h3.out
  have hS2' := hS2
  obtain ⟨c3, l3, f3, y0, y1, y2, y3, y4, y5, y6⟩ := hS2.out w3 (.of_below hb3)
  have c4 := fun ob => Lib.cell?_alloc_some ob c3
  have l4 := fun ob => Lib.cell?_alloc_some ob l3
  have z0 := fun ob => Lib.cell?_alloc_some ob y0
  have z1 := fun ob => Lib.cell?_alloc_some ob y1
  have z2 := fun ob => Lib.cell?_alloc_some ob y2
  have z3 := fun ob => Lib.cell?_alloc_some ob y3
  have z4 := fun ob => Lib.cell?_alloc_some ob y4
  have z5 := fun ob => Lib.cell?_alloc_some ob y5
  have z6 := fun ob => Lib.cell?_alloc_some ob y6
  have hin3 := hin.out p (w3.alloc (.cells #[.int .i64 mt, .int .i64 f, .int .i64 s, .int .i64 tt, .int .i64 vv, .int .i64 u, .bool an] 34)).drew w3.heap.size hpl (hb3.alloc hb3.size _).drew hb3.size (BoxM.mk w3 ⟨⟨mt, f, s⟩, tt, vv, u, an⟩)
  clear hS2 hin hb3 hcA
  go_region_with (first
      | (go_at_call 53; (refine hin3.mono ?_); rintro e w5 ⟨g5, off5, cap5, rfl, h5⟩; obtain ⟨hk5, hR5⟩ := h5.out; obtain ⟨c5, l5, f5, -⟩ := hS2'.out w5 hk5; have hR5' := Lib.hid hR5; clear hR5 hk5 h5))
  all_goals
    go_wp2
    go_end0
    exact ⟨rfl, hfin.out p _ hR5'.out hpl⟩
end Go.Proofs.Ytcfpfbemmklbaaa
