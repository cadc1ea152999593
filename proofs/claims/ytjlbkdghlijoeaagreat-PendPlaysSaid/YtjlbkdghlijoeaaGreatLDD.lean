/-
  A rung in memory: its size, what is added, what is cut out.
-/
import Derived.Test.YtjlbkdghlijoeaaGreatLDC
import Derived.Test.YtjlbkdghlijoeaaGreatLDG
import Derived.IntWalk
namespace Go.Proofs.YtjlbkdghlijoeaaGreat
open Go.ChangeShapes Go.WideShapes Go.ChangeAt Go.Shelf Go.RowKit Go.Lib Go.Sort Go.Deep
set_option linter.unusedVariables false

/-- What a step of the rung whose list lies in the cell (b, o) leaves: another list, and all else as it was. -/
def RungRes (w : World) (b o : Nat) (v : Value) (l' : List M) (w' : World) : Prop :=
  ∃ v', w'.cell? ⟨b, o, none⟩ = some v' ∧ AtM w' v' l' ∧ KeptC (fun k q => vext v 7 k q ∨ (k = b ∧ q = o)) w w' ∧ (∀ k q, vext v' 7 k q → vext v 7 k q ∨ w.heap.size ≤ k) ∧ ∀ k, v'.ownBlock = some k → v.ownBlock = some k ∨ w.heap.size ≤ k
theorem rung_set {w w4 : World} {b o : Nat} {v v' : Value} {cs : Array Value} {t : TypeId} {l' : List M} (hb : w.heap[b]? = some (.cells cs t (0, 0))) (ho : o < cs.size) (hv : ¬ vext v 7 b o) (r1 : AtM w4 v' l') (k : KeptC (vext v 7) w w4)
    (r3 : ∀ k q, vext v' 7 k q → vext v 7 k q ∨ w.heap.size ≤ k) (r5 : ∀ k, v'.ownBlock = some k → v.ownBlock = some k ∨ w.heap.size ≤ k) : RungRes w b o v l' (w4.setCell ⟨b, o, none⟩ v') := by
  obtain ⟨cs', g0, g1, g2⟩ := k.part b cs t hb
  have hbl : b < w.heap.size := (Array.getElem?_eq_some_iff.1 hb).1
  have ks := KeptC.set g0 o v'
  refine ⟨v', ?_, RowAt.keptC r1 ks (fun kk q e e2 => ?_), (k.mono (fun _ _ _ e => .inl e)).then_new ks (fun kk q _ e => .inr e), r3, r5⟩
  · rw [cell_of_row _ _ _ _ _ (0, 0) (heap_setCell_same w4 b o cs' t v' g0), Array.getElem?_setIfInBounds, if_pos rfl, if_pos (by omega)]
  · obtain ⟨rfl, rfl⟩ := e2
    rcases r3 _ _ e with e | e
    · exact hv e
    · omega
/-- Of a slice that has elements the block is that of its cells. -/
theorem own_of_ext {w w4 : World} {v v' : Value} {l : List M} (h : AtM w4 v' l) (h0 : 0 < l.length) (r3 : ∀ k q, vext v' 7 k q → vext v 7 k q ∨ w.heap.size ≤ k) : ∀ k, v'.ownBlock = some k → v.ownBlock = some k ∨ w.heap.size ≤ k := by
  intro k hk
  obtain ⟨g, off, cap, rfl, hR⟩ := AtM.form h h0
  simp [Value.ownBlock] at hk
  subst hk
  have := RowIn.bounds hR
  exact (r3 g off (vext_some.2 ⟨rfl, Nat.le_refl _, by omega⟩)).imp (fun e => e.own) id
theorem cell_in_row {w : World} {b o : Nat} {cs : Array Value} {t : TypeId} {v : Value} (hb : w.heap[b]? = some (.cells cs t (0, 0))) (hc : w.cell? ⟨b, o, none⟩ = some v) : o < cs.size := by
  rw [cell_of_row _ _ _ _ _ (0, 0) hb] at hc
  exact (Array.getElem?_eq_some_iff.1 hc).1
theorem cell_keptC {E : Nat → Nat → Prop} {w w' : World} {b o : Nat} {cs : Array Value} {t : TypeId} {v : Value} (hb : w.heap[b]? = some (.cells cs t (0, 0))) (hc : w.cell? ⟨b, o, none⟩ = some v) (hk : KeptC E w w') (hn : ¬ E b o) : w'.cell? ⟨b, o, none⟩ = some v ∧ w'.frozen? ⟨b, o, none⟩ = false := by
  obtain ⟨cs', g0, g1, g2⟩ := hk.part b cs t hb
  refine ⟨?_, by simp [World.frozen?, g0]⟩
  rw [cell_of_row _ _ _ _ _ (0, 0) g0, g2 o hn, ← cell_of_row _ _ _ _ _ (0, 0) hb]
  exact hc

theorem rsize_any {w : World} {b o : Nat} {a : Option Addr} {n c : Nat} (hc : w.cell? ⟨b, o, none⟩ = some (.slice a n c)) : Calls Tryz.prog 132 #[.pointer (some ⟨b, o, none⟩)] w fun e w' => e = .returned (.int .i64 n) ∧ w = w' := by
  go_enter Tryz.func132, Tryz.ntmps132
  go_wp2
  go_ret
  exact ⟨rfl, rfl⟩

theorem below_row {w w' : World} {b : Nat} {cs : Array Value} {t : TypeId} (hb : w.heap[b]? = some (.cells cs t (0, 0))) (h : Below w.heap.size w w') : w'.heap[b]? = some (.cells cs t (0, 0)) := (h.block b (Array.getElem?_eq_some_iff.1 hb).1).trans hb
theorem RungRes.from_below {w w1 w' : World} {b o : Nat} {v : Value} {l' : List M} (hb : Below w.heap.size w w1) (h : RungRes w1 b o v l' w') : RungRes w b o v l' w' := by
  obtain ⟨v', h1, h2, h3, h4, h5⟩ := h
  exact ⟨v', h1, h2, (KeptC.of_below hb).then_new h3 (fun _ _ _ e => e), fun k q e => (h4 k q e).imp id (fun e => Nat.le_trans hb.size e), fun k e => (h5 k e).imp id (fun e => Nat.le_trans hb.size e)⟩

set_option maxHeartbeats 4000000 in
set_option maxRecDepth 100000 in
theorem radd_any {w : World} {b o : Nat} {v : Value} {cs : Array Value} {t : TypeId} {l : List M} (hb : w.heap[b]? = some (.cells cs t (0, 0))) (hc : w.cell? ⟨b, o, none⟩ = some v) (h : AtM w v l) (hv : ¬ vext v 7 b o) (m : M) (hl : l.length < 1000000) :
    Calls Tryz.prog 135 #[.pointer (some ⟨b, o, none⟩), m.val] w fun e w' => e = .returned (.tuple #[]) ∧ RungRes w b o v (l ++ [m]) w' := by
  obtain ⟨i0, hi, hz0, hz1, hz2⟩ := info_parts infoM
  have mixed := mixed
  obtain ⟨W1, hW1⟩ : ∃ W1, W1 = w.alloc (.cells m.cells 34) := ⟨_, rfl⟩
  have hb1 : Below w.heap.size w W1 := by rw [hW1]; exact (Below.refl _ w).alloc (Nat.le_refl _) _
  have hbx : BoxM W1 w.heap.size m := by rw [hW1]; exact BoxM.mk w m
  have hbr := below_row hb hb1
  have hbl : b < w.heap.size := (Array.getElem?_eq_some_iff.1 hb).1
  have c0 : W1.cell? ⟨b, o, none⟩ = some v := (hb1.cell (p := ⟨b, o, none⟩) hbl).trans hc
  have hfz : W1.frozen? ⟨b, o, none⟩ = false := by simp [World.frozen?, hbr]
  obtain ⟨W2, hW2⟩ : ∃ W2, W2 = (W1.alloc (.cells m.cells 34)).drew := ⟨_, rfl⟩
  have hb2 : Below W1.heap.size W1 W2 := by rw [hW2]; exact ((Below.refl _ W1).alloc (Nat.le_refl _) _).drew
  have hb02 : Below w.heap.size w W2 := hb1.trans (hb2.mono hb1.size)
  have hbr2 := below_row hbr hb2
  have hA2 : AtM W2 v l := RowAt.below h hb02
  have hu : RowAt W2 34 7 (.slice (some ⟨W1.heap.size, 0, none⟩) 1 1) 1 (flat [m]) := by
    have : BoxM W2 W1.heap.size m := by
      have := BoxM.mk W1 m
      rw [hW2]
      exact this
    exact this.rowIn.at_
  have c2 : W2.cell? ⟨b, o, none⟩ = some v := (hb2.cell (p := ⟨b, o, none⟩) (Nat.lt_of_lt_of_le hbl hb1.size)).trans c0
  obtain ⟨a, cap, rfl, hcap⟩ := RowAt.shape h
  have hfin : Hid (∀ v' w4, Hid (RowAt w4 34 7 v' (l.length + 1) (flat l ++ flat [m])) → Hid (KeptC (vext (.slice a l.length cap) 7) W2 w4) → Hid (∀ k q, vext v' 7 k q → vext (.slice a l.length cap) 7 k q ∨ W2.heap.size ≤ k) →
      w4.cell? ⟨b, o, none⟩ = some (.slice a l.length cap) ∧ w4.frozen? ⟨b, o, none⟩ = false ∧ Hid (RungRes w b o (.slice a l.length cap) (l ++ [m]) (w4.setCell ⟨b, o, none⟩ v'))) := by
    intro v' w4 r1 r2 r3
    obtain ⟨q1, q2⟩ := cell_keptC hbr2 c2 r2.out hv
    have hA4 : AtM w4 v' (l ++ [m]) := by
      unfold AtM
      rw [List.length_append, flat_append]
      exact r1.out
    exact ⟨q1, q2, RungRes.from_below hb02 (rung_set hbr2 (cell_in_row hbr2 c2) hv hA4 r2.out r3.out (own_of_ext hA4 (by simp) r3.out))⟩
  have h63 : l.length + 1 ≤ maxLen := by unfold maxLen; omega
  have hby : (l.length + 1) * 56 ≤ 140737488355328 := by omega
  obtain ⟨-, y0, y1, y2, y3, y4, y5, y6⟩ := hbx.at
  simp only [Nat.zero_add] at y0 y1 y2 y3 y4 y5 y6
  have hone := flat_one [m]
  have c1 := fun ob => Lib.cell?_alloc_some ob c0
  have hA2' := Lib.hid hA2
  have hu' := Lib.hid hu
  have hW1' := Lib.hid hW1
  clear hA2 hu hbx hbr hb hc h hb1 hb2 hb02 hbr2 c2 hl hW1
  subst hW2
  generalize RungRes w b o (.slice a l.length cap) (l ++ [m]) = R at *
  obtain ⟨⟨t, f, s⟩, tt, vv, u, an⟩ := m
  simp only [M.val, M.cells] at hW1' hA2' hu' hfin y0 y1 y2 y3 y4 y5 y6 ⊢
  go_enter Tryz.func135, Tryz.ntmps135
  go_upto_region 1 with (fail)
  rw [← hW1'.out]
  go_region_law (first
    | (refine step_append_rowC (by rfl) _ _ _ (by rfl) hA2'.out i0 _ 56 Tryz.underlying38 hi hz0 hz1 hz2 rfl (by omega) (by rfl) (by rfl) hu'.out hone h63 hby ?_; intro v' w4 r1 r2 r3; obtain ⟨a4, c4, rfl, -⟩ := RowAt.shape r1.out; obtain ⟨q1, q2, hR⟩ := hfin.out _ w4 r1 r2 r3))
  all_goals
    go_wp2
    go_end0
    exact ⟨rfl, hR.out⟩

theorem RungRes.box {w w' : World} {b o B : Nat} {v : Value} {l' : List M} {m : M} (h : RungRes w b o v l' w') (hB : BoxM w B m) (hb : B ≠ b) (hv : v.ownBlock ≠ some B) : BoxM w' B m := by
  obtain ⟨v', h1, h2, h3, h4, h5⟩ := h
  exact hB.keptC h3 (fun q e => e.elim (fun e => hv e.own) (fun e => hb e.1))
theorem RungRes.put {w w' : World} {b o : Nat} {v : Value} {l' : List M} (h : RungRes w b o v l' w') (hb : b < w.heap.size) (hv : ∀ k, v.ownBlock = some k → k < w.heap.size) {B : Nat} {m0 : M} (hB : w.heap.size ≤ B) (hB0 : BoxM w' B m0) (hB2 : ∀ v', w'.cell? ⟨b, o, none⟩ = some v' → v'.ownBlock ≠ some B) (m : M) : RungRes w b o v l' (w'.setRow B m.cells) := by
  obtain ⟨v', h1, h2, h3, h4, h5⟩ := h
  have k2 : KeptC (fun k o => k = B) w' (w'.setRow B m.cells) := by
    have := (KeptC.row hB0 0 m.cells.toList (by rw [Array.length_toList]; exact Nat.le_of_eq (by simp [M.cells]))).mono (E' := fun k o => k = B) (fun k o _ e => e.1)
    simpa [M.cells] using this
  refine ⟨v', ?_, RowAt.keptC h2 k2 (fun k q e e2 => hB2 v' h1 (by rw [← e2]; exact e.own)), h3.then_new k2 (fun k q hk e => by omega), h4, h5⟩
  rw [cell_setRow_other _ _ _ _ (by show b ≠ B; omega)]
  exact h1

set_option maxHeartbeats 4000000 in
set_option maxRecDepth 100000 in
theorem rcut_any {w : World} {b o : Nat} {g off cap : Nat} {cs : Array Value} {t : TypeId} {l : List M} (hb : w.heap[b]? = some (.cells cs t (0, 0))) (hc : w.cell? ⟨b, o, none⟩ = some (.slice (some ⟨g, off, none⟩) l.length cap)) (h : RowM w g off cap l) (hv : ¬ ext g off (cap * 7) b o) (p : Nat) (hp : p < l.length) (hl : l.length < 1000000) :
    Calls Tryz.prog 140 #[.pointer (some ⟨b, o, none⟩), .int .i64 p] w fun e w' => e = .returned (l.getD p default).val ∧ RungRes w b o (.slice (some ⟨g, off, none⟩) l.length cap) (l.eraseIdx p) w' := by
  have mixed := mixed
  obtain ⟨m, hm⟩ : ∃ m, m = l.getD p default := ⟨_, rfl⟩
  obtain ⟨W1, hW1⟩ : ∃ W1, W1 = w.alloc (.cells zeroM.cells 34) := ⟨_, rfl⟩
  obtain ⟨W2, hW2⟩ : ∃ W2, W2 = W1.alloc (.cells m.cells 34) := ⟨_, rfl⟩
  have hb1 : Below w.heap.size w W1 := by rw [hW1]; exact (Below.refl _ w).alloc (Nat.le_refl _) _
  have hb2 : Below w.heap.size w W2 := by rw [hW2]; exact hb1.alloc hb1.size _
  have s1 : W1.heap.size = w.heap.size + 1 := by rw [hW1]; simp
  have hz2 : BoxM W2 w.heap.size zeroM := by rw [hW2, hW1]; exact (BoxM.mk w zeroM).below ((Below.refl _ _).alloc (Nat.le_refl _) _)
  have hm2 : BoxM W2 W1.heap.size m := by rw [hW2]; exact BoxM.mk W1 m
  have hbl : b < w.heap.size := (Array.getElem?_eq_some_iff.1 hb).1
  have hgl : g < w.heap.size := RowIn.lt h
  have hbr2 := below_row hb hb2
  have c2 : W2.cell? ⟨b, o, none⟩ = some (.slice (some ⟨g, off, none⟩) l.length cap) := (hb2.cell (p := ⟨b, o, none⟩) hbl).trans hc
  have f2 : W2.frozen? ⟨b, o, none⟩ = false := by simp [World.frozen?, hbr2]
  have h2 : RowM W2 g off cap l := h.kept0 hb2
  have hv' : ¬ vext (.slice (some ⟨g, off, none⟩) l.length cap) 7 b o := fun e => hv (vext_some.1 e)
  have c1 : W1.cell? ⟨b, o, none⟩ = some (.slice (some ⟨g, off, none⟩) l.length cap) := (hb1.cell (p := ⟨b, o, none⟩) hbl).trans hc
  obtain ⟨-, x0, x1, x2, x3, x4, x5, x6⟩ := (h.kept0 hb1).at p hp
  rw [← hm] at x0 x1 x2 x3 x4 x5 x6
  have hst : Hid (∀ v' w4, AtM w4 v' (l.eraseIdx p) → KeptC (vext (.slice (some ⟨g, off, none⟩) l.length cap) 7) W2 w4 → (∀ k q, vext v' 7 k q → vext (.slice (some ⟨g, off, none⟩) l.length cap) 7 k q ∨ W2.heap.size ≤ k) → (∀ k, v'.ownBlock = some k → k = g) →
      w4.cell? ⟨b, o, none⟩ = some (.slice (some ⟨g, off, none⟩) l.length cap) ∧ w4.frozen? ⟨b, o, none⟩ = false ∧ Hid (BoxM (w4.setCell ⟨b, o, none⟩ v') W1.heap.size m ∧ BoxM (w4.setCell ⟨b, o, none⟩ v') w.heap.size zeroM ∧ RungRes w b o (.slice (some ⟨g, off, none⟩) l.length cap) (l.eraseIdx p) ((w4.setCell ⟨b, o, none⟩ v').setRow w.heap.size m.cells))) := by
    intro v' w4 r1 r2 r3 r4
    obtain ⟨q1, q2⟩ := cell_keptC hbr2 c2 r2 hv'
    have hr := rung_set hbr2 (cell_in_row hbr2 c2) hv' r1 r2 r3 (fun k e => .inl (by rw [r4 k e]; rfl))
    have hB1 := hr.box hm2 (by omega) (by simp [Value.ownBlock]; omega)
    have hB0 := hr.box hz2 (by omega) (by simp [Value.ownBlock]; omega)
    have hcell : (w4.setCell ⟨b, o, none⟩ v').cell? ⟨b, o, none⟩ = some v' := by
      obtain ⟨cs', g0, g1, g2⟩ := r2.part b cs t hbr2
      have ho := cell_in_row hbr2 c2
      rw [cell_of_row _ _ _ _ _ (0, 0) (heap_setCell_same w4 b o cs' t v' g0), Array.getElem?_setIfInBounds, if_pos rfl, if_pos (by omega)]
    refine ⟨q1, q2, hB1, hB0, (RungRes.from_below hb2 hr).put hbl (by simp [Value.ownBlock]; omega) (Nat.le_refl _) hB0 (fun v'' hv'' e => ?_) m⟩
    rw [hcell] at hv''
    cases hv''
    have := r4 _ e
    omega
  have hidx : (p : Int) < (l.length : Int) := by omega
  have hb' := RowIn.bounds h
  have hw1 : IntKind.i64.wrap ((p : Int) + 1) = (p : Int) + 1 := IntWalk.i64_in _ (by omega)
  have hc1 : 1 ≤ l.length := by omega
  have hc2 : 1 ≤ cap := by omega
  have hc3 : (1 : Int) ≤ (l.length : Int) := by omega
  have hc4 : (1 : Int) ≤ (cap : Int) := by omega
  have hdel := Lib.hid (delM_any h2 p hp hl)
  have hpart : Hid (p = 0 → AtM W2 (.slice (if cap = 1 then some ⟨g, off, none⟩ else some ⟨g, off + 7, none⟩) (l.length - 1) (cap - 1)) (l.eraseIdx p) ∧ (∀ k q, vext (.slice (if cap = 1 then some ⟨g, off, none⟩ else some ⟨g, off + 7, none⟩) (l.length - 1) (cap - 1)) 7 k q → vext (.slice (some ⟨g, off, none⟩) l.length cap) 7 k q ∨ W2.heap.size ≤ k)) := by
    rintro rfl
    have hl1 : (l.eraseIdx 0).length = l.length - 1 := List.length_eraseIdx_of_lt hp
    have hR := RowIn.part h2 1 (l.length - 1) (by omega)
    have e1 : ((flat l).drop (1 * 7)).take ((l.length - 1) * 7) = flat (l.eraseIdx 0) := by
      rw [List.eraseIdx_zero, ← List.drop_one, flat_drop, List.take_of_length_le]
      rw [List.length_drop, flat_length]
      omega
    rw [e1] at hR
    unfold AtM
    rw [hl1]
    by_cases hcap : cap = 1
    · have hl0 : l.length = 1 := by omega
      rw [if_pos hcap]
      subst hcap
      rw [hl0] at hR ⊢
      refine ⟨.inr ⟨g, off, 0, rfl, ?_⟩, fun k q e => ?_⟩
      · obtain ⟨cur, a0, a1, a2, a3, a4, a5⟩ := hR
        exact ⟨cur, a0, a1, a2, by omega, a4, fun j u hj => by have := (List.getElem?_eq_some_iff.1 hj).1; omega⟩
      · obtain ⟨_, e2, e3⟩ := vext_some.1 e
        omega
    · rw [if_neg hcap]
      refine ⟨.inr ⟨g, off + 7, cap - 1, rfl, by simpa using hR⟩, fun k q e => .inl (vext_some.2 ?_)⟩
      obtain ⟨e1, e2, e3⟩ := vext_some.1 e
      have : (cap - 1) * 7 + 7 = cap * 7 := by omega
      exact ⟨e1, by omega, by omega⟩
  have hdel2 : Hid (∀ w4, RowM w4 g off cap (l.eraseIdx p) → AtM w4 (.slice (some ⟨g, off, none⟩) (l.length - 1) cap) (l.eraseIdx p)) := by
    intro w4 h4
    unfold RowM at h4
    unfold AtM
    rw [List.length_eraseIdx_of_lt hp] at h4 ⊢
    exact RowIn.at_ h4
  have hW1' := Lib.hid hW1
  have hW2' := Lib.hid hW2
  rw [← hm]
  clear hW1 hW2 hb1 hb2 s1 hz2 hm2 hbl hgl hbr2 h2 hv hv' hc h hb hm
  obtain ⟨⟨mt, f, s⟩, tt, vv, u, an⟩ := m
  simp only [M.val, M.cells] at hst hW2' x0 x1 x2 x3 x4 x5 x6 ⊢
  have hW1z : Hid (w.alloc (.cells #[.int .i64 0, .int .i64 0, .int .i64 0, .int .i64 0, .int .i64 0, .int .i64 0, .bool false] 34) = W1) := hW1'.out.symm
  go_enter Tryz.func140, Tryz.ntmps140
  go_upto_region 1 with (fail)
  rw [hW1z.out]
  go_upto_region 2 with (fail)
  rw [← hW2'.out]
  clear x0 x1 x2 x3 x4 x5 x6 c1
  have hend : ∀ W3, Hid (BoxM W3 W1.heap.size (⟨⟨mt, f, s⟩, tt, vv, u, an⟩ : M) ∧ BoxM W3 w.heap.size zeroM ∧ RungRes w b o (.slice (some ⟨g, off, none⟩) l.length cap) (l.eraseIdx p) (W3.setRow w.heap.size #[.int .i64 mt, .int .i64 f, .int .i64 s, .int .i64 tt, .int .i64 vv, .int .i64 u, .bool an])) →
      MsgAt W3 W1.heap.size 0 ⟨⟨mt, f, s⟩, tt, vv, u, an⟩ ∧ Hid (BoxM W3 w.heap.size zeroM) ∧ Hid (RungRes w b o (.slice (some ⟨g, off, none⟩) l.length cap) (l.eraseIdx p) (W3.setRow w.heap.size #[.int .i64 mt, .int .i64 f, .int .i64 s, .int .i64 tt, .int .i64 vv, .int .i64 u, .bool an])) := fun W3 h => ⟨h.out.1.at, h.out.2.1, h.out.2.2⟩
  by_cases hp0 : p = 0
  · subst hp0
    obtain ⟨hA, hext⟩ := hpart.out rfl
    obtain ⟨-, -, hR⟩ := hst.out _ W2 hA (KeptC.refl _ _) hext (by intro k e; split at e <;> simp [Value.ownBlock] at e <;> exact e.symm)
    clear hA hext hdel hdel2 hpart hst
    go_upto_region 5 with (fail)
    generalize W2.setCell ⟨b, o, none⟩ (.slice (if cap = 1 then some ⟨g, off, none⟩ else some ⟨g, off + 7, none⟩) (l.length - 1) (cap - 1)) = W3 at *
    generalize (if cap = 1 then (some ⟨g, off, none⟩ : Option Addr) else some ⟨g, off + 7, none⟩) = ad at *
    obtain ⟨⟨-, y0, y1, y2, y3, y4, y5, y6⟩, hz3, hR3⟩ := hend W3 hR
    simp only [Nat.zero_add] at y0 y1 y2 y3 y4 y5 y6
    clear hend hR c2 f2
    go_wp2_with (refine wpList_store_row rfl 34 (.tmp 4) (.tmp 34) rfl w.heap.size #[.int .i64 mt, .int .i64 f, .int .i64 s, .int .i64 tt, .int .i64 vv, .int .i64 u, .bool an] rfl rfl 34 zeroM.cells hz3.out infoS rfl (M.cells_one ⟨⟨mt, f, s⟩, tt, vv, u, an⟩) ?_)
    obtain ⟨-, s0, s1, s2, s3, s4, s5, s6⟩ := (hz3.out.row ⟨⟨mt, f, s⟩, tt, vv, u, an⟩).at
    simp only [Nat.zero_add, M.cells] at s0 s1 s2 s3 s4 s5 s6
    exact bodyPost_ret (v := .agg #[.int .i64 mt, .int .i64 f, .int .i64 s, .int .i64 tt, .int .i64 vv, .int .i64 u, .bool an]) (by simp [results, Tryz.results140, go_sem, s0, s1, s2, s3, s4, s5, s6]) rfl ⟨rfl, hR3.out⟩
  · have hpi : ¬ (p : Int) = 0 := by omega
    clear hpart
    go_upto_region 5 with (go_at_call 145; refine hdel.out.mono ?_; rintro e w4 ⟨rfl, hR4, hk4⟩; have hA4 := hdel2.out w4 hR4; obtain ⟨q1, q2, hR⟩ := hst.out _ w4 hA4 (hk4.mono (fun k o _ e => vext_some.2 e)) (fun k q e => .inl (vext_some.2 (vext_some.1 e))) (by intro k e; simp [Value.ownBlock] at e; exact e.symm); clear hA4 hR4 hk4)
    generalize w4.setCell ⟨b, o, none⟩ (.slice (some ⟨g, off, none⟩) (l.length - 1) cap) = W3 at *
    obtain ⟨⟨-, y0, y1, y2, y3, y4, y5, y6⟩, hz3, hR3⟩ := hend W3 hR
    simp only [Nat.zero_add] at y0 y1 y2 y3 y4 y5 y6
    clear hend hR c2 f2 q1 q2
    go_wp2_with (refine wpList_store_row rfl 34 (.tmp 4) (.tmp 34) rfl w.heap.size #[.int .i64 mt, .int .i64 f, .int .i64 s, .int .i64 tt, .int .i64 vv, .int .i64 u, .bool an] rfl rfl 34 zeroM.cells hz3.out infoS rfl (M.cells_one ⟨⟨mt, f, s⟩, tt, vv, u, an⟩) ?_)
    obtain ⟨-, s0, s1, s2, s3, s4, s5, s6⟩ := (hz3.out.row ⟨⟨mt, f, s⟩, tt, vv, u, an⟩).at
    simp only [Nat.zero_add, M.cells] at s0 s1 s2 s3 s4 s5 s6
    exact bodyPost_ret (v := .agg #[.int .i64 mt, .int .i64 f, .int .i64 s, .int .i64 tt, .int .i64 vv, .int .i64 u, .bool an]) (by simp [results, Tryz.results140, go_sem, s0, s1, s2, s3, s4, s5, s6]) rfl ⟨rfl, hR3.out⟩
end Go.Proofs.YtjlbkdghlijoeaaGreat
