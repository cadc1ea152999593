/-
  Sorted, as a row of its own.
  Rungs: the lowest one above let down: the steps in memory.
-/
import Derived.Test.YtjlbkdghlijoeaaGreatSortedC
import Derived.Test.YtjlbkdghlijoeaaGreatLDMH
namespace Go.Proofs.YtjlbkdghlijoeaaGreat
open Go.ChangeShapes Go.WideShapes Go.ChangeAt Go.Shelf Go.RowKit Go.Lib Go.Sort Go.Deep
set_option linter.unusedVariables false

/-- A row that is turned in its place. -/
theorem RowIn.sorted {w W : World} {g cap n : Nat} {ms T : List M} (h : RowIn w 34 7 g 0 n cap (flat ms)) (hT : T.length = ms.length) (hW : SWK encM 7 w g 0 T.toArray W) (hH : HoldsK encM 7 W g 0 T.toArray) : RowIn W 34 7 g 0 n cap (flat T) := by
  obtain ⟨cur, h1, h2, h3, h4, h5, h6⟩ := h
  have hg := (Array.getElem?_eq_some_iff.1 h1).1
  obtain ⟨k, os, rfl⟩ := hW
  have hblk : (sortWorldK encM 7 w g 0 k T.toArray os).heap[g]? = some (.cells (putCells id 0 (flatK encM 7 T.toArray) cur) 34 (0, 0)) := by
    show ((putRow id (Sort.ahead w k) g 0 (flatK encM 7 T.toArray)).heap ++ os)[g]? = _
    rw [Array.getElem?_append_left (by rw [Go.Sort.size_putRow]; exact hg)]
    show ((w.heap).modify g (onCells (putCells id 0 (flatK encM 7 T.toArray))))[g]? = _
    rw [Array.getElem?_modify, if_pos rfl, h1]
    rfl
  refine ⟨_, hblk, h2, h3, by simpa [putCells] using h4, by rw [flat_length, hT, ← flat_length]; exact h5, fun j u hj => ?_⟩
  have hlt : j < T.length * 7 := by
    have := (List.getElem?_eq_some_iff.1 hj).1
    rwa [flat_length] at this
  have := (hH j (by rw [size_flatK, List.size_toArray]; exact hlt)).1
  rw [get_flatK _ _ _ _ (by rw [List.size_toArray]; exact hlt)] at this
  have hd : T.toArray[j / 7]! = T.getD (j / 7) default := by
    have hlt : j / 7 < T.length := by omega
    rw [getElem!_pos _ _ (by rw [List.size_toArray]; exact hlt)]
    simp [List.getD_eq_getElem?_getD, hlt]
  have hf := flat_get T (j / 7) (j % 7) (by omega) (by omega)
  rw [show j / 7 * 7 + j % 7 = j by omega, hj] at hf
  have hv : (encM T.toArray[j / 7]!)[j % 7]! = u := by
    rw [hd, getElem!_pos _ _ (by rw [encM_length]; omega)]
    have := hf.symm
    rw [List.getElem?_eq_getElem (by rw [encM_length]; omega)] at this
    exact Option.some.inj this
  have hc : (sortWorldK encM 7 w g 0 k T.toArray os).cell? ⟨g, 0 + j, none⟩ = (putCells id 0 (flatK encM 7 T.toArray) cur)[0 + j]? := by simp [World.cell?, hblk]
  rw [← hc, this, id, hv]

theorem sortedBy_row {w : World} {v : Value} {ms : List M} (h : AtM w v ms) (h0 : 0 < ms.length) (hr : ms.length < 1000000) :
    Calls Tryz.prog 138 #[v, .func (.func 139) #[] #[]] w fun e w' => ∃ g cap', e = .returned (.slice (some ⟨g, 0, none⟩) ms.length cap') ∧ Hid (w.heap.size ≤ g) ∧ Hid (RowM w' g 0 cap' (stab ltM ms)) ∧ Hid (Below w.heap.size w w') := by
  obtain ⟨g0, off, cap, rfl, hR⟩ := AtM.form h h0
  have hc : Calls Tryz.prog 79 #[.slice (some ⟨g0, off, none⟩) ms.length cap] w fun e w' => ∃ g cap', e = .returned (.slice (some ⟨g, 0, none⟩) ms.length cap') ∧ Hid (w.heap.size ≤ g) ∧ Hid (RowIn w' 34 7 g 0 ms.length cap' (flat ms)) ∧ Hid (Below w.heap.size w w') := by
    refine (clone_some ⟨g0, off, none⟩ ms.length cap (flat ms) w (flat_length ms) (by unfold maxLen; omega) (by omega) (fun j u hj => RowIn.cellA hR 0 (by rw [Nat.zero_add]; exact hj)) (flat_one ms)).mono ?_
    rintro e w' ⟨v', rfl, hown, hb⟩
    rcases hown.2 with ⟨rfl, e⟩ | ⟨g, cap', cur, rfl, hg, hblk, hn, hm, hs, ht⟩
    · omega
    · exact ⟨g, cap', rfl, hg, RowIn.of_own hown, hb⟩
  have hs : ∀ g cap' w1, Hid (w.heap.size ≤ g) → Hid (RowIn w1 34 7 g 0 ms.length cap' (flat ms)) → Hid (Below w.heap.size w w1) → Calls Tryz.prog 144 #[.slice (some ⟨g, 0, none⟩) ms.length cap', .func (.func 139) #[] #[]] w1 fun e w' => e = .returned (.tuple #[]) ∧ Hid (RowM w' g 0 cap' (stab ltM ms)) ∧ Hid (Below w.heap.size w w') := by
    intro g cap' w1 hg hR1 hb
    have hR1' := hR1.out
    obtain ⟨cur, h1, h2, h3, h4, h5, h6⟩ := hR1'
    have hg1 := (Array.getElem?_eq_some_iff.1 h1).1
    have hH : HoldsK encM 7 w1 g 0 ms.toArray := by
      refine holds_of_block h1 rfl ?_
      apply List.ext_getElem?
      intro j
      rw [List.getElem?_take]
      split
      · rename_i hj
        have hj2 : j < (flat ms).length := by rw [flat_length]; exact hj
        have := h6 j _ (List.getElem?_eq_getElem hj2)
        rw [Nat.zero_add] at this
        rw [List.getElem?_eq_getElem hj2, ← this, Array.getElem?_toList]
      · rename_i hj
        rw [List.getElem?_eq_none (by rw [flat_length]; omega)]
    refine (sort_any w1 g 0 cap' ms hH hg1 (by omega)).mono ?_
    rintro e w' ⟨he, W⟩
    have hH' : HoldsK encM 7 w' g 0 (stab ltM ms).toArray := SWK.holds W hg1 hH (by simp [stab_length])
    refine ⟨he, ?_, SWK.belowM W hb.out hg.out hb.out.size⟩
    have := RowIn.sorted hR1.out (stab_length ms) W hH'
    unfold RowM
    rw [stab_length]
    exact this
  clear h hR hr h0
  generalize ms.length = n at *
  go_enter Tryz.func138, Tryz.ntmps138
  go_wp2_with (first | (go_at_call 79; refine hc.mono ?_; rintro e w1 ⟨g, cap', rfl, hg, hR1, hb⟩) | (go_at_call 144; refine (hs _ _ _ hg hR1 hb).mono ?_; rintro e w2 ⟨rfl, hR2, hb2⟩))
  go_ret
  exact ⟨g, cap', rfl, hg, hR2, hb2⟩
theorem sorted_row {w : World} {v : Value} {ms : List M} (h : AtM w v ms) (h0 : 0 < ms.length) (hr : ms.length < 1000000) :
    Calls Tryz.prog 131 #[v] w fun e w' => ∃ g cap', e = .returned (.slice (some ⟨g, 0, none⟩) ms.length cap') ∧ Hid (w.heap.size ≤ g) ∧ Hid (RowM w' g 0 cap' (stab ltM ms)) ∧ Hid (Below w.heap.size w w') := by
  have hc := sortedBy_row h h0 hr
  clear h hr h0
  generalize ms.length = n at *
  go_enter Tryz.func131, Tryz.ntmps131
  go_wp2_with (go_at_call 138; refine hc.mono ?_; rintro e w1 ⟨g, cap', rfl, hg, hR, hb⟩)
  go_ret
  exact ⟨g, cap', rfl, hg, hR, hb⟩
end Go.Proofs.YtjlbkdghlijoeaaGreat
namespace Go.Proofs.YtjlbkdghlijoeaaGreat
open Go.ChangeShapes Go.WideShapes Go.ChangeAt Go.Shelf Go.RowKit Go.Lib Go.Sort Go.Deep
set_option linter.unusedVariables false

theorem vext_part {g off cap i n m c : Nat} (hc : c + i ≤ cap) {k o : Nat} (h : vext (.slice (some ⟨g, off + i * 7, none⟩) n c) 7 k o) : vext (.slice (some ⟨g, off, none⟩) m cap) 7 k o := by
  obtain ⟨rfl, h1, h2⟩ := vext_some.1 h
  exact vext_some.2 ⟨rfl, by omega, by omega⟩
/-- Between two rounds of the letting down: what lies above, and a list that is apart from all of it. -/
structure RefIn (w wr : World) (rb : Nat) (most : Int) (bv av : Value) (us0 : List Up) (Bw : List M) (lv : Value) (l : List M) (X : List Up) (av' : Value) : Prop where
  res : RungsRes w rb most bv av us0 wr [] X bv av'
  at_ : AtM wr lv l
  new : ∀ k, lv.ownBlock = some k → w.heap.size ≤ k
  old : ∀ k, bv.ownBlock = some k → k < w.heap.size
  apart : ∀ u ∈ X, Dis lv u.v
  stairs : Stairs l X
  same : (held l X).Perm Bw

theorem RefIn.start {w w1 : World} {rb : Nat} {most : Int} {bv : Value} {X : List Up} {u : Up} {ag aoff acap g cap : Nat} (h : RungsOf w rb most bv [] (.slice (some ⟨ag, aoff, none⟩) (X.length + 1) acap) (X ++ [u])) (hS : Steps (X ++ [u])) (hb : Below w.heap.size w w1) (hg : w.heap.size ≤ g) (hR : RowM w1 g 0 cap (stab ltM u.L)) :
    RefIn w (w1.setCell ⟨rb, 2, none⟩ (.slice (some ⟨ag, aoff, none⟩) X.length acap)) rb most bv (.slice (some ⟨ag, aoff, none⟩) (X.length + 1) acap) (X ++ [u]) (held [] (X ++ [u])) (.slice (some ⟨g, 0, none⟩) u.L.length cap) (stab ltM u.L) X (.slice (some ⟨ag, aoff, none⟩) X.length acap) := by
  have h1 := h.below hb
  have hu : u ∈ X ++ [u] := List.mem_append_right _ (List.mem_cons_self ..)
  have hRU : RowIn w1 178 8 ag aoff (X.length + 1) acap (flatU (X ++ [u])) := by
    obtain ⟨g', off', cap', e, hRU⟩ := AtU.form h1.abv (by simp)
    obtain ⟨⟨rfl, rfl⟩, rfl⟩ : (ag = g' ∧ aoff = off') ∧ acap = cap' := by simpa using e
    have := hRU
    unfold RowU at this
    rw [List.length_append, List.length_singleton] at this
    exact this
  have hv : AtU w1 (.slice (some ⟨ag, aoff, none⟩) X.length acap) X := by
    have := RowIn.part hRU 0 X.length (by omega)
    rw [Nat.zero_mul, List.drop_zero, Nat.add_zero, Nat.sub_zero, ← flatU_take, List.take_left] at this
    exact this.at_
  have hap := h.apart
  have hres := h1.setAv (KeptC.refl _ _) hv (fun k e => .inl e) (fun x hx => h1.each x (List.mem_append_left _ hx)) (by
    have := hap
    rw [List.map_append, ← List.cons_append] at this
    exact (List.pairwise_append.1 this).1) (fun x hx k e => .inr ⟨x, List.mem_append_left _ hx, e⟩)
  obtain ⟨g1, g2, g3⟩ := hS.mid
  rw [List.append_nil] at g3
  have hk : KeptC (fun k o => k = rb ∧ o = 2) w1 (w1.setCell ⟨rb, 2, none⟩ (.slice (some ⟨ag, aoff, none⟩) X.length acap)) := KeptC.set h1.row 2 _
  refine ⟨RungsRes.from_below hb hres, ?_, fun k e => ?_, fun k e => RowAt.lt h.bot k e, fun x hx k o e e2 => ?_, ⟨stab_inOrder ordM _, fun x hx m hm => (g1 x hx).1 m ((stab_perm u.L).mem_iff.1 hm), g3, fun e => ?_⟩, ?_⟩
  · have := h.rlt
    have h2 := RowIn.keptC hR hk (fun o e e2 => by have := e2.1; omega)
    have h3 := h2.at_
    unfold AtM
    rw [stab_length] at h3 ⊢
    exact h3
  · simp [Value.ownBlock] at e
    omega
  · have := RowAt.lt (h.each x (List.mem_append_left _ hx)) k e2.own
    have := (vext_some.1 e).1
    omega
  · have := congrArg List.length e
    rw [stab_length] at this
    exact absurd (List.length_eq_zero_iff.1 this) (hS.full u hu)
  · unfold held
    rw [List.flatMap_append, List.nil_append]
    have e1 : [u].flatMap Up.L = u.L := by simp
    rw [e1]
    exact ((stab_perm u.L).append_right _).trans List.perm_append_comm

theorem RefIn.push {w wr W1 : World} {rb : Nat} {most : Int} {bv av av' : Value} {us0 X : List Up} {Bw l : List M} {g off cap : Nat} (h : RefIn w wr rb most bv av us0 Bw (.slice (some ⟨g, off, none⟩) l.length cap) l X av') (hU : Unlike Bw) {half : Nat} (hh : half = (l.length + 1) / 2) (h2 : 2 ≤ l.length) (hb : Below wr.heap.size wr W1) :
    ∀ v' w4, Hid (RowAt w4 178 8 v' (X.length + 1) (flatU X ++ flatU [⟨.slice (some ⟨g, off + half * 7, none⟩) (l.length - half) (cap - half), l.drop half, l.getD half default⟩])) → Hid (KeptC (vext av' 8) W1 w4) → Hid (∀ k q, vext v' 8 k q → vext av' 8 k q ∨ W1.heap.size ≤ k) →
      w4.cell? ⟨rb, 2, none⟩ = some av' ∧ w4.frozen? ⟨rb, 2, none⟩ = false ∧ Hid (RefIn w (w4.setCell ⟨rb, 2, none⟩ v') rb most bv av us0 Bw (.slice (some ⟨g, off, none⟩) half half) (l.take half) (X ++ [⟨.slice (some ⟨g, off + half * 7, none⟩) (l.length - half) (cap - half), l.drop half, l.getD half default⟩]) v') := by
  intro v' w4 r1 r2 r3
  have hR : RowM W1 g off cap l := by
    obtain ⟨g', off', cap', e, hR⟩ := AtM.form (RowAt.below h.at_ hb) (by omega)
    obtain ⟨⟨rfl, rfl⟩, rfl⟩ : (g = g' ∧ off = off') ∧ cap = cap' := by simpa using e
    exact hR
  have hbd := RowIn.bounds hR
  have h1 := h.res.1.below hb
  have hgn : w.heap.size ≤ g := h.new g rfl
  generalize hu : (⟨.slice (some ⟨g, off + half * 7, none⟩) (l.length - half) (cap - half), l.drop half, l.getD half default⟩ : Up) = u at r1 ⊢
  have huv : u.v = .slice (some ⟨g, off + half * 7, none⟩) (l.length - half) (cap - half) := by rw [← hu]
  have huL : u.L = l.drop half := by rw [← hu]
  have hau : AtM W1 u.v u.L := by
    have := RowIn.part hR half (l.length - half) (by omega)
    rw [← flat_drop, List.take_of_length_le (by rw [flat_length, List.length_drop]; omega)] at this
    rw [huv, huL]
    unfold AtM
    rw [List.length_drop]
    exact this.at_
  have hdis : ∀ x ∈ bv :: X.map Up.v, Dis x u.v := fun x hx k o e e2 => by
    rw [huv] at e2
    rcases List.mem_cons.1 hx with rfl | hx
    · have := h.old k e.own
      have := (vext_some.1 e2).1
      omega
    · obtain ⟨y, hy, rfl⟩ := List.mem_map.1 hx
      exact h.apart y hy k o (vext_part (by omega) e2) e
  obtain ⟨q1, q2⟩ := cell_keptC h1.row h1.c2 r2.out (fun e => h1.av_rb e.own rfl)
  obtain ⟨p1, p2, p3⟩ := h1.pushAv r1.out r2.out r3.out hau hdis
  have hrow4 : w4.heap[rb]? = some (.cells #[bv, .int .i64 most, av'] 108 (0, 0)) := (r2.out.block rb h1.rlt (fun o e => h1.av_rb e.own rfl)).trans h1.row
  have hall : KeptC (fun k q => vext av' 8 k q ∨ (k = rb ∧ q = 2)) W1 (w4.setCell ⟨rb, 2, none⟩ v') := (r2.out.mono (fun _ _ _ e => .inl e)).then_new (KeptC.set hrow4 2 v') (fun k q _ e => .inr e)
  have hst := stair_push (Lp := []) (half := half) h.stairs.bot (Unlike.perm (show Unlike (held l X) from hU.perm h.same.symm |>.perm (List.Perm.refl _)) (List.Perm.refl _) |> fun hx => (List.pairwise_append.1 hx).1) h.stairs.low h.stairs.up (by omega) (by omega) (fun m hm => by cases hm) u.v
  have hu2 : (⟨u.v, [] ++ l.drop half, l.getD half default⟩ : Up) = u := by rw [← hu]; rfl
  rw [hu2] at hst
  refine ⟨q1, q2, ⟨p1, (h.res.2.1.trans (.of_below hb)).then_new p2 (fun k hk e => (h.res.2.2 k e).resolve_right (by omega)), fun k e => ?_⟩, ?_, fun k e => ?_, h.old, fun x hx k o e e2 => ?_, hst.1, ?_⟩
  · rcases p3 k e with e | e | e
    · exact h.res.2.2 k e
    · exact .inr (Nat.le_trans (Nat.le_trans h.res.2.1.size hb.size) e)
    · rw [huv] at e
      simp [Value.ownBlock] at e
      exact .inr (by omega)
  · have hp := RowIn.part hR 0 half (by omega)
    rw [Nat.zero_mul, List.drop_zero, ← flat_take, Nat.add_zero, Nat.sub_zero] at hp
    have hp2 := RowIn.keptC hp hall (fun o e e2 => ?_)
    · obtain ⟨cur, i1, i2, i3, i4, i5, i6⟩ := hp2
      have : RowIn (w4.setCell ⟨rb, 2, none⟩ v') 34 7 g off half half (flat (l.take half)) := ⟨cur, i1, Nat.le_refl _, by omega, by omega, i5, i6⟩
      unfold AtM
      rw [List.length_take, Nat.min_eq_left (by omega)]
      exact this.at_
    · have hm : AtM W1 (.slice (some ⟨g, off, none⟩) l.length cap) l := hR.at_
      rcases e2 with e2 | e2
      · exact h1.av_msg hm rfl e2.own
      · exact h1.msg_rb hm rfl e2.1
  · simp [Value.ownBlock] at e
    omega
  · rcases List.mem_append.1 hx with hx | hx
    · refine h.apart x hx k o ?_ e2
      have := vext_some.1 e
      exact vext_some.2 ⟨this.1, this.2.1, by have := this.2.2; omega⟩
    · rw [List.mem_singleton.1 hx, huv] at e2
      obtain ⟨-, -, f1⟩ := vext_some.1 e
      obtain ⟨-, f2, -⟩ := vext_some.1 e2
      omega
  · refine hst.2.trans ?_
    rw [List.append_nil]
    exact h.same

theorem RefIn.done {w wr : World} {rb : Nat} {most : Int} {bv av lv av' : Value} {us0 X : List Up} {B Bw l : List M} (h : RefIn w wr rb most bv av us0 Bw lv l X av') : Spilt w rb most bv av us0 B Bw (wr.setCell ⟨rb, 0, none⟩ lv) := by
  have h1 := h.res.1
  have hk : KeptC (fun k o => k = rb ∧ o = 0) wr (wr.setCell ⟨rb, 0, none⟩ lv) := KeptC.set h1.row 0 _
  have hmsg : ∀ {v : Value} {l : List M}, AtM wr v l → ∀ k o, vext v 7 k o → ¬ (k = rb ∧ o = 0) := fun {v l} hv k o e e2 => h1.msg_rb hv e.own e2.1
  have hkk := hk.off (S := fun k => k = rb) (fun k o _ e => e.1)
  refine ⟨l, X, lv, av', ⟨⟨?_, RowAt.keptC h.at_ hk (hmsg h.at_), RowAt.keptC h1.abv hk (fun k o e e2 => h1.av_rb e.own e2.1), fun u hu => RowAt.keptC (h1.each u hu) hk (hmsg (h1.each u hu)), ?_⟩, h.res.2.1.then_new hkk (fun k _ e => .inl e), ?_⟩, h.stairs, h.same⟩
  · rw [heap_setCell_same wr rb 0 _ _ lv h1.row]
    rfl
  · refine List.pairwise_cons.2 ⟨fun x hx => ?_, (List.pairwise_cons.1 h1.apart).2⟩
    obtain ⟨y, hy, rfl⟩ := List.mem_map.1 hx
    exact h.apart y hy
  · rintro k (e | e | e | e)
    · exact .inl (.inl e)
    · exact .inr (h.new k e)
    · exact h.res.2.2 k (.inr (.inr (.inl e)))
    · exact h.res.2.2 k (.inr (.inr (.inr e)))
end Go.Proofs.YtjlbkdghlijoeaaGreat
