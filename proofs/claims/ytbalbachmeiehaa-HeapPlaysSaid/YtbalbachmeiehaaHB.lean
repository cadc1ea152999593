/-
  The tree's first and add, at every tree.
-/
import Derived.Test.YtbalbachmeiehaaHA
namespace Go.Proofs.Ytbalbachmeiehaa
open Go.ChangeShapes Go.WideShapes Go.ChangeAt Go.Shelf Go.RowKit Go.Lib Go.Sort Go.Deep
set_option linter.unusedVariables false

set_option maxHeartbeats 1000000 in
theorem tfirst_any {w : World} {b0 tb : Nat} {v : Value} {l : List M} (h : TreeAt w b0 tb v l) (h0 : 0 < l.length) :
    Calls Try.prog 36 #[.pointer (some ⟨tb, 0, none⟩)] w fun e w' => e = .returned (l.getD 0 default).val ∧ Below w.heap.size w w' := by
  obtain ⟨g, cap, rfl, hg, hgl, hne⟩ := h.some_shape h0
  have hm := msgs_of_holds (own_holds h.own).1 hgl 0 h0
  have hn : (l.length : Int) > 0 := by omega
  have c0 := fun o => Lib.cell?_alloc_some o h.t.c0
  generalize l.getD 0 default = m at hm ⊢
  obtain ⟨-, x0, x1, x2, x3, x4, x5, x6⟩ := hm
  simp only [Nat.zero_add, Nat.zero_mul] at x0 x1 x2 x3 x4 x5 x6
  have y0 := fun o => Lib.cell?_alloc_some o x0
  have y1 := fun o => Lib.cell?_alloc_some o x1
  have y2 := fun o => Lib.cell?_alloc_some o x2
  have y3 := fun o => Lib.cell?_alloc_some o x3
  have y4 := fun o => Lib.cell?_alloc_some o x4
  have y5 := fun o => Lib.cell?_alloc_some o x5
  have y6 := fun o => Lib.cell?_alloc_some o x6
  have hcap : 0 < l.length := h0
  clear h x0 x1 x2 x3 x4 x5 x6
  obtain ⟨⟨t, f, s⟩, tt, vv, u, an⟩ := m
  simp only [M.val]
  generalize l.length = n at *
  go_enter Try.func36, Try.ntmps36
  go_wp2
  refine bodyPost_ret (v := .agg #[.int .i64 t, .int .i64 f, .int .i64 s, .int .i64 tt, .int .i64 vv, .int .i64 u, .bool an]) (by simp [results, Try.results36, go_sem]) rfl ⟨rfl, ?_⟩
  repeat (refine Below.setCell ?_ (by simp) _)
  exact (Below.refl _ w).alloc (Nat.le_refl _) _

theorem TreeOf.set {w : World} {tb : Nat} {v : Value} (h : TreeOf w tb v) (u : Value) : TreeOf (w.setCell ⟨tb, 0, none⟩ u) tb u := by
  unfold TreeOf at h ⊢
  simp [World.setCell, Array.getElem?_modify, h]
/-- Where a row lies behind a step: where it lay, or in a new block. -/
def RowFrom (w : World) (v v' : Value) : Prop := ∀ g, v'.ownBlock = some g → v.ownBlock = some g ∨ w.heap.size ≤ g

/-- What an add leaves. -/
def Added (w : World) (b0 tb : Nat) (v : Value) (l : List M) (m : M) (w' : World) : Prop :=
  ∃ v' l', TreeAt w' b0 tb v' l' ∧ l'.Perm (l ++ [m]) ∧ KeptOff (fun k => k = tb ∨ v.ownBlock = some k) w w' ∧ RowFrom w v v'

set_option maxHeartbeats 4000000 in
set_option maxRecDepth 100000 in
theorem tadd_any {w : World} {b0 tb : Nat} {v : Value} {l : List M} (h : TreeAt w b0 tb v l) (hs : l.length < 16384) (m : M) (hm : m.fits) :
    Calls Try.prog 30 #[.pointer (some ⟨tb, 0, none⟩), m.val] w fun e w' => e = .returned (.tuple #[]) ∧ Added w b0 tb v l m w' := by
  obtain ⟨i0, hi, hz0, hz1, hz2⟩ := info_parts infoM
  have mixed := mixed
  obtain ⟨oa, oc, rfl⟩ := h.shape
  have hk1 : Hid (KeptOff (fun k => k = tb ∨ (Value.slice oa l.length oc).ownBlock = some k) w (w.alloc (.cells m.cells 31))) := .of_below ((Below.refl _ w).alloc (Nat.le_refl _) _)
  have h1 := Lib.hid (h.kept (S := fun _ => False) (.of_below ((Below.refl _ w).alloc (Nat.le_refl _) (.cells m.cells 31))) (fun e => e) (fun _ _ e => e))
  have hb1 := Lib.hid (BoxM.mk w m)
  have hf := Lib.hid h.fits
  have hH := Lib.hid h.heap
  have hfm := Lib.hid hm
  have hlt := h.lt
  have hbd := h.bd
  have htl := h.t.lt
  have hoff := Lib.hid h.off
  obtain ⟨n, hn⟩ : ∃ n, n = l.length := ⟨_, rfl⟩
  have hn' := Lib.hid hn
  rw [← hn] at h1 hk1 hs hoff ⊢
  clear h hm hn
  obtain ⟨m0, hm0⟩ : ∃ m0, m0 = m := ⟨_, rfl⟩
  have hm0' := Lib.hid hm0
  obtain ⟨⟨t, f, s⟩, tt, vv, u, an⟩ := m
  simp only [M.val, M.cells] at hk1 h1 hb1 ⊢
  go_enter Try.func30, Try.ntmps30
  go_wp2_with fail
  obtain ⟨B, hB⟩ : ∃ B, B = w.heap.size := ⟨_, rfl⟩
  rw [← hB] at hb1 ⊢
  generalize hW1 : w.alloc (.cells #[.int .i64 t, .int .i64 f, .int .i64 s, .int .i64 tt, .int .i64 vv, .int .i64 u, .bool an] 31) = W1 at hk1 h1 hb1 ⊢
  have hsz1 : W1.heap.size = B + 1 := by rw [← hW1, hB]; simp
  have hsz1' := Lib.hid hsz1
  clear hW1 hm0
  have c0 := h1.out.t.c0
  obtain ⟨-, y0, y1, y2, y3, y4, y5, y6⟩ := hb1.out.at
  simp only [Nat.zero_add] at y0 y1 y2 y3 y4 y5 y6
  have hown' := Lib.hid h1.out.own
  have ag : Value.ownBlock (.slice oa n oc) ≠ some tb := hoff.out
  have hfz := h1.out.t.fz 0
  have htl1 : tb < W1.heap.size := h1.out.t.lt
  have hbW : b0 ≤ W1.heap.size := h1.out.bd
  rw [← hn'.out] at hown'
  have hB' : Hid (B = w.heap.size) := hB
  clear hB hsz1
  go_region_law (first
    | (refine step_append_lies _ (by rfl) _ _ _ (by rfl) b0 31 i0 _ 7 56 Try.underlying35 hi hz0 hz1 hz2 rfl (by omega) (.slice oa n oc) n (flat l) (by rfl) ((hown'.out.alloc _).drew) ⟨W1.heap.size, 0, none⟩ 1 1 (flat [⟨⟨t, f, s⟩, tt, vv, u, an⟩]) (by rfl) (by rfl) (World.news_of_block (cs := (M.cells ⟨⟨t, f, s⟩, tt, vv, u, an⟩)) (t := 31) (fr := (0, 0)) (heap_alloc_new W1 _)) (flat_one _) (by omega) (by unfold maxLen; omega) (by omega) (by simp; omega) (W1.heap.size + 1) (by simp) ?_; intro gg cap w4 hown4 hgrow hat hlt4; have q13 : w4.cell? ⟨tb, 0, none⟩ = some (.slice oa n oc) := (hgrow.cell_far _ (by simp; omega) (Ne.symm ag)).trans (Lib.cell?_alloc_some _ c0); have q13f : w4.frozen? ⟨tb, 0, none⟩ = false := (hgrow.frozen_far _ (by simp; omega) (Ne.symm ag)).trans (by rw [← hfz]; exact World.frozen?_alloc_past _ _ _ htl1)))
  all_goals
    have hk2 := hk1.out.trans ((((KeptOff.of_below (((Below.refl W1.heap.size W1).alloc (Nat.le_refl _) _).drew)).then_new ((KeptOff.of_grown hgrow).mono (fun k _ e => Or.inr e)) (fun k _ e => e)).trans ((KeptOff.set w4 ⟨tb, 0, none⟩ (.slice (some ⟨gg, 0, none⟩) (n + 1) cap)).mono (fun k _ e => Or.inl e))).mono (fun k _ e => e))
    have hT4 : TreeOf w4 tb (.slice oa n oc) := ((hgrow.block tb (by simp; omega) (Ne.symm ag)).trans (Below.heap_alloc W1 _ tb htl1)).trans h1.out.t
    have hT5 := hT4.set (.slice (some ⟨gg, 0, none⟩) (n + 1) cap)
    have hown5 : w4.ownsRow b0 31 7 (.slice (some ⟨gg, 0, none⟩) (n + 1) cap) (n + 1) (flat (l ++ [(⟨⟨t, f, s⟩, tt, vv, u, an⟩ : M)])) := by rw [flat_append]; exact hown4
    have hown6 := ownsRow_setCell_below hown5 (a := ⟨tb, 0, none⟩) hlt (.slice (some ⟨gg, 0, none⟩) (n + 1) cap)
    have hrf : RowFrom w (.slice oa n oc) (.slice (some ⟨gg, 0, none⟩) (n + 1) cap) := by
      intro g hg
      obtain rfl : gg = g := by simpa [Value.ownBlock] using hg
      rcases hat with e | e
      · exact .inl e
      · exact .inr (by have := hsz1'.out; have := hB'.out; omega)
    have hge := (hown5.lt gg rfl).1
    have hlen : Hid ((l ++ [(⟨⟨t, f, s⟩, tt, vv, u, an⟩ : M)]).toArray.size = n + 1) := by show _ = _; simp [hn'.out]
    have hne : tb ≠ gg := by omega
    have hra := fun w' (S : SWK encM 7 (w4.setCell ⟨tb, 0, none⟩ (.slice (some ⟨gg, 0, none⟩) (n + 1) cap)) gg 0 (l ++ [(⟨⟨t, f, s⟩, tt, vv, u, an⟩ : M)]).toArray w') => traise_any tlay encM ltM aheads tb gg 0 cap n (n + 1) _ _ _ w' (own_row hown6) hlen.out hlen.out S hT5 hne (by omega) (by omega)
    have hra := hra _ (SWK.start (own_row hown6).hH)
    have hbd5 : b0 ≤ (w4.setCell ⟨tb, 0, none⟩ (.slice (some ⟨gg, 0, none⟩) (n + 1) cap)).heap.size := Nat.le_trans hbd hk2.size
    have hQ := Lib.hid (And.intro hk2 (And.intro hT5 (And.intro hown6 (And.intro hrf hbd5))))
    have c5 := hT5.c0
    clear hown4 hgrow hat hlt4 q13 q13f hown5 hk2 hT4 hT5 hown6 hrf ag c0 y0 y1 y2 y3 y4 y5 y6 hfz hbd5
    generalize w4.setCell ⟨tb, 0, none⟩ (.slice (some ⟨gg, 0, none⟩) (n + 1) cap) = W5 at hQ c5 hra ⊢
    go_wp2_with (first | (go_at_call 26; refine (tsize_any tlay tb (some ⟨gg, 0, none⟩) (n + 1) cap _ c5).mono ?_; rintro e w6 ⟨rfl, rfl⟩) | (go_at_call 43; refine hra.mono ?_; rintro e w7 ⟨rfl, S7⟩))
    go_end0
    obtain ⟨hk2, hT5, hown6, hrf, hbd5⟩ := hQ.out
    have hadd := add_all ordM hH.out (⟨⟨t, f, s⟩, tt, vv, u, an⟩ : M)
    have eA : l.toArray.push (⟨⟨t, f, s⟩, tt, vv, u, an⟩ : M) = (l ++ [(⟨⟨t, f, s⟩, tt, vv, u, an⟩ : M)]).toArray := by simp
    have eS : l.toArray.size = n := by simp [hn'.out]
    rw [eA, eS] at hadd
    obtain ⟨a1, a2, a3⟩ := hadd
    have hown7 := own_swk hown6 S7 a1
    refine ⟨rfl, _, (raiseA ltM (l ++ [(⟨⟨t, f, s⟩, tt, vv, u, an⟩ : M)]).toArray n).toList, ⟨hT5.swk S7 hne, ?_, hlt, Nat.le_trans hbd5 S7.le, ?_, by simpa using a3, by rw [Array.length_toList, a1]; omega⟩, by simpa using a2, ?_, hrf⟩
    · rw [Array.length_toList, a1]; exact hown7
    · intro x hx
      have := (a2.mem_iff (a := x)).1 hx
      simp only [List.mem_append, List.mem_singleton] at this
      rcases this with h' | rfl
      · exact hf.out x h'
      · exact hfm.out
    · refine hk2.then_new (KeptOff.of_grown (swk_grown S7)) (fun k hk e => ?_)
      cases e
      rcases hrf gg rfl with e | e
      · exact .inr e
      · omega

end Go.Proofs.Ytbalbachmeiehaa
