/-
  A log in memory, step by step: a cell of its block, one stretch more, one step more.
-/
import Derived.Test.YtminfmjgmmkaoaaGreatDoorGM
namespace Go.Proofs.YtminfmjgmmkaoaaGreatDoor
open Go.ChangeShapes Go.WideShapes Go.ChangeAt Go.Shelf Go.RowKit Go.Lib Go.Sort Go.Deep
set_option linter.unusedVariables false
set_option maxRecDepth 4000
set_option linter.unusedSimpArgs false

/-- A log in memory, its length said apart. -/
structure LogX (w : World) (lb : Nat) (v : Wv) (W : Wd) (every : Int) (sv : Value) (ss : List Sth) (len : Int) (st : Sta) (stuck : Bool) : Prop where
  row : w.heap[lb]? = some (.cells (logC v W every sv len st stuck) 71 (0, 0))
  rd : LogRd w v W sv ss
  apart : (ss.map Sth.v).Pairwise apartV
section
variable {w w' : World} {lb : Nat} {v : Wv} {W : Wd} {every len : Int} {sv : Value} {ss : List Sth} {st : Sta} {stuck : Bool}
theorem LogOf.x (h : LogOf w lb v W every sv ss st stuck) : LogX w lb v W every sv ss (total ss) st stuck := ⟨h.row, h.rd, h.apart⟩
theorem LogX.of (h : LogX w lb v W every sv ss len st stuck) (he : 1 ≤ every ∧ every ≤ 1024) (hp : 0 < ss.length) (hl : len = total ss) : LogOf w lb v W every sv ss st stuck := ⟨hl ▸ h.row, h.rd, he, hp, h.apart⟩
theorem LogX.lt (h : LogX w lb v W every sv ss len st stuck) : lb < w.heap.size := (Array.getElem?_eq_some_iff.1 h.row).1
theorem LogRd.svt (h : LogRd w v W sv ss) : TagV w 68 sv := fun k hk => RowAt.tag h.abv hk
theorem LogRd.stt (h : LogRd w v W sv ss) {s : Sth} (hs : s ∈ ss) : TagV w 101 s.v := fun k hk => RowAt.tag (h.each s hs) hk
theorem logt {w : World} {lb : Nat} {cs : Array Value} (h : w.heap[lb]? = some (.cells cs 71 (0, 0))) : TagV w 71 (.slice (some ⟨lb, 0, none⟩) 0 0) := fun k hk => by
  simp [Value.ownBlock] at hk
  subst hk
  exact ⟨_, h⟩
theorem own_lb (lb : Nat) : (Value.slice (some ⟨lb, 0, none⟩) 0 0).ownBlock = some lb := rfl
theorem LogRd.kept {S : Nat → Prop} (h : LogRd w v W sv ss) (hk : KeptOff S w w') (h1 : ∀ k, (Value.slice v.pa v.pl v.pc).ownBlock = some k → ¬ S k) (h2 : ∀ k, (Value.slice v.la v.ll v.lc).ownBlock = some k → ¬ S k) (h3 : ∀ k, sv.ownBlock = some k → ¬ S k)
    (h4 : ∀ s ∈ ss, ∀ k, s.v.ownBlock = some k → ¬ S k) (h5 : ∀ s ∈ ss, ∀ p ∈ s.L, ∀ k, p.sv.ownBlock = some k → ¬ S k) : LogRd w' v W sv ss :=
  ⟨⟨h.wds.1.keptOff hk h1, h.wds.2.1.keptOff hk h2, h.wds.2.2⟩, ⟨h.wtag.1.kept hk h1, h.wtag.2.kept hk h2⟩, RowAt.kept h.abv hk h3, fun s hs => RowAt.kept (h.each s hs) hk (h4 s hs), fun s hs p hp => ⟨(h.sents s hs p hp).1.kept hk (h5 s hs p hp), (h.sents s hs p hp).2.kept hk (h5 s hs p hp)⟩⟩
theorem LogRd.below (h : LogRd w v W sv ss) (hb : Below w.heap.size w w') : LogRd w' v W sv ss := h.kept (S := fun _ => False) (.of_below hb) (fun _ _ e => e) (fun _ _ e => e) (fun _ _ e => e) (fun _ _ _ _ e => e) (fun _ _ _ _ _ _ e => e)
/-- Where just the log's own block is written. -/
theorem LogRd.keptLb (h : LogRd w v W sv ss) {cs : Array Value} (hr : w.heap[lb]? = some (.cells cs 71 (0, 0))) (hk : KeptOff (fun k => k = lb) w w') : LogRd w' v W sv ss :=
  h.kept hk (fun k e e2 => h.wtag.1.ne (logt hr) (by decide) k e (e2 ▸ own_lb lb)) (fun k e e2 => h.wtag.2.ne (logt hr) (by decide) k e (e2 ▸ own_lb lb)) (fun k e e2 => h.svt.ne (logt hr) (by decide) k e (e2 ▸ own_lb lb))
    (fun s hs k e e2 => (h.stt hs).ne (logt hr) (by decide) k e (e2 ▸ own_lb lb)) (fun s hs p hp k e e2 => (h.sents s hs p hp).2.ne (logt hr) (by decide) k e (e2 ▸ own_lb lb))
theorem LogX.below (h : LogX w lb v W every sv ss len st stuck) (hb : Below w.heap.size w w') : LogX w' lb v W every sv ss len st stuck := ⟨(hb.block _ h.lt).trans h.row, h.rd.below hb, h.apart⟩
/-- A cell of the log's block. -/
theorem LogX.setC (h : LogX w lb v W every sv ss len st stuck) (i : Nat) (u : Value) {every' len' : Int} {st' : Sta} {stuck' : Bool} (he : (logC v W every sv len st stuck).setIfInBounds i u = logC v W every' sv len' st' stuck') :
    LogX (w.setCell ⟨lb, i, none⟩ u) lb v W every' sv ss len' st' stuck' :=
  ⟨by rw [Go.heap_setCell_same w lb i _ _ u h.row, he], h.rd.keptLb h.row (KeptOff.set w ⟨lb, i, none⟩ u), h.apart⟩
theorem LogX.setLen (h : LogX w lb v W every sv ss len st stuck) (z : Int) : LogX (w.setCell ⟨lb, 6, none⟩ (.int .i64 z)) lb v W every sv ss z st stuck := h.setC 6 _ rfl
theorem LogX.setStuck (h : LogX w lb v W every sv ss len st stuck) (b : Bool) : LogX (w.setCell ⟨lb, 17, none⟩ (.bool b)) lb v W every sv ss len st b := h.setC 17 _ rfl
theorem LogX.c4 (h : LogX w lb v W every sv ss len st stuck) : w.cell? ⟨lb, 4, none⟩ = some (.int .i64 every) := row_cell h.row 4 rfl
theorem LogX.c5 (h : LogX w lb v W every sv ss len st stuck) : w.cell? ⟨lb, 5, none⟩ = some sv := row_cell h.row 5 rfl
theorem LogX.c6 (h : LogX w lb v W every sv ss len st stuck) : w.cell? ⟨lb, 6, none⟩ = some (.int .i64 len) := row_cell h.row 6 rfl
theorem LogX.c17 (h : LogX w lb v W every sv ss len st stuck) : w.cell? ⟨lb, 17, none⟩ = some (.bool stuck) := row_cell h.row 17 rfl
theorem LogX.fz (h : LogX w lb v W every sv ss len st stuck) (o : Nat) : w.frozen? ⟨lb, o, none⟩ = false := frozen_of_cells h.row

/-- A stretch more: behind the append and the store. -/
theorem LogX.grow (h : LogX w lb v W every sv ss len st stuck) {w1 : World} (bf : Sta) {g off cap : Nat} (hR : RowIn w1 68 11 g off (ss.length + 1) cap ((ss ++ [(⟨bf, .slice none 0 0, []⟩ : Sth)]).flatMap encT)) (hk : KeptOff (fun k => sv.ownBlock = some k) w w1) :
    LogX (w1.setCell ⟨lb, 5, none⟩ (.slice (some ⟨g, off, none⟩) (ss.length + 1) cap)) lb v W every (.slice (some ⟨g, off, none⟩) (ss.length + 1) cap) (ss ++ [(⟨bf, .slice none 0 0, []⟩ : Sth)]) len st stuck := by
  have hlb : sv.ownBlock ≠ some lb := fun e => h.rd.svt.ne (logt h.row) (by decide) lb e (own_lb lb)
  have hrow1 : w1.heap[lb]? = some (.cells (logC v W every sv len st stuck) 71 (0, 0)) := (hk.block lb h.lt hlb).trans h.row
  have hgl : g ≠ lb := fun e => by
    obtain ⟨cur, h0, _⟩ := hR
    rw [e, hrow1] at h0
    simp at h0
  have hks := KeptOff.set w1 ⟨lb, 5, none⟩ (.slice (some ⟨g, off, none⟩) (ss.length + 1) cap)
  have hS := hk.mono (S' := fun k => sv.ownBlock = some k ∨ k = lb) (fun k _ e => .inl e) |>.trans (hks.mono (fun k _ e => .inr e))
  have n1 : ∀ {v' : Value} {e : TypeId}, TagV w e v' → e ≠ 68 → e ≠ 71 → ∀ k, v'.ownBlock = some k → ¬ (sv.ownBlock = some k ∨ k = lb) := fun ht h1 h2 k e0 e1 => by
    rcases e1 with e1 | e1
    · exact ht.ne h.rd.svt h1 k e0 e1
    · exact ht.ne (logt h.row) h2 k e0 (e1 ▸ own_lb lb)
  refine ⟨?_, ⟨⟨h.rd.wds.1.keptOff hS (n1 h.rd.wtag.1 (by decide) (by decide)), h.rd.wds.2.1.keptOff hS (n1 h.rd.wtag.2 (by decide) (by decide)), h.rd.wds.2.2⟩, ⟨h.rd.wtag.1.kept hS (n1 h.rd.wtag.1 (by decide) (by decide)), h.rd.wtag.2.kept hS (n1 h.rd.wtag.2 (by decide) (by decide))⟩, ?_, fun s hs => ?_, fun s hs p hp => ?_⟩, ?_⟩
  · rw [Go.heap_setCell_same w1 lb 5 _ _ _ hrow1]; rfl
  · exact .inr ⟨g, off, cap, by simp, by simpa using hR.kept hks hgl⟩
  · rcases List.mem_append.1 hs with hs | hs
    · exact RowAt.kept (h.rd.each s hs) hS (n1 (h.rd.stt hs) (by decide) (by decide))
    · simp at hs; subst hs; exact RowAt.nil _ _ _
  · rcases List.mem_append.1 hs with hs | hs
    · exact ⟨(h.rd.sents s hs p hp).1.kept hS (n1 (h.rd.sents s hs p hp).2 (by decide) (by decide)), (h.rd.sents s hs p hp).2.kept hS (n1 (h.rd.sents s hs p hp).2 (by decide) (by decide))⟩
    · simp at hs; subst hs; simp at hp
  · rw [List.map_append, List.pairwise_append]
    exact ⟨h.apart, by simp, fun a _ b hb k e1 e2 => by simp at hb; subst hb; cases e2⟩
theorem flatT_set (pre : List Sth) (s : Sth) (v1 : Value) (L1 : List Stp) : ((pre ++ [s]).flatMap encT).set (pre.length * 11 + 10) v1 = (pre ++ [(⟨s.kept, v1, L1⟩ : Sth)]).flatMap encT := by
  have hl : (pre.flatMap encT).length = pre.length * 11 := flatOf_length encT_length pre
  rw [List.flatMap_append, List.flatMap_append, List.set_append_right _ _ (by omega), show pre.length * 11 + 10 - (pre.flatMap encT).length = 10 by omega]
  rfl
/-- A step more in the last stretch: behind the append and the store. -/
theorem LogX.more {pre : List Sth} {s : Sth} {g off cap : Nat} (h : LogX w lb v W every (.slice (some ⟨g, off, none⟩) (pre.length + 1) cap) (pre ++ [s]) len st stuck) {w1 : World} (p : Stp) {hb o2 c2 : Nat}
    (hR : RowIn w1 101 9 hb o2 (s.L.length + 1) c2 ((s.L ++ [p]).flatMap encP)) (hk : KeptOff (fun k => s.v.ownBlock = some k) w w1) (hn : s.v.ownBlock = some hb ∨ w.heap.size ≤ hb) (hp : Sent w1 p.sv p.sent ∧ TagV w1 42 p.sv) :
    LogX (w1.setCell ⟨g, off + (pre.length * 11 + 10), none⟩ (.slice (some ⟨hb, o2, none⟩) (s.L.length + 1) c2)) lb v W every (.slice (some ⟨g, off, none⟩) (pre.length + 1) cap) (pre ++ [⟨s.kept, .slice (some ⟨hb, o2, none⟩) (s.L.length + 1) c2, s.L ++ [p]⟩]) len st stuck := by
  have hs : s ∈ pre ++ [s] := List.mem_append_right _ (List.mem_singleton.2 rfl)
  have hg : (Value.slice (some ⟨g, off, none⟩) (pre.length + 1) cap).ownBlock = some g := rfl
  have hsg : s.v.ownBlock ≠ some g := fun e => (h.rd.stt hs).ne h.rd.svt (by decide) g e hg
  have hgw : g < w.heap.size := h.rd.svt.lt g hg
  have hgw1 := Nat.lt_of_lt_of_le hgw hk.size
  have hbg : hb ≠ g := fun e => by
    rcases hn with hn | hn
    · exact hsg (e ▸ hn)
    · omega
  have habv : ∃ off' cap', RowIn w 68 11 g off' (pre.length + 1) cap' ((pre ++ [s]).flatMap encT) ∧ off' = off ∧ cap' = cap := by
    rcases h.rd.abv with ⟨e, _⟩ | ⟨g', off', cap', e, hr⟩
    · cases e
    · simp at e
      obtain ⟨⟨rfl, rfl⟩, rfl⟩ := e
      exact ⟨_, _, by simpa using hr, rfl, rfl⟩
  obtain ⟨off', cap', habv, ho, hc⟩ := habv
  rw [ho, hc] at habv
  have hks := KeptOff.set w1 ⟨g, off + (pre.length * 11 + 10), none⟩ (.slice (some ⟨hb, o2, none⟩) (s.L.length + 1) c2)
  have hS := hk.mono (S' := fun k => s.v.ownBlock = some k ∨ k = g) (fun k _ e => .inl e) |>.trans (hks.mono (fun k _ e => .inr e))
  have n1 : ∀ {v' : Value} {e : TypeId}, TagV w e v' → e ≠ 68 → e ≠ 101 → ∀ k, v'.ownBlock = some k → ¬ (s.v.ownBlock = some k ∨ k = g) := fun ht h1 h2 k e0 e1 => by
    rcases e1 with e1 | e1
    · exact ht.ne (h.rd.stt hs) h2 k e0 e1
    · exact ht.ne h.rd.svt h1 k e0 (e1 ▸ hg)
  have hpre : ∀ t ∈ pre, ∀ k, t.v.ownBlock = some k → s.v.ownBlock = some k → False := fun t ht k e1 e2 => by
    have hap := h.apart
    rw [List.map_append, List.pairwise_append] at hap
    exact hap.2.2 t.v (List.mem_map_of_mem ht) s.v (by simp) k e1 e2
  have hin : ∀ t ∈ pre, t ∈ pre ++ [s] := fun t ht => List.mem_append_left _ ht
  have hlt : ∀ t ∈ pre, ∀ k, t.v.ownBlock = some k → k < w.heap.size := fun t ht k e => (h.rd.stt (hin t ht)).lt k e
  have hps : ∀ k, p.sv.ownBlock = some k → k ≠ g := fun k e e2 => by
    have hgt : TagV w1 68 (.slice (some ⟨g, off, none⟩) (pre.length + 1) cap) := h.rd.svt.kept hk (fun k e0 e1 => by simp [Value.ownBlock] at e0; subst e0; exact hsg e1)
    exact hp.2.ne hgt (by decide) k e (e2 ▸ hg)
  refine ⟨?_, ⟨⟨h.rd.wds.1.keptOff hS (n1 h.rd.wtag.1 (by decide) (by decide)), h.rd.wds.2.1.keptOff hS (n1 h.rd.wtag.2 (by decide) (by decide)), h.rd.wds.2.2⟩, ⟨h.rd.wtag.1.kept hS (n1 h.rd.wtag.1 (by decide) (by decide)), h.rd.wtag.2.kept hS (n1 h.rd.wtag.2 (by decide) (by decide))⟩, ?_, fun t ht => ?_, fun t ht q hq => ?_⟩, ?_⟩
  · exact (hS.block lb h.lt (n1 (logt h.row) (by decide) (by decide) lb (own_lb lb))).trans h.row
  · refine .inr ⟨g, off, cap, by simp, ?_⟩
    have h1 := (habv.kept hk hsg).set1 (pre.length * 11 + 10) (.slice (some ⟨hb, o2, none⟩) (s.L.length + 1) c2) (by rw [flatOf_length encT_length]; simp; omega)
    rw [flatT_set pre s _ (s.L ++ [p])] at h1
    simpa using h1
  · rcases List.mem_append.1 ht with ht | ht
    · exact RowAt.kept (h.rd.each t (hin t ht)) hS (fun k e e2 => by
        rcases e2 with e2 | e2
        · exact hpre t ht k e e2
        · exact (h.rd.stt (hin t ht)).ne h.rd.svt (by decide) k e (e2 ▸ hg))
    · simp at ht; subst ht
      exact .inr ⟨hb, o2, c2, by simp, by simpa using hR.kept hks hbg⟩
  · rcases List.mem_append.1 ht with ht | ht
    · have h0 := h.rd.sents t (hin t ht) q hq
      exact ⟨h0.1.kept hS (n1 h0.2 (by decide) (by decide)), h0.2.kept hS (n1 h0.2 (by decide) (by decide))⟩
    · simp at ht; subst ht
      rcases List.mem_append.1 hq with hq | hq
      · have h0 := h.rd.sents s hs q hq
        exact ⟨h0.1.kept hS (n1 h0.2 (by decide) (by decide)), h0.2.kept hS (n1 h0.2 (by decide) (by decide))⟩
      · simp at hq; subst hq
        exact ⟨hp.1.kept hks hps, hp.2.kept hks hps⟩
  · have hap := h.apart
    rw [List.map_append, List.pairwise_append] at hap ⊢
    refine ⟨hap.1, by simp, fun a ha b hbm k e1 e2 => ?_⟩
    simp at hbm; subst hbm
    obtain ⟨t, ht, rfl⟩ := List.mem_map.1 ha
    simp [Value.ownBlock] at e2
    subst e2
    rcases hn with hn | hn
    · exact hpre t ht hb e1 hn
    · have := hlt t ht hb e1; omega
end
end Go.Proofs.YtminfmjgmmkaoaaGreatDoor
