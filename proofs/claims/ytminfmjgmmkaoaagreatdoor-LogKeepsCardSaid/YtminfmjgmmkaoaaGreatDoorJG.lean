/-
  A stretch's end, a log's end.
  A log's Back, in plain data.
-/
import Derived.Test.YtminfmjgmmkaoaaGreatDoorJE
import Derived.Test.YtminfmjgmmkaoaaGreatDoorJY
namespace Go.Proofs.YtminfmjgmmkaoaaGreatDoor
open Go.ChangeShapes Go.WideShapes Go.ChangeAt Go.Shelf Go.RowKit Go.Lib Go.Sort Go.Deep
set_option linter.unusedVariables false
set_option maxRecDepth 4000
set_option linter.unusedSimpArgs false

theorem spEnd_any {w : World} {g q n c p : Nat} {a : Option Addr} (hc : w.cell? ⟨g, q + 10, none⟩ = some (.slice a n c)) (hf : w.frozen? ⟨g, q + 10, none⟩ = false) (hp : p ≤ n) (hn : n ≤ c) (ha : a = none ∨ ∃ b o, a = some ⟨b, o, none⟩) :
    Calls Tryz.prog 55 #[.pointer (some ⟨g, q, none⟩), .int .i64 (p : Int)] w fun e w' => e = .returned (.tuple #[]) ∧ w' = w.setCell ⟨g, q + 10, none⟩ (.slice a p p) := by
  have h1 : (p : Int) ≤ (c : Int) := by omega
  have h2 : (0 : Int) ≤ (p : Int) := by omega
  rcases ha with rfl | ⟨ab, ao, rfl⟩
  all_goals
    go_enter Tryz.func55, Tryz.ntmps55
    go_wp2
    go_end0
    refine ⟨rfl, ?_⟩
    simp
theorem own_same (a : Option Addr) (n c n' c' : Nat) : (Value.slice a n c).ownBlock = (Value.slice a n' c').ownBlock := by cases a <;> rfl
theorem RowIn.less {w : World} {e : TypeId} {sz g off n cap c' : Nat} {xs : List Value} (h : RowIn w e sz g off n cap xs) (h1 : n ≤ c') (h2 : c' ≤ cap) : RowIn w e sz g off n c' xs := by
  obtain ⟨cur, g0, g2, g3, g4, g5, g6⟩ := h
  have := Nat.mul_le_mul_right sz h2
  exact ⟨cur, g0, h1, by omega, by omega, g5, g6⟩
theorem flatOf_take {α : Type} {enc : α → List Value} {sz : Nat} (h : ∀ x, (enc x).length = sz) (l : List α) (p : Nat) (hp : p ≤ l.length) : (l.take p).flatMap enc = (l.flatMap enc).take (p * sz) := by
  have e := flatOf_length h (l.take p)
  rw [List.length_take, Nat.min_eq_left hp] at e
  conv => rhs; rw [← List.take_append_drop p l, List.flatMap_append, List.take_left' e]
theorem AtP.take {w : World} {a : Option Addr} {c p : Nat} {L : List Stp} (h : AtP w (.slice a L.length c) L) (hp : p ≤ L.length) : AtP w (.slice a p p) (L.take p) := by
  have hl : (L.take p).length = p := by rw [List.length_take]; omega
  rcases h with ⟨e, h0, h1⟩ | ⟨g, off, cap, e, hr⟩
  · simp at e
    obtain ⟨rfl, h2, rfl⟩ := e
    obtain rfl : p = 0 := by omega
    exact .inl ⟨rfl, by simp, by simp⟩
  · simp at e
    obtain ⟨rfl, rfl⟩ := e
    refine .inr ⟨g, off, p, by rw [hl], ?_⟩
    have h2 := hr.part 0 p (by omega)
    simp only [Nat.zero_mul, Nat.add_zero, List.drop_zero, Nat.sub_zero] at h2
    rw [hl, flatOf_take encP_length _ _ hp]
    exact h2.less (Nat.le_refl _) (by have := hr.bounds.1; omega)
section
variable {w w1 : World} {lb : Nat} {v : Wv} {W : Wd} {every len : Int} {st : Sta} {stuck : Bool}
/-- The last stretch ends earlier. -/
theorem LogX.lastEnd {pre : List Sth} {s : Sth} {g off cap c p : Nat} {a : Option Addr} (h : LogX w lb v W every (.slice (some ⟨g, off, none⟩) (pre.length + 1) cap) (pre ++ [s]) len st stuck) (hs : s.v = .slice a s.L.length c) (hp : p ≤ s.L.length) :
    LogX (w.setCell ⟨g, off + pre.length * 11 + 10, none⟩ (.slice a p p)) lb v W every (.slice (some ⟨g, off, none⟩) (pre.length + 1) cap) (pre ++ [⟨s.kept, .slice a p p, s.L.take p⟩]) len st stuck := by
  have hsm : s ∈ pre ++ [s] := List.mem_append_right _ (List.mem_singleton.2 rfl)
  have hg : (Value.slice (some ⟨g, off, none⟩) (pre.length + 1) cap).ownBlock = some g := rfl
  have hS := KeptOff.set w ⟨g, off + pre.length * 11 + 10, none⟩ (.slice a p p)
  have n1 : ∀ {v' : Value} {e : TypeId}, TagV w e v' → e ≠ 68 → ∀ k, v'.ownBlock = some k → ¬ (k = g) := fun ht h1 k e0 e1 => ht.ne h.rd.svt h1 k e0 (e1 ▸ hg)
  have hin : ∀ t ∈ pre, t ∈ pre ++ [s] := fun t ht => List.mem_append_left _ ht
  refine ⟨(hS.block lb h.lt (n1 (logt h.row) (by decide) lb (own_lb lb))).trans h.row, ⟨⟨h.rd.wds.1.keptOff hS (n1 h.rd.wtag.1 (by decide)), h.rd.wds.2.1.keptOff hS (n1 h.rd.wtag.2 (by decide)), h.rd.wds.2.2⟩, ⟨h.rd.wtag.1.kept hS (n1 h.rd.wtag.1 (by decide)), h.rd.wtag.2.kept hS (n1 h.rd.wtag.2 (by decide))⟩, ?_, fun t ht => ?_, fun t ht q hq => ?_⟩, ?_⟩
  · rcases h.rd.abv with ⟨e, _⟩ | ⟨g', off', cap', e, hr⟩
    · cases e
    · simp at e
      obtain ⟨⟨rfl, rfl⟩, rfl⟩ := e
      refine .inr ⟨g, off, cap, by simp, ?_⟩
      have h1 := hr.set1 (pre.length * 11 + 10) (.slice a p p) (by rw [flatOf_length encT_length]; simp; omega)
      rw [flatT_set pre s _ (s.L.take p), ← Nat.add_assoc] at h1
      simpa using h1
  · rcases List.mem_append.1 ht with ht | ht
    · exact RowAt.kept (h.rd.each t (hin t ht)) hS (n1 (h.rd.stt (hin t ht)) (by decide))
    · simp at ht; subst ht
      exact RowAt.kept (AtP.take (hs ▸ h.rd.each s hsm) hp) hS (fun k e e2 => n1 (h.rd.stt hsm) (by decide) k (by rw [hs, own_same a s.L.length c p p]; exact e) e2)
  · rcases List.mem_append.1 ht with ht | ht
    · have h0 := h.rd.sents t (hin t ht) q hq
      exact ⟨h0.1.kept hS (n1 h0.2 (by decide)), h0.2.kept hS (n1 h0.2 (by decide))⟩
    · simp at ht; subst ht
      have h0 := h.rd.sents s hsm q (List.mem_of_mem_take hq)
      exact ⟨h0.1.kept hS (n1 h0.2 (by decide)), h0.2.kept hS (n1 h0.2 (by decide))⟩
  · have hap := h.apart
    rw [List.map_append, List.pairwise_append] at hap ⊢
    refine ⟨hap.1, by simp, fun x hx y hy k e1 e2 => ?_⟩
    simp at hy; subst hy
    exact hap.2.2 x hx s.v (by simp) k e1 (by rw [hs, own_same a s.L.length c p p]; exact e2)
/-- The last stretch goes. -/
theorem LogX.lastGone {pre : List Sth} {s : Sth} {g off cap : Nat} (h : LogX w lb v W every (.slice (some ⟨g, off, none⟩) (pre.length + 1) cap) (pre ++ [s]) len st stuck) (hR : RowIn w1 68 11 g off pre.length cap (pre.flatMap encT)) (hk : KeptOff (fun k => k = g) w w1) :
    LogX (w1.setCell ⟨lb, 5, none⟩ (.slice (some ⟨g, off, none⟩) pre.length cap)) lb v W every (.slice (some ⟨g, off, none⟩) pre.length cap) pre len st stuck := by
  have hsvg : (Value.slice (some ⟨g, off, none⟩) (pre.length + 1) cap).ownBlock = some g := rfl
  have hlb : lb ≠ g := fun e => h.rd.svt.ne (logt h.row) (by decide) g hsvg (e ▸ own_lb lb)
  have hrow1 := (hk.block lb h.lt hlb).trans h.row
  have hks := KeptOff.set w1 ⟨lb, 5, none⟩ (.slice (some ⟨g, off, none⟩) pre.length cap)
  have hS := hk.mono (S' := fun k => k = g ∨ k = lb) (fun k _ e => .inl e) |>.trans (hks.mono (fun k _ e => .inr e))
  have n1 : ∀ {v' : Value} {e : TypeId}, TagV w e v' → e ≠ 68 → e ≠ 71 → ∀ k, v'.ownBlock = some k → ¬ (k = g ∨ k = lb) := fun ht h1 h2 k e0 e1 => by
    rcases e1 with e1 | e1
    · exact ht.ne h.rd.svt h1 k e0 (e1 ▸ hsvg)
    · exact ht.ne (logt h.row) h2 k e0 (e1 ▸ own_lb lb)
  have hin : ∀ t ∈ pre, t ∈ pre ++ [s] := fun t ht => List.mem_append_left _ ht
  refine ⟨?_, ⟨⟨h.rd.wds.1.keptOff hS (n1 h.rd.wtag.1 (by decide) (by decide)), h.rd.wds.2.1.keptOff hS (n1 h.rd.wtag.2 (by decide) (by decide)), h.rd.wds.2.2⟩, ⟨h.rd.wtag.1.kept hS (n1 h.rd.wtag.1 (by decide) (by decide)), h.rd.wtag.2.kept hS (n1 h.rd.wtag.2 (by decide) (by decide))⟩, ?_, fun t ht => ?_, fun t ht p hp => ?_⟩, ?_⟩
  · rw [Go.heap_setCell_same w1 lb 5 _ _ _ hrow1]; rfl
  · exact .inr ⟨g, off, cap, rfl, hR.kept hks (fun e => hlb e.symm)⟩
  · exact RowAt.kept (h.rd.each t (hin t ht)) hS (n1 (h.rd.stt (hin t ht)) (by decide) (by decide))
  · have h0 := h.rd.sents t (hin t ht) p hp
    exact ⟨h0.1.kept hS (n1 h0.2 (by decide) (by decide)), h0.2.kept hS (n1 h0.2 (by decide) (by decide))⟩
  · have hap := h.apart
    rw [List.map_append, List.pairwise_append] at hap
    exact hap.1
end
/-- What a log's end leaves. -/
def EndQ (w : World) (lb : Nat) (v : Wv) (W : Wd) (every : Int) (sv : Value) (ss : List Sth) (len : Int) (st : Sta) (stuck : Bool) (p : Nat) (w' : World) : Prop :=
  ∃ j s sv' v', ss[j]? = some s ∧ p ≤ total (ss.take (j + 1)) ∧ (total (ss.take j) < p ∨ j = 0) ∧ LogX w' lb v W every sv' (ss.take j ++ [⟨s.kept, v', s.L.take (p - total (ss.take j))⟩]) len st stuck ∧ KeptOff (LOwn lb sv ss) w w' ∧ (∀ k, sv'.ownBlock = some k → sv.ownBlock = some k) ∧ ∀ k, v'.ownBlock = some k → s.v.ownBlock = some k
/-- Ahead of a round of a log's end. -/
def EndI (w : World) (lb : Nat) (v : Wv) (W : Wd) (every : Int) (g off cap : Nat) (ss : List Sth) (len : Int) (st : Sta) (stuck : Bool) (p j : Nat) (wr : World) : Prop :=
  LogX wr lb v W every (.slice (some ⟨g, off, none⟩) (j + 1) cap) (ss.take (j + 1)) len st stuck ∧ KeptOff (LOwn lb (.slice (some ⟨g, off, none⟩) ss.length cap) ss) w wr ∧ p ≤ total (ss.take (j + 1)) ∧ j < ss.length
theorem splice_take (xs ys : List Value) (p : Nat) (hp : p ≤ xs.length) : (splice xs p ys).take p = xs.take p := by
  unfold splice
  rw [List.take_append_of_le_length (by rw [List.length_take]; omega), List.take_take, Nat.min_self]
theorem sliced_front (g off j cap s : Nat) : sliced (some ⟨g, off, none⟩) 0 j cap s = .slice (some ⟨g, off, none⟩) j cap := by
  simp [Go.sliced, Addr.add]
theorem sizeTh (w : World) : (sizeOf (Tryz.prog.elem 69)).run Tryz.prog w = .ok 11 w := by kernel_rfl
theorem undTh : Tryz.prog.underlying 69 = some (.slice (Tryz.prog.elem 69)) := by kernel_rfl
theorem EndI.fin {w wr : World} {lb : Nat} {v : Wv} {W : Wd} {every : Int} {g off cap : Nat} {ss : List Sth} {len : Int} {st : Sta} {stuck : Bool} {p j c : Nat} {s : Sth} {a : Option Addr} (h : EndI w lb v W every g off cap ss len st stuck p j wr) (hs : ss[j]? = some s) (hv : s.v = .slice a s.L.length c) {w6 : World} (hb : Below wr.heap.size wr w6) (hstop : total (ss.take j) < p ∨ j = 0) :
    EndQ w lb v W every (.slice (some ⟨g, off, none⟩) ss.length cap) ss len st stuck p (w6.setCell ⟨g, off + j * 11 + 10, none⟩ (.slice a (p - total (ss.take j)) (p - total (ss.take j)))) := by
  obtain ⟨h1, h2, h3, h4⟩ := h
  have hX := h1.below hb
  have hl : (ss.take j).length = j := by rw [List.length_take]; omega
  have ht : ss.take (j + 1) = ss.take j ++ [s] := by rw [List.take_add_one, hs]; rfl
  rw [ht] at hX
  have hpL : p - total (ss.take j) ≤ s.L.length := by have := total_take_succ hs; omega
  have hX2 := LogX.lastEnd (pre := ss.take j) (s := s) (p := p - total (ss.take j)) (by rw [hl]; exact hX) hv hpL
  rw [hl] at hX2
  refine ⟨j, s, _, _, hs, h3, hstop, hX2, ?_, fun k e => by simpa [Value.ownBlock] using e, fun k e => by rw [hv, own_same a s.L.length c (p - total (ss.take j)) (p - total (ss.take j))]; exact e⟩
  exact (h2.trans (.of_below hb)).trans ((KeptOff.set w6 ⟨g, off + j * 11 + 10, none⟩ _).mono (fun k _ e => .inr (.inl (by simp only at e; rw [e]; rfl))))
set_option maxHeartbeats 16000000 in
theorem lgEnd_any {w : World} {lb p : Nat} {v : Wv} {W : Wd} {every len : Int} {sv : Value} {ss : List Sth} {st : Sta} {stuck : Bool} {m : M} (hX : LogX w lb v W every sv ss len st stuck) (h0 : 0 < ss.length) (hn : ss.length < 16384) (hL : ∀ S ∈ ss, S.L.length < 16384) (hpa : PartA W m ss p) :
    Calls Tryz.prog 36 #[.pointer (some ⟨lb, 0, none⟩), m.val] w fun e w' => e = .returned (.tuple #[]) ∧ Hid (EndQ w lb v W every sv ss len st stuck p w') := by
  have mixed := mixed
  obtain ⟨g, off, cap, rfl⟩ := hX.form h0
  have hb0 := Lib.hid ((Below.refl _ w).alloc (Nat.le_refl _) (.cells m.cells 42))
  have hB0 := Lib.hid (heap_alloc_new w (.cells m.cells 42))
  have hcap : ss.length ≤ cap := by
    rcases hX.rd.abv with ⟨e, _⟩ | ⟨g', off', cap', e, hr⟩
    · cases e
    · simp at e
      obtain ⟨⟨rfl, rfl⟩, rfl⟩ := e
      exact hr.bounds.1
  have hst : Hid (EndI w lb v W every g off cap ss len st stuck p (ss.length - 1) (w.alloc (.cells m.cells 42))) := Lib.hid ⟨by
    rw [show ss.length - 1 + 1 = ss.length by omega, List.take_length]
    exact hX.below hb0.out, .of_below hb0.out, by rw [show ss.length - 1 + 1 = ss.length by omega, List.take_length]; exact hpa.1, by omega⟩
  have hwl := hX.lt
  have hpa' := Lib.hid hpa
  have hmv : m.val = .agg m.cells := rfl
  rw [hmv]
  have hcc : (Value.agg m.cells).cells = m.cells := rfl
  have hmm : m.cells = (encMs m).toArray := rfl
  have hmm' := Lib.hid hmm
  have hMC : ∃ MC, m.cells = MC := ⟨_, rfl⟩
  obtain ⟨MC, hMC⟩ := hMC
  rw [hMC] at hb0 hB0 hst hcc hmm' ⊢
  have hoffB : Hid (∀ k, LOwn lb (.slice (some ⟨g, off, none⟩) ss.length cap) ss k → k < w.heap.size) := Lib.hid (fun k hk => by
    rcases hk with rfl | hk | ⟨s, hs, hk⟩
    · exact hX.lt
    · exact hX.rd.svt.lt k hk
    · exact (hX.rd.stt hs).lt k hk)
  clear hX hpa hmv hmm hMC
  go_enter Tryz.func36, Tryz.ntmps36
  go_wp2_with fail
  generalize w.alloc (.cells MC 42) = w0 at *
  go_loopg [4] ss.length (fun kx u4 wr => ∃ j, j + 1 ≤ kx ∧ Hid (EndI w lb v W every g off cap ss len st stuck p j wr ∧ wr.heap[w.heap.size]? = some (.cells MC 42 (0, 0))))
  case atStart => exact ⟨ss.length - 1, by omega, hst.out, hB0.out⟩
  case round =>
    clear hst
    obtain ⟨j, hjk, hIB⟩ := hrel
    have hI := Lib.hid hIB.out.1
    have hBm := Lib.hid hIB.out.2
    clear hIB
    have hj := hI.out.2.2.2
    have hpt := hI.out.2.2.1
    obtain ⟨s, hs0⟩ : ∃ s, ss[j]? = some s := ⟨_, List.getElem?_eq_getElem hj⟩
    have hs := Lib.hid hs0
    have hsm := List.mem_of_getElem? hs0
    have htk : ss.take (j + 1) = ss.take j ++ [s] := by rw [List.take_add_one, hs0]; rfl
    have htl : (ss.take (j + 1)).length = j + 1 := by rw [List.length_take]; omega
    have hgt : (ss.take (j + 1))[j]? = some s := by rw [List.getElem?_take_of_lt (by omega)]; exact hs0
    have hst1 : s ∈ ss.take (j + 1) := List.mem_of_getElem? hgt
    obtain ⟨va, vc, hva, hvc⟩ := RowAt.shape (hI.out.1.rd.each s hst1)
    have hnil : va = none ∨ ∃ b o, va = some ⟨b, o, none⟩ := by
      rcases hI.out.1.rd.each s hst1 with ⟨e, _⟩ | ⟨g1, o1, c1, e, _⟩
      · rw [hva] at e; simp at e; exact .inl e.1
      · rw [hva] at e; simp at e; exact .inr ⟨g1, o1, e.1⟩
    have hsl := hL s hsm
    have hpL : p - total (ss.take j) ≤ s.L.length := by have := total_take_succ hs0; omega
    have hlast : Hid (∀ w', Below wr.heap.size wr w' → Calls Tryz.prog 46 #[.pointer (some ⟨lb, 0, none⟩)] w' fun e w2 => e = .returned (.pointer (some ⟨g, off + j * 11, none⟩)) ∧ Read w' w2) := Lib.hid (fun w' h => lgLast_any (hI.out.1.below h).c5 (by omega))
    have hmr : Hid (∀ w', Below wr.heap.size wr w' → w'.rangeAt w.heap.size 0 (encMs m)) := Lib.hid (fun w' h => by
      have h1 := (h.block _ (Array.getElem?_eq_some_iff.1 hBm.out).1).trans hBm.out
      rw [hmm'.out] at h1
      exact range_block h1)
    have hXT : ∃ XT, encT s = XT := ⟨_, rfl⟩
    obtain ⟨XT, hXT0⟩ := hXT
    have hlx : XT.length = 11 := by rw [← hXT0]; rfl
    have hxr : Hid (∀ w', Below wr.heap.size wr w' → w'.rangeAt g (off + j * 11) XT) := Lib.hid (fun w' h => by
      rw [← hXT0]
      exact (hI.out.1.below h).rd.abv.range (by rw [htl]) hgt)
    have hplace : Hid (∀ w', Below wr.heap.size wr w' → Calls Tryz.prog 53 #[.agg XT.toArray, .agg (encMs m).toArray] w' fun e w2 => e = .returned (.int .i64 ((p - total (ss.take j) : Nat) : Int)) ∧ Below w'.heap.size w' w2) := Lib.hid (fun w' h => by
      rw [← hXT0]
      exact spPlace_any ((hI.out.1.below h).rd.each s hst1) hsl (hpa'.out.at hs0 hpt))
    have hce : Hid (∀ w', Below wr.heap.size wr w' → w'.cell? ⟨g, off + j * 11 + 10, none⟩ = some (.slice va s.L.length vc) ∧ w'.frozen? ⟨g, off + j * 11 + 10, none⟩ = false) := Lib.hid (fun w' h => by
      have hx := hI.out.1.below h
      rcases hx.rd.abv with ⟨e, _⟩ | ⟨g', off', cap', e, hr⟩
      · cases e
      · simp at e
        obtain ⟨⟨rfl, rfl⟩, _, rfl⟩ := e
        have h1 := hr.cell (j := j * 11 + 10) (u := s.v) (by rw [flatOf_get encT_length _ j 10 s hgt (by omega)]; rfl)
        rw [← Nat.add_assoc, hva] at h1
        exact ⟨h1, hr.fz _⟩)
    have hlm : (encMs m).length = 7 := rfl
    have hfinE : Hid (∀ w6, Below wr.heap.size wr w6 → (total (ss.take j) < p ∨ j = 0) → EndQ w lb v W every (.slice (some ⟨g, off, none⟩) ss.length cap) ss len st stuck p (w6.setCell ⟨g, off + j * 11 + 10, none⟩ (.slice va (p - total (ss.take j)) (p - total (ss.take j))))) := Lib.hid (fun w6 h h1 => hI.out.fin hs.out hva h h1)
    have hX7 : Hid (∀ w6, Below wr.heap.size wr w6 → LogX (w6.setCell ⟨g, off + j * 11 + 10, none⟩ (.slice va (p - total (ss.take j)) (p - total (ss.take j)))) lb v W every (.slice (some ⟨g, off, none⟩) (j + 1) cap) (ss.take j ++ [⟨s.kept, .slice va (p - total (ss.take j)) (p - total (ss.take j)), s.L.take (p - total (ss.take j))⟩]) len st stuck) := Lib.hid (fun w6 h => by
      have hl : (ss.take j).length = j := by rw [List.length_take]; omega
      have h1 := hI.out.1.below h
      rw [htk] at h1
      have h2 := LogX.lastEnd (pre := ss.take j) (s := s) (p := p - total (ss.take j)) (by rw [hl]; exact h1) hva hpL
      rwa [hl] at h2)
    obtain ⟨pS, hpS0⟩ : ∃ pS, p - total (ss.take j) = pS := ⟨_, rfl⟩
    rw [hpS0] at hplace hpL hfinE hX7
    have hpS := Lib.hid hpS0
    have hva' := Lib.hid hva
    clear hpS0 hs0 hXT0 htk htl hgt hst1 hva
    go_upto_region 1 with (fail)
    refine wp_region_held_drew (S := fun w' => Below wr.heap.size wr w') (by kernel_rfl) (Below.refl _ wr).drew (fun hHeld => ?_)
    clear hHeld
    have hHd : Below wr.heap.size wr wr.drew := (Below.refl _ wr).drew
    refine wpAnyH_take (i := 0) (oi := { dst := some 5, op := Op.move (Operand.tmp 0), type := 28, pos := "log.go:170", after := #[], guard := none }) (v := ?vv0_1) rfl (by kernel_rfl) (by kernel_rfl) (by kernel_rfl) (fun _ _ _ h => h) (Or.inl ⟨by rfl, ?hy0_1⟩) hHd ?rest0_1
    case hy0_1 =>
      intro w hSw
      go_simp
      try with_reducible rfl
    try simp only [Act.put, List.setIfInBounds_toArray, List.set_cons_zero, List.set_cons_succ]
    refine wpAnyH_take (i := 4) (oi := { dst := some 9, op := Op.load 42 (Operand.tmp 3), type := 42, pos := "log.go:170", after := #[], guard := none }) (v := .agg ((encMs m)).toArray) rfl (by kernel_rfl) (by kernel_rfl) (by kernel_rfl) (fun _ _ _ h => h) (yieldsIf_load_mid (by rfl) 42 (.tmp 3) (by rfl) w.heap.size 0 (by rfl) ((encMs m)) _ (fun w' h => hmr.out w' h) Tryz.underlying42 rfl (by rw [hlm]; exact infoMe)) hHd ?_
    try simp only [Act.put, List.setIfInBounds_toArray, List.set_cons_zero, List.set_cons_succ]
    refine wpAnyH_ready (rs := [1]) (by kernel_rfl) (by simp) ?_
    refine AllReadyH.cons (o := { dst := some 6, op := Op.call { callee := Callee.value (Operand.func 46), args := #[Operand.tmp 5], argTypes := #[28] }, type := 97, pos := "log.go:170", after := #[{ on := 0, ground := Ground.data }], guard := none }) rfl (fun K hK => ?_) AllReadyH.nil
    go_simp
    refine (hlast.out _ hHd).mono ?_
    rintro e w3 ⟨rfl, hr3⟩
    have hHw := hHd.trans (hr3.below.mono hHd.size)
    refine hK.out _ _ hHw (fun hHeld => ?_)
    clear hHeld hK K
    try simp only [Act.put, List.setIfInBounds_toArray, List.set_cons_zero, List.set_cons_succ]
    refine wpAnyH_take (i := 2) (oi := { dst := some 7, op := Op.nilCheck (Operand.tmp 6), type := 0, pos := "log.go:170", after := #[{ on := 1, ground := Ground.data }], guard := none }) (v := ?vv2_2) rfl (by kernel_rfl) (by kernel_rfl) (by kernel_rfl) (fun _ _ _ h => h) (Or.inl ⟨by rfl, ?hy2_2⟩) hHw ?rest2_2
    case hy2_2 =>
      intro w hSw
      go_simp
      try with_reducible rfl
    try simp only [Act.put, List.setIfInBounds_toArray, List.set_cons_zero, List.set_cons_succ]
    refine wpAnyH_take (i := 3) (oi := { dst := some 8, op := Op.load 68 (Operand.tmp 7), type := 68, pos := "log.go:170", after := #[{ on := 2, ground := Ground.data }], guard := none }) (v := .agg (XT).toArray) rfl (by kernel_rfl) (by kernel_rfl) (by kernel_rfl) (fun _ _ _ h => h) (yieldsIf_load_mid (by rfl) 68 (.tmp 7) (by rfl) g (off + j * 11) (by rfl) (XT) _ (fun w' h => hxr.out w' h) Tryz.underlying68 rfl (by rw [hlx]; exact infoTh11)) hHw ?_
    try simp only [Act.put, List.setIfInBounds_toArray, List.set_cons_zero, List.set_cons_succ]
    refine wpAnyH_ready (rs := [5]) (by kernel_rfl) (by simp) ?_
    refine AllReadyH.cons (o := { dst := some 10, op := Op.call { callee := Callee.value (Operand.func 53), args := #[Operand.tmp 8, Operand.tmp 9], argTypes := #[97, 42] }, type := 3, pos := "log.go:170", after := #[{ on := 3, ground := Ground.data }, { on := 4, ground := Ground.data }, { on := 1, ground := Ground.chain }], guard := none }) rfl (fun K hK => ?_) AllReadyH.nil
    go_simp
    refine (hplace.out _ hHw).mono ?_
    rintro e w4 ⟨rfl, hb4⟩
    have hHx := hHw.trans (hb4.mono hHw.size)
    refine hK.out _ _ hHx (fun hHeld => ?_)
    clear hHeld hK K
    try simp only [Act.put, List.setIfInBounds_toArray, List.set_cons_zero, List.set_cons_succ]
    refine wpAnyH_take (i := 6) (oi := { dst := some 4, op := Op.assign (Operand.tmp 10), type := 3, pos := "log.go:170", after := #[{ on := 5, ground := Ground.data }, { on := 5, ground := Ground.chain }, { on := 0, ground := Ground.phase }, { on := 1, ground := Ground.phase }, { on := 2, ground := Ground.phase }, { on := 3, ground := Ground.phase }, { on := 4, ground := Ground.phase }, { on := 5, ground := Ground.phase }], guard := none }) (v := ?vv6_3) rfl (by kernel_rfl) (by kernel_rfl) (by kernel_rfl) (fun _ _ _ h => h) (Or.inl ⟨by rfl, ?hy6_3⟩) hHx ?rest6_3
    case hy6_3 =>
      intro w hSw
      go_simp
      try with_reducible rfl
    try simp only [Act.put, List.setIfInBounds_toArray, List.set_cons_zero, List.set_cons_succ]
    refine wpAnyH_done (by kernel_rfl) ?_ _
    have hB4 := Lib.hid hHx
    have hlast4 := hlast.out _ hHx
    have hend : Hid (∀ w', Below wr.heap.size wr w' → Calls Tryz.prog 55 #[.pointer (some ⟨g, off + j * 11, none⟩), .int .i64 (pS : Int)] w' fun e w2 => e = .returned (.tuple #[]) ∧ w2 = w'.setCell ⟨g, off + j * 11 + 10, none⟩ (.slice va pS pS)) := Lib.hid (fun w' h => spEnd_any (hce.out w' h).1 (hce.out w' h).2 hpL hvc hnil)
    clear hHx hHw hHd hr3 hb4 hmr hxr hplace hce
    go_wp2_with fail
    refine hlast4.mono ?_
    rintro e w5 ⟨rfl, hr5⟩
    have hB5 := Lib.hid (hB4.out.trans (hr5.below.mono hB4.out.size))
    have hend5 := hend.out _ hB5.out
    clear hlast4 hr5 hend
    go_wp2_with fail
    refine hend5.mono ?_
    rintro e w6 ⟨rfl, hw6⟩
    have hf7 := Lib.hid (hfinE.out _ hB5.out)
    have hX7' := Lib.hid (hX7.out _ hB5.out)
    rw [← hw6] at hf7 hX7'
    have hk6 : Hid (KeptOff (fun k => k = g) w5 w6) := Lib.hid (by rw [hw6]; exact KeptOff.set w5 ⟨g, off + j * 11 + 10, none⟩ (.slice va pS pS))
    clear hend5 hw6 hfinE hX7
    rcases Nat.eq_zero_or_pos pS with hp0 | hp0
    · rcases Nat.eq_zero_or_pos j with hj0 | hj0
      · subst hp0
        subst hj0
        have c5 := hX7'.out.c5
        have hfin := Lib.hid (hf7.out (.inr rfl))
        clear hX7' hf7 hk6
        go_wp2
        (try simp only [Exit.inBlock, Exit.then])
        refine bodyPost_ret (results_none rfl _ _ _) rfl ?_
        exact ⟨rfl, hfin⟩
      · subst hp0
        have c5 := hX7'.out.c5
        have hne : (((j + 1 : Nat) : Int) == 1) = false := by simp; omega
        have hne2 : ¬ ((j : Int) + 1 = 1) := by omega
        have hlast7 := lgLast_any c5 (by omega)
        clear hf7
        go_wp2_with fail
        refine hlast7.mono ?_
        rintro e w8 ⟨rfl, hr8⟩
        have hX8 := Lib.hid (hX7'.out.below hr8.below)
        have hrow8 : Hid (RowIn w8 68 11 g off (j + 1) cap ((ss.take j ++ [(⟨s.kept, .slice va 0 0, s.L.take 0⟩ : Sth)]).flatMap encT)) := Lib.hid (by
          have hll : (ss.take j ++ [(⟨s.kept, .slice va 0 0, s.L.take 0⟩ : Sth)]).length = j + 1 := by simp; omega
          rcases hX8.out.rd.abv with ⟨e, _⟩ | ⟨g', off', cap', e, hr⟩
          · cases e
          · simp at e
            obtain ⟨⟨rfl, rfl⟩, _, rfl⟩ := e
            rwa [hll] at hr)
        have hc5k : Hid (∀ w9, KeptOff (fun k => k = g) w8 w9 → w9.cell? ⟨lb, 5, none⟩ = some (.slice (some ⟨g, off, none⟩) (j + 1) cap) ∧ w9.frozen? ⟨lb, 5, none⟩ = false) := Lib.hid (fun w9 h => by
          have hlbg : lb ≠ g := fun e => hX8.out.rd.svt.ne (logt hX8.out.row) (by decide) g rfl (e ▸ own_lb lb)
          have := (h.block lb hX8.out.lt hlbg).trans hX8.out.row
          exact ⟨row_cell this 5 rfl, frozen_of_cells this⟩)
        clear hlast7 c5
        go_upto_region 5 with (refine wpList_store_in rfl 68 (.tmp 28) (.tmp 27) rfl hrow8.out (.agg z11) j (off + j * 11) rfl rfl rfl infoTh11 rfl (by simp [z11, Value.cells, Value.oneCell']) (by omega) ?_; intro w9 hr9 hk9)
        obtain ⟨c5, f5⟩ := hc5k.out w9 hk9.out
        have a1 : IntKind.i64.wrap (((j + 1 : Nat) : Int) - 1) = (j : Int) := by rw [IntWalk.i64_in _ (by omega)]; omega
        have a1c : IntKind.i64.wrap (j : Int) = (j : Int) := IntWalk.i64_in _ (by omega)
        have a1b : IntKind.i64.wrap ((j : Int) + 1 - 1) = (j : Int) := by rw [IntWalk.i64_in _ (by omega)]; omega
        refine wp_region_Z (fun w' => w'.cell? ⟨lb, 5, none⟩ = some (.slice (some ⟨g, off, none⟩) (j + 1) cap)) 14 (by kernel_rfl) ?_
        have hHd : w9.drew.cell? ⟨lb, 5, none⟩ = some (.slice (some ⟨g, off, none⟩) (j + 1) cap) := c5
        refine wpAnyZ_take (i := 0) (oi := { dst := some 29, op := Op.move (Operand.tmp 0), type := 28, pos := "log.go:176", after := #[], guard := none }) (v := ?zv0_1) rfl (by kernel_rfl) (by kernel_rfl) (by kernel_rfl) (fun _ _ _ h => h) (by decide) (Or.inl ⟨by rfl, ?zy0_1⟩) (fun _ => hHd) ?zrest0_1
        case zy0_1 =>
          intro w _
          go_simp
          try with_reducible rfl
        try simp only [Act.put, List.setIfInBounds_toArray, List.set_cons_zero, List.set_cons_succ]
        refine wpAnyZ_take (i := 1) (oi := { dst := some 30, op := Op.move (Operand.tmp 0), type := 28, pos := "log.go:176", after := #[], guard := none }) (v := ?zv1_2) rfl (by kernel_rfl) (by kernel_rfl) (by kernel_rfl) (fun _ _ _ h => h) (by decide) (Or.inl ⟨by rfl, ?zy1_2⟩) (fun _ => hHd) ?zrest1_2
        case zy1_2 =>
          intro w _
          go_simp
          try with_reducible rfl
        try simp only [Act.put, List.setIfInBounds_toArray, List.set_cons_zero, List.set_cons_succ]
        refine wpAnyZ_take (i := 5) (oi := { dst := some 34, op := Op.move (Operand.tmp 0), type := 28, pos := "log.go:176", after := #[], guard := none }) (v := ?zv5_3) rfl (by kernel_rfl) (by kernel_rfl) (by kernel_rfl) (fun _ _ _ h => h) (by decide) (Or.inl ⟨by rfl, ?zy5_3⟩) (fun _ => hHd) ?zrest5_3
        case zy5_3 =>
          intro w _
          go_simp
          try with_reducible rfl
        try simp only [Act.put, List.setIfInBounds_toArray, List.set_cons_zero, List.set_cons_succ]
        refine wpAnyZ_take (i := 2) (oi := { dst := some 31, op := Op.nilCheck (Operand.tmp 30), type := 0, pos := "log.go:176", after := #[{ on := 1, ground := Ground.data }], guard := none }) (v := ?zv2_4) rfl (by kernel_rfl) (by kernel_rfl) (by kernel_rfl) (fun _ _ _ h => h) (by decide) (Or.inl ⟨by rfl, ?zy2_4⟩) (fun _ => hHd) ?zrest2_4
        case zy2_4 =>
          intro w _
          go_simp
          try with_reducible rfl
        try simp only [Act.put, List.setIfInBounds_toArray, List.set_cons_zero, List.set_cons_succ]
        refine wpAnyZ_take (i := 3) (oi := { dst := some 32, op := Op.fieldAddr 71 (Operand.tmp 31) 2, type := 0, pos := "log.go:176", after := #[{ on := 2, ground := Ground.data }], guard := none }) (v := ?zv3_5) rfl (by kernel_rfl) (by kernel_rfl) (by kernel_rfl) (fun _ _ _ h => h) (by decide) (Or.inl ⟨by rfl, ?zy3_5⟩) (fun _ => hHd) ?zrest3_5
        case zy3_5 =>
          intro w _
          go_simp
          try with_reducible rfl
        try simp only [Act.put, List.setIfInBounds_toArray, List.set_cons_zero, List.set_cons_succ]
        refine wpAnyZ_take (i := 6) (oi := { dst := some 35, op := Op.nilCheck (Operand.tmp 34), type := 0, pos := "log.go:176", after := #[{ on := 5, ground := Ground.data }], guard := none }) (v := ?zv6_6) rfl (by kernel_rfl) (by kernel_rfl) (by kernel_rfl) (fun _ _ _ h => h) (by decide) (Or.inl ⟨by rfl, ?zy6_6⟩) (fun _ => hHd) ?zrest6_6
        case zy6_6 =>
          intro w _
          go_simp
          try with_reducible rfl
        try simp only [Act.put, List.setIfInBounds_toArray, List.set_cons_zero, List.set_cons_succ]
        refine wpAnyZ_take (i := 7) (oi := { dst := some 36, op := Op.fieldAddr 71 (Operand.tmp 35) 2, type := 0, pos := "log.go:176", after := #[{ on := 6, ground := Ground.data }], guard := none }) (v := ?zv7_7) rfl (by kernel_rfl) (by kernel_rfl) (by kernel_rfl) (fun _ _ _ h => h) (by decide) (Or.inl ⟨by rfl, ?zy7_7⟩) (fun _ => hHd) ?zrest7_7
        case zy7_7 =>
          intro w _
          go_simp
          try with_reducible rfl
        try simp only [Act.put, List.setIfInBounds_toArray, List.set_cons_zero, List.set_cons_succ]
        refine wpAnyZ_load (i := 4) (oi := { dst := some 33, op := Op.load 69 (Operand.tmp 32), type := 69, pos := "log.go:176", after := #[{ on := 3, ground := Ground.data }], guard := none }) (v := ?zv4_8) rfl (by kernel_rfl) (by kernel_rfl) (by kernel_rfl) (fun _ _ _ h => h) (by decide) (by kernel_rfl) (by kernel_rfl) (Or.inl ⟨by rfl, ?zy4_8⟩) hHd ?zrest4_8
        case zy4_8 =>
          intro w hSw
          have c := hSw
          go_simp
          try with_reducible rfl
        try simp only [Act.put, List.setIfInBounds_toArray, List.set_cons_zero, List.set_cons_succ]
        refine wpAnyZ_load (i := 8) (oi := { dst := some 37, op := Op.load 69 (Operand.tmp 36), type := 69, pos := "log.go:176", after := #[{ on := 7, ground := Ground.data }], guard := none }) (v := ?zv8_9) rfl (by kernel_rfl) (by kernel_rfl) (by kernel_rfl) (fun _ _ _ h => h) (by decide) (by kernel_rfl) (by kernel_rfl) (Or.inl ⟨by rfl, ?zy8_9⟩) hHd ?zrest8_9
        case zy8_9 =>
          intro w hSw
          have c := hSw
          go_simp
          try with_reducible rfl
        try simp only [Act.put, List.setIfInBounds_toArray, List.set_cons_zero, List.set_cons_succ]
        refine wpAnyZ_take (i := 9) (oi := { dst := some 38, op := Op.call { callee := Callee.builtin Builtin.len, args := #[Operand.tmp 37], argTypes := #[69] }, type := 3, pos := "log.go:176", after := #[{ on := 8, ground := Ground.data }], guard := none }) (v := ?zv9_10) rfl (by kernel_rfl) (by kernel_rfl) (by kernel_rfl) (fun _ _ _ h => h) (by decide) (Or.inl ⟨by rfl, ?zy9_10⟩) (fun _ => hHd) ?zrest9_10
        case zy9_10 =>
          intro w _
          go_simp
          try with_reducible rfl
        try simp only [Act.put, List.setIfInBounds_toArray, List.set_cons_zero, List.set_cons_succ]
        refine wpAnyZ_take (i := 10) (oi := { dst := some 39, op := Op.binOp BinOp.sub 3 (Operand.tmp 38) (Operand.const (Value.int IntKind.i64 1)) 3, type := 3, pos := "log.go:176", after := #[{ on := 9, ground := Ground.data }], guard := none }) (v := ?zv10_11) rfl (by kernel_rfl) (by kernel_rfl) (by kernel_rfl) (fun _ _ _ h => h) (by decide) (Or.inl ⟨by rfl, ?zy10_11⟩) (fun _ => hHd) ?zrest10_11
        case zy10_11 =>
          intro w _
          go_simp
          try with_reducible rfl
        try simp only [Act.put, List.setIfInBounds_toArray, List.set_cons_zero, List.set_cons_succ]
        refine wpAnyZ_take (i := 11) (oi := { dst := some 40, op := Op.slice 69 (Operand.tmp 33) none (some (Operand.tmp 39)) none, type := 69, pos := "log.go:176", after := #[{ on := 4, ground := Ground.data }, { on := 10, ground := Ground.data }], guard := none }) (v := (.slice (some ⟨g, off, none⟩) j cap)) rfl (by kernel_rfl) (by kernel_rfl) (by kernel_rfl) (fun _ _ _ h => h) (by decide) (Or.inl ⟨by rfl, fun w' _ => by rw [← sliced_front g off j cap 11]; exact exec_slice_h rfl undTh (sizeTh w') rfl rfl (by omega)⟩) (fun _ => hHd) ?_
        try simp only [Act.put, List.setIfInBounds_toArray, List.set_cons_zero, List.set_cons_succ]
        refine wpAnyZ_take (i := 12) (oi := { dst := some 41, op := Op.nilCheck (Operand.tmp 29), type := 0, pos := "log.go:176", after := #[{ on := 0, ground := Ground.data }, { on := 0, ground := Ground.phase }, { on := 1, ground := Ground.phase }, { on := 2, ground := Ground.phase }, { on := 3, ground := Ground.phase }, { on := 4, ground := Ground.phase }, { on := 5, ground := Ground.phase }, { on := 6, ground := Ground.phase }, { on := 7, ground := Ground.phase }, { on := 8, ground := Ground.phase }, { on := 9, ground := Ground.phase }, { on := 10, ground := Ground.phase }, { on := 11, ground := Ground.phase }], guard := none }) (v := ?zv12_12) rfl (by kernel_rfl) (by kernel_rfl) (by kernel_rfl) (fun _ _ _ h => h) (by decide) (Or.inl ⟨by rfl, ?zy12_12⟩) (fun _ => hHd) ?zrest12_12
        case zy12_12 =>
          intro w _
          go_simp
          try with_reducible rfl
        try simp only [Act.put, List.setIfInBounds_toArray, List.set_cons_zero, List.set_cons_succ]
        refine wpAnyZ_take (i := 13) (oi := { dst := some 42, op := Op.fieldAddr 71 (Operand.tmp 41) 2, type := 0, pos := "log.go:176", after := #[{ on := 12, ground := Ground.data }, { on := 0, ground := Ground.phase }, { on := 1, ground := Ground.phase }, { on := 2, ground := Ground.phase }, { on := 3, ground := Ground.phase }, { on := 4, ground := Ground.phase }, { on := 5, ground := Ground.phase }, { on := 6, ground := Ground.phase }, { on := 7, ground := Ground.phase }, { on := 8, ground := Ground.phase }, { on := 9, ground := Ground.phase }, { on := 10, ground := Ground.phase }, { on := 11, ground := Ground.phase }], guard := none }) (v := ?zv13_13) rfl (by kernel_rfl) (by kernel_rfl) (by kernel_rfl) (fun _ _ _ h => h) (by decide) (Or.inl ⟨by rfl, ?zy13_13⟩) (fun _ => hHd) ?zrest13_13
        case zy13_13 =>
          intro w _
          go_simp
          try with_reducible rfl
        try simp only [Act.put, List.setIfInBounds_toArray, List.set_cons_zero, List.set_cons_succ]
        refine wpAnyZ_ready (rs := [14]) (by kernel_rfl) (by simp) ?_
        refine AllReadyZ.cons (o := { dst := none, op := Op.store 69 (Operand.tmp 42) (Operand.tmp 40), type := 0, pos := "log.go:176", after := #[{ on := 13, ground := Ground.data }, { on := 11, ground := Ground.data }, { on := 0, ground := Ground.phase }, { on := 1, ground := Ground.phase }, { on := 2, ground := Ground.phase }, { on := 3, ground := Ground.phase }, { on := 4, ground := Ground.phase }, { on := 5, ground := Ground.phase }, { on := 6, ground := Ground.phase }, { on := 7, ground := Ground.phase }, { on := 8, ground := Ground.phase }, { on := 9, ground := Ground.phase }, { on := 10, ground := Ground.phase }, { on := 11, ground := Ground.phase }], guard := none }) rfl (fun K hK => ?_) AllReadyZ.nil
        go_simp
        refine hK.out _ _ (fun h => absurd h (by decide)) ?_
        clear hK K
        try simp only [Act.put, List.setIfInBounds_toArray, List.set_cons_zero, List.set_cons_succ]
        refine wpAnyZ_done (by kernel_rfl) ?_ _
        have hnx : Hid (LogX (w9.drew.setCell ⟨lb, 5, none⟩ (.slice (some ⟨g, off, none⟩) j cap)) lb v W every (.slice (some ⟨g, off, none⟩) j cap) (ss.take j) len st stuck ∧ KeptOff (LOwn lb (.slice (some ⟨g, off, none⟩) ss.length cap) ss) w (w9.drew.setCell ⟨lb, 5, none⟩ (.slice (some ⟨g, off, none⟩) j cap))) := Lib.hid (by
          have hl : (ss.take j).length = j := by rw [List.length_take]; omega
          have hR9 : RowIn w9 68 11 g off j cap ((ss.take j).flatMap encT) := by
            have h1 := hr9.out.part 0 j (by omega)
            simp only [Nat.zero_mul, Nat.add_zero, List.drop_zero, Nat.sub_zero] at h1
            have h2 : ((ss.take j ++ [(⟨s.kept, .slice va 0 0, s.L.take 0⟩ : Sth)]).flatMap encT).length = (j + 1) * 11 := by rw [flatOf_length encT_length]; simp; omega
            have h3 : ((ss.take j).flatMap encT).length = j * 11 := by rw [flatOf_length encT_length, hl]
            rw [splice_take _ _ _ (by omega), List.flatMap_append, List.take_left' h3] at h1
            exact h1
          have hkd : KeptOff (fun k => k = g) w8 w9.drew := hk9.out.trans ⟨rfl, rfl, rfl, Nat.le_refl _, fun _ _ _ => rfl⟩
          have h4 := LogX.lastGone (pre := ss.take j) (w1 := w9.drew) (by rw [hl]; exact hX8.out) (by rw [hl]; exact hR9.block rfl) hkd
          rw [hl] at h4
          refine ⟨h4, ?_⟩
          have h5 := hI.out.2.1.trans (.of_below hB5.out)
          have h6 := h5.trans (hk6.out.mono (fun k _ e => .inr (.inl (by rw [e]; rfl))))
          have h7 := (h6.trans (.of_below hr8.below)).trans (hkd.mono (fun k _ e => .inr (.inl (by rw [e]; rfl))))
          exact h7.trans ((KeptOff.set w9.drew ⟨lb, 5, none⟩ _).mono (fun k _ e => .inl e)))
        have hbx : Hid ((w9.drew.setCell ⟨lb, 5, none⟩ (.slice (some ⟨g, off, none⟩) j cap)).heap[w.heap.size]? = some (.cells MC 42 (0, 0))) := Lib.hid (by
          have hgl : g < w.heap.size := hoffB.out g (.inr (.inl rfl))
          have h5 : KeptOff (fun k => k = g ∨ k = lb) wr w5 := .of_below hB5.out
          have h6 := (h5.trans (hk6.out.mono (fun k _ e => .inl e))).trans (.of_below hr8.below)
          have hkd : KeptOff (fun k => k = g) w8 w9.drew := hk9.out.trans ⟨rfl, rfl, rfl, Nat.le_refl _, fun _ _ _ => rfl⟩
          have h7 := (h6.trans (hkd.mono (fun k _ e => .inl e))).trans ((KeptOff.set w9.drew ⟨lb, 5, none⟩ (.slice (some ⟨g, off, none⟩) j cap)).mono (fun k _ e => .inr e))
          exact (h7.block _ (Array.getElem?_eq_some_iff.1 hBm.out).1 (fun e => by omega)).trans hBm.out)
        obtain ⟨i, rfl⟩ : ∃ i, j = i + 1 := ⟨j - 1, by omega⟩
        have hEI : Hid (EndI w lb v W every g off cap ss len st stuck p i (w9.drew.setCell ⟨lb, 5, none⟩ (.slice (some ⟨g, off, none⟩) (i + 1) cap)) ∧ (w9.drew.setCell ⟨lb, 5, none⟩ (.slice (some ⟨g, off, none⟩) (i + 1) cap)).heap[w.heap.size]? = some (.cells MC 42 (0, 0))) := Lib.hid ⟨⟨hnx.out.1, hnx.out.2, by have := hpS.out; omega, by omega⟩, hbx.out⟩
        clear hnx hbx hr9 hk9 c5 f5 hX8 hrow8 hc5k hr8
        go_wp2
        go_roundg (i + 1)
        case measure => omega
        case rel => exact ⟨i, by omega, hEI⟩
    · have hp01 : (0 : Int) < (pS : Int) := by omega
      have hfin := Lib.hid (hf7.out (.inl (by have := hpS.out; omega)))
      clear hX7' hf7 hk6
      go_wp2
      (try simp only [Exit.inBlock, Exit.then])
      refine bodyPost_ret (results_none rfl _ _ _) rfl ?_
      exact ⟨rfl, hfin⟩
end Go.Proofs.YtminfmjgmmkaoaaGreatDoor
namespace Go.Proofs.YtminfmjgmmkaoaaGreatDoor
open Go.ChangeShapes Go.WideShapes Go.ChangeAt Go.Shelf Go.RowKit Go.Lib Go.Sort Go.Deep
set_option linter.unusedVariables false
set_option maxRecDepth 4000
set_option linter.unusedSimpArgs false

/-! The list so far, where another block changes in between. -/
def trunc (w : World) (N : Nat) : World := { w with heap := w.heap.extract 0 N }
theorem trunc_size (w : World) {N : Nat} (h : N ≤ w.heap.size) : (trunc w N).heap.size = N := by simp [trunc, h]
theorem trunc_below (w : World) {N : Nat} (h : N ≤ w.heap.size) : Below N (trunc w N) w := by
  refine ⟨rfl, rfl, rfl, by rw [trunc_size w h]; exact h, fun k hk => ?_⟩
  simp [trunc, Array.getElem?_extract, hk]
  omega
/-- The list so far, in its box; all its blocks are N or behind. -/
def CollN (N bx : Nat) (Z : Nat → Prop) (pre : List En) (X : World) : Prop :=
  ∃ (v : Value) (L : List (En × Value)), ListIs pre L ∧ X.heap[bx]? = some (.cells #[v] 47 (0, 0)) ∧ EntsAt X v L ∧ N ≤ X.heap.size ∧ N ≤ bx ∧ ¬ Z bx ∧ (∀ k, EOwn v L k → ¬ Z k ∧ N ≤ k) ∧ ∀ k, Z k → N ≤ k
theorem CollN.steps (N bx : Nat) : StepsOn (CollN N bx) := by
  rintro Z Z' s X Y ⟨v, L, h1, h2, h3, h4, h5, h6, h7, h8⟩ hk hz
  have hlt := (Array.getElem?_eq_some_iff.1 h2).1
  refine ⟨v, L, h1, (hk.block bx hlt h6).trans h2, h3.kept hk (fun k e => (h7 k e).1), Nat.le_trans h4 hk.size, h5, fun e => ?_, fun k e => ⟨fun e' => ?_, (h7 k e).2⟩, fun k e => ?_⟩
  · rcases hz bx e with e | e
    · exact h6 e
    · omega
  · rcases hz k e' with e' | e'
    · exact (h7 k e).1 e'
    · have := h3.lt k e; omega
  · rcases hz k e with e | e
    · exact h8 k e
    · omega
theorem CollN.more {N bx : Nat} {Wb w4 : World} {Z G : Nat → Prop} {pre : List En} {x : En} {v : Value} {L : List (En × Value)} {ea : Option Addr} {ec g2 off2 cap2 : Nat} (h1 : ListIs pre L) (h2 : Wb.heap[bx]? = some (.cells #[v] 47 (0, 0))) (h3 : EntsAt Wb v L) (h4 : N ≤ Wb.heap.size) (h5 : N ≤ bx) (h6 : ¬ Z bx)
    (h7 : ∀ k, EOwn v L k → ¬ Z k ∧ N ≤ k) (h8 : ∀ k, Z k → N ≤ k) (hZ : ∀ k, Z k → k < Wb.heap.size) (hM : Mgs Wb ea x.sent.length ec x.sent) (hT : TagV Wb 42 (.slice ea x.sent.length ec)) (hG : ∀ k, (Value.slice ea x.sent.length ec).ownBlock = some k → G k) (hGZ : ∀ k, G k → Z k)
    (hR : RowIn w4 44 19 g2 off2 (L.length + 1) cap2 (L.flatMap encE ++ encE (x, .slice ea x.sent.length ec))) (hk : KeptOff (fun k => v.ownBlock = some k) Wb w4) (hn : v.ownBlock = some g2 ∨ Wb.heap.size ≤ g2) :
    CollN N bx (fun k => Z k ∧ ¬ G k) (pre ++ [x]) (w4.setCell ⟨bx, 0, none⟩ (.slice (some ⟨g2, off2, none⟩) (L.length + 1) cap2)) := by
  have hs := trunc_size Wb h4
  have hm := CollI.more (B := trunc Wb N) h1 h2 h3 (by rw [hs]; exact trunc_below Wb h4) (by rw [hs]; exact h5) h6 (by rw [hs]; exact h7) (by rw [hs]; exact h8) hZ hM hT hG hGZ hR hk hn
  obtain ⟨v', L', a1, a2, a3, a4, a5, a6, a7, a8⟩ := hm
  rw [hs] at a5 a7 a8
  exact ⟨v', L', a1, a2, a3, by simpa using Nat.le_trans h4 hk.size, a5, a6, a7, a8⟩
/-- What is written is of another type than a list's blocks. -/
theorem CollN.other {N bx : Nat} {S : Nat → Prop} {X Y : World} {Z : Nat → Prop} {pre : List En} {e : TypeId} (h : CollN N bx Z pre X) (hk : KeptOff S X Y) (hS : ∀ k, S k → ∃ cur, X.heap[k]? = some (.cells cur e (0, 0))) (h1 : e ≠ 47) (h2 : e ≠ 44) (h3 : e ≠ 42) : CollN N bx Z pre Y := by
  obtain ⟨v, L, a1, a2, a3, a4, a5, a6, a7, a8⟩ := h
  refine ⟨v, L, a1, (hk.block bx (Array.getElem?_eq_some_iff.1 a2).1 (fun e0 => ?_)).trans a2, a3.kept hk (fun k e0 e1 => ?_), Nat.le_trans a4 hk.size, a5, a6, a7, a8⟩
  · obtain ⟨cur, h0⟩ := hS bx e0
    rw [a2] at h0
    simp at h0
    exact h1 h0.2.symm
  · obtain ⟨cur, h0⟩ := hS k e1
    rcases e0 with e0 | ⟨y, hy, e0⟩
    · obtain ⟨c2, h4⟩ := RowAt.tag a3.1 e0
      rw [h4] at h0
      simp at h0
      exact h2 h0.2.symm
    · obtain ⟨c2, h4⟩ := (a3.2 y hy).2 k e0
      rw [h4] at h0
      simp at h0
      exact h3 h0.2.symm
/-- The state and the mark behind what is taken back so far. -/
def backSt (st : Sta) (pre : List En) : Sta := (pre.getLast?.map En.bf).getD st
def backStuck (stuck : Bool) (pre : List En) : Bool := stuck && pre.all fun e => e.fl == 0
theorem backSt_snoc (st : Sta) (pre : List En) (x : En) : backSt st (pre ++ [x]) = x.bf := by simp [backSt]
theorem backStuck_snoc (stuck : Bool) (pre : List En) (x : En) : backStuck stuck (pre ++ [x]) = (backStuck stuck pre && (x.fl == 0)) := by simp [backStuck, Bool.and_assoc]
/-- Blocks that stay as they are. -/
def Stay (Bx : List (Nat × Obj)) (Z : Nat → Prop) (X : World) : Prop := ∀ q ∈ Bx, X.heap[q.1]? = some q.2 ∧ ¬ Z q.1
theorem Stay.step {Bx : List (Nat × Obj)} {Z Z' : Nat → Prop} {X Y : World} (h : Stay Bx Z X) (hk : KeptOff Z X Y) (hz : ∀ k, Z' k → Z k ∨ X.heap.size ≤ k) : Stay Bx Z' Y := fun q hq => by
  obtain ⟨h1, h2⟩ := h q hq
  have hl := (Array.getElem?_eq_some_iff.1 h1).1
  refine ⟨(hk.block _ hl h2).trans h1, fun e => ?_⟩
  rcases hz _ e with e | e
  · exact h2 e
  · omega
/-- Ahead of a round of Back's loop. -/
def BackI (w : World) (lb bx : Nat) (Bx : List (Nat × Obj)) (v : Wv) (W : Wd) (every : Int) (sv : Value) (len : Int) (st : Sta) (stuck : Bool) (Z : Nat → Prop) (pre : List En) (X : World) : Prop :=
  CollN w.heap.size bx Z pre X ∧ X.heap[lb]? = some (.cells (logC v W every sv len (backSt st pre) (backStuck stuck pre)) 71 (0, 0)) ∧ KeptOff (fun k => k = lb) w X ∧ lb < w.heap.size ∧ Stay Bx Z X
theorem BackI.steps (w : World) (lb bx : Nat) (Bx : List (Nat × Obj)) (v : Wv) (W : Wd) (every : Int) (sv : Value) (len : Int) (st : Sta) (stuck : Bool) : StepsOn (BackI w lb bx Bx v W every sv len st stuck) := by
  rintro Z Z' s X Y ⟨h1, h2, h3, h4, h5⟩ hk hz
  have hZ : ∀ k, Z k → w.heap.size ≤ k := by obtain ⟨v, L, a1, a2, a3, a4, a5, a6, a7, a8⟩ := h1; exact a8
  have hl := (Array.getElem?_eq_some_iff.1 h2).1
  exact ⟨CollN.steps _ _ Z Z' s X Y h1 hk hz, (hk.block lb hl (fun e => by have := hZ lb e; omega)).trans h2, h3.then_new hk (fun k hk' e => by have := hZ k e; omega), h4, h5.step hk hz⟩
theorem told_take (W : Wd) : ∀ (L : List Stp) (s : Sta) (q : Nat), told W s (L.take q) = (told W s L).take q
  | _, s, 0 => by simp [told]
  | [], s, q + 1 => by simp [told]
  | p :: L, s, q + 1 => by simp [told, told_take W L]
theorem toldAll_cut {W : Wd} {ss : List Sth} {j p : Nat} {s : Sth} {v' : Value} (h : ss[j]? = some s) (h1 : total (ss.take j) ≤ p ∨ j = 0) (h2 : p ≤ total (ss.take (j + 1))) : toldAll W (ss.take j ++ [⟨s.kept, v', s.L.take (p - total (ss.take j))⟩]) = (toldAll W ss).take p := by
  rw [total_take_succ h] at h2
  have h1 : total (ss.take j) ≤ p := by
    rcases h1 with h1 | rfl
    · exact h1
    · simp [total]
  conv => rhs; rw [toldAll_split h, List.take_append, toldAll_length]
  have e1 : (toldAll W (ss.take j)).take p = toldAll W (ss.take j) := List.take_of_length_le (by rw [toldAll_length]; exact h1)
  have e2 : (told W s.kept s.L ++ toldAll W (ss.drop (j + 1))).take (p - total (ss.take j)) = told W s.kept (s.L.take (p - total (ss.take j))) := by rw [List.take_append_of_le_length (by rw [told_length]; omega), ← told_take]
  rw [e1, e2, toldAll_append]
  simp [toldAll]
theorem chain_cut {W : Wd} : ∀ {ss : List Sth} {j : Nat} {s : Sth} {st : Sta} {v' : Value} {q : Nat}, Chain W ss st → ss[j]? = some s → Chain W (ss.take j ++ [⟨s.kept, v', s.L.take q⟩]) (stAt W s.kept s.L q)
  | [], j, s, st, v', q, _, h => by simp at h
  | a :: r, 0, s, st, v', q, hc, h => by
    simp at h
    subst h
    exact rfl
  | [a], j + 1, s, st, v', q, hc, h => by simp at h
  | a :: t :: r, 1, s, st, v', q, hc, h => by
    simp at h
    subst h
    exact ⟨hc.1, rfl⟩
  | a :: t :: r, j + 2, s, st, v', q, hc, h => by
    have h1 := chain_cut (j := j + 1) (v' := v') (q := q) hc.2 (by simpa using h)
    have h2 : ((t :: r).take (j + 1) ++ [(⟨s.kept, v', s.L.take q⟩ : Sth)]) = t :: (r.take j ++ [⟨s.kept, v', s.L.take q⟩]) := rfl
    rw [h2] at h1
    exact ⟨hc.1, h1⟩
theorem chain_next {W : Wd} : ∀ {ss : List Sth} {j : Nat} {s t : Sth} {st : Sta}, Chain W ss st → ss[j]? = some s → ss[j + 1]? = some t → behind W s.kept s.L = t.kept
  | [], j, s, t, st, _, h, _ => by simp at h
  | [a], j, s, t, st, _, _, h => by simp at h
  | a :: b :: r, 0, s, t, st, hc, h, h' => by
    simp at h h'
    subst h; subst h'
    exact hc.1
  | a :: b :: r, j + 1, s, t, st, hc, h, h' => chain_next (ss := b :: r) (j := j) hc.2 (by simpa using h) (by simpa using h')
theorem chain_last {W : Wd} : ∀ {ss : List Sth} {j : Nat} {s : Sth} {st : Sta}, Chain W ss st → ss[j]? = some s → ss.length = j + 1 → behind W s.kept s.L = st
  | [], j, s, st, _, h, _ => by simp at h
  | [a], 0, s, st, hc, h, _ => by
    simp at h
    subst h
    exact hc
  | [a], j + 1, s, st, hc, h, _ => by simp at h
  | a :: b :: r, 0, s, st, hc, h, hl => by simp at hl
  | a :: b :: r, j + 1, s, st, hc, h, hl => chain_last (ss := b :: r) (j := j) hc.2 (by simpa using h) (by simpa using hl)
theorem getLast_rev_drop {α : Type} (T : List α) (p : Nat) : ((T.drop p).reverse).getLast? = T[p]? := by
  rw [List.getLast?_reverse, List.head?_drop]
/-- The state behind what is left is the one that Back leaves. -/
theorem back_state {W : Wd} {ss : List Sth} {j p : Nat} {s : Sth} {st : Sta} (hc : Chain W ss st) (hf : ∀ t ∈ ss, t.L = [] → ss.length = 1) (h : ss[j]? = some s) (h1 : total (ss.take j) ≤ p) (h2 : p ≤ total (ss.take (j + 1))) : stAt W s.kept s.L (p - total (ss.take j)) = backSt st ((toldAll W ss).drop p).reverse := by
  have h2' := h2
  rw [total_take_succ h] at h2'
  have hj := (List.getElem?_eq_some_iff.1 h).1
  unfold backSt
  rw [getLast_rev_drop]
  by_cases hq : p - total (ss.take j) < s.L.length
  · have h3 := told_at (W := W) h (List.getElem?_eq_getElem hq)
    rw [show total (ss.take j) + (p - total (ss.take j)) = p by omega] at h3
    rw [h3]
    rfl
  · have hq' : p - total (ss.take j) = s.L.length := by omega
    have hp : p = total (ss.take (j + 1)) := by rw [total_take_succ h]; omega
    rw [hq', stAt, List.take_length]
    by_cases hl : j + 1 < ss.length
    · obtain ⟨t, ht⟩ : ∃ t, ss[j + 1]? = some t := ⟨_, List.getElem?_eq_getElem hl⟩
      have htL : 0 < t.L.length := List.length_pos_iff.2 (fun e => by have := hf t (List.mem_of_getElem? ht) e; omega)
      have h3 := told_at (W := W) ht (List.getElem?_eq_getElem htL)
      rw [Nat.add_zero, ← hp] at h3
      rw [h3]
      exact chain_next hc h ht
    · have hn : ss.length = j + 1 := by omega
      have : (toldAll W ss)[p]? = none := by
        rw [List.getElem?_eq_none]
        rw [toldAll_length, hp, ← hn, List.take_length]
        exact Nat.le_refl _
      rw [this]
      exact chain_last hc h hn
/-- What Back leaves. -/
def BackQ (b w : World) (lb : Nat) (v : Wv) (W : Wd) (every : Int) (sv : Value) (ss : List Sth) (st : Sta) (stuck : Bool) (c p : Nat) (a : Option Addr) (cc : Nat) (w' : World) : Prop :=
  (∃ L, L.map Prod.fst = ((toldAll W ss).drop p).reverse ∧ EntsAt w' (.slice a (total ss - p) cc) L ∧ ∀ k, EOwn (.slice a (total ss - p) cc) L k → w.heap.size ≤ k) ∧ KeptOff (LOwn lb sv ss) w w' ∧
  ∃ sv' ss', LogIs b w' lb v W every sv' ss' (backSt st ((toldAll W ss).drop p).reverse) (backStuck stuck ((toldAll W ss).drop p).reverse) (c + c) ∧ toldAll W ss' = (toldAll W ss).take p ∧ ∀ k, LOwn lb sv' ss' k → LOwn lb sv ss k
/-- A log behind its end. -/
theorem LogIs.ended {b w w' : World} {lb c p : Nat} {v : Wv} {W : Wd} {every : Int} {sv sv' v' : Value} {ss : List Sth} {st : Sta} {stuck stuck' : Bool} {j : Nat} {s : Sth} (h : LogIs b w lb v W every sv ss st stuck c) (hs : ss[j]? = some s) (h2 : p ≤ total (ss.take (j + 1))) (h1 : total (ss.take j) < p ∨ j = 0)
    (hX : LogX w' lb v W every sv' (ss.take j ++ [⟨s.kept, v', s.L.take (p - total (ss.take j))⟩]) (p : Int) (backSt st ((toldAll W ss).drop p).reverse) stuck') (hk : KeptOff (LOwn lb sv ss) w w') (h4 : ∀ k, sv'.ownBlock = some k → sv.ownBlock = some k) (h5 : ∀ k, v'.ownBlock = some k → s.v.ownBlock = some k) :
    ∃ ss', LogIs b w' lb v W every sv' ss' (backSt st ((toldAll W ss).drop p).reverse) stuck' (c + c) ∧ toldAll W ss' = (toldAll W ss).take p ∧ ∀ k, LOwn lb sv' ss' k → LOwn lb sv ss k := by
  have hsm := List.mem_of_getElem? hs
  have hj := (List.getElem?_eq_some_iff.1 hs).1
  have h0 : total (ss.take j) ≤ p := by
    rcases h1 with h1 | rfl
    · omega
    · simp [total]
  have hin : ∀ t ∈ ss.take j, t ∈ ss := fun t ht => List.mem_of_mem_take ht
  have htold := toldAll_cut (W := W) (v' := v') hs (.inl h0) h2
  have hle : p ≤ total ss := by
    have e : total ss = total (ss.take (j + 1)) + total (ss.drop (j + 1)) := by rw [← total_append, List.take_append_drop]
    omega
  have htot : total (ss.take j ++ [⟨s.kept, v', s.L.take (p - total (ss.take j))⟩]) = p := by
    have := congrArg List.length htold
    rw [toldAll_length, List.length_take, toldAll_length] at this
    omega
  have hown : ∀ k, LOwn lb sv' (ss.take j ++ [⟨s.kept, v', s.L.take (p - total (ss.take j))⟩]) k → LOwn lb sv ss k := fun k e => by
    rcases e with e | e | ⟨t, ht, e⟩
    · exact .inl e
    · exact .inr (.inl (h4 k e))
    · rcases List.mem_append.1 ht with ht | ht
      · exact .inr (.inr ⟨t, hin t ht, e⟩)
      · obtain rfl := List.mem_singleton.1 ht
        exact .inr (.inr ⟨s, hsm, h5 k e⟩)
  have hst := back_state h.chain h.full hs h0 h2
  have hsa := h.sAt hsm (p - total (ss.take j))
  rw [hst] at hsa
  refine ⟨_, ⟨hX.of h.of.every (by simp) (by rw [htot]), by rw [← hst]; exact chain_cut h.chain hs, fun t ht hL => ?_, fun k e => h.own k (hown k e), fun t ht q hq => ?_, fun t ht => ?_, h.base.trans (hk.below (fun k _ e => h.own k e) h.base.size), hsa, ?_⟩, htold, hown⟩
  · have hlen : (ss.take j ++ [(⟨s.kept, v', s.L.take (p - total (ss.take j))⟩ : Sth)]).length = j + 1 := by simp; omega
    rw [hlen]
    rcases List.mem_append.1 ht with ht | ht
    · have := h.full t (hin t ht) hL
      have hj0 : j = 0 := by omega
      rw [hj0] at ht
      simp at ht
    · obtain rfl := List.mem_singleton.1 ht
      simp only at hL
      rcases Nat.eq_zero_or_pos s.L.length with h6 | h6
      · have := h.full s hsm (List.eq_nil_of_length_eq_zero h6)
        omega
      · have h7 := congrArg List.length hL
        rw [List.length_take, List.length_nil] at h7
        rcases h1 with h1 | rfl
        · omega
        · rfl
  · rcases List.mem_append.1 ht with ht | ht
    · exact h.sent t (hin t ht) q hq
    · obtain rfl := List.mem_singleton.1 ht
      exact h.sent s hsm q (List.mem_of_mem_take hq)
  · rcases List.mem_append.1 ht with ht | ht
    · exact ⟨(h.kept t (hin t ht)).1, (h.kept t (hin t ht)).2.mono (by omega)⟩
    · obtain rfl := List.mem_singleton.1 ht
      exact ⟨(h.kept s hsm).1, (h.kept s hsm).2.mono (by omega)⟩
  · rw [htot]
    have := h.cnt
    omega
end Go.Proofs.YtminfmjgmmkaoaaGreatDoor
