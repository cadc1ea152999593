/-
  A log's Drop, in plain data.
  A log's Drop, walked.
-/
import Derived.Test.YtminfmjgmmkaoaaGreatDoorIR
namespace Go.Proofs.YtminfmjgmmkaoaaGreatDoor
open Go.ChangeShapes Go.WideShapes Go.ChangeAt Go.Shelf Go.RowKit Go.Lib Go.Sort Go.Deep
set_option linter.unusedVariables false
set_option maxRecDepth 4000
set_option linter.unusedSimpArgs false

/-- How many entries are earlier than t. -/
def dropN (T : List En) (t : Int) : Nat := (T.takeWhile fun e => decide (e.ev.k.t < t)).length
theorem takeWhile_all {α : Type} {p : α → Bool} : ∀ {l : List α}, (∀ a ∈ l, p a = true) → l.takeWhile p = l
  | [], _ => rfl
  | a :: l, h => by rw [List.takeWhile_cons, if_pos (h a (List.mem_cons_self ..)), takeWhile_all (fun b hb => h b (List.mem_cons_of_mem _ hb))]
theorem dropN_done {T : List En} {t : Int} (h : ∀ e ∈ T, e.ev.k.t < t) : dropN T t = T.length := by
  unfold dropN
  rw [takeWhile_all (fun e he => decide_eq_true (h e he))]
theorem dropN_le (T : List En) (t : Int) : dropN T t ≤ T.length := List.Sublist.length_le (List.takeWhile_sublist _)
theorem dropN_stop {T pre : List En} {x : En} {t : Int} (hp : pre ++ [x] <+: T) (h : ∀ e ∈ pre, e.ev.k.t < t) (hx : t ≤ x.ev.k.t) : dropN T t = pre.length ∧ T[pre.length]? = some x ∧ T.take pre.length = pre := by
  obtain ⟨r, hr⟩ := hp
  subst hr
  have h1 : pre.takeWhile (fun e => decide (e.ev.k.t < t)) = pre := takeWhile_all (fun e he => decide_eq_true (h e he))
  refine ⟨?_, by simp, by simp⟩
  unfold dropN
  rw [List.append_assoc, List.takeWhile_append, h1, if_pos rfl]
  simp [List.takeWhile_cons, hx]
/-- A store into what is no row of cells. -/
theorem RowIn.keptNo {S : Nat → Prop} {w w' : World} {e : TypeId} {sz g off n cap : Nat} {xs : List Value} (h : RowIn w e sz g off n cap xs) (hk : KeptOff S w w') (hS : ∀ k, S k → ∀ cur ty fr, w.heap[k]? ≠ some (.cells cur ty fr)) : RowIn w' e sz g off n cap xs := h.kept hk (fun e0 => by
  obtain ⟨cur, h0, _⟩ := h
  exact hS g e0 cur e (0, 0) h0)
theorem TagV.no {S : Nat → Prop} {w : World} {e : TypeId} {v : Value} (h : TagV w e v) (hS : ∀ k, S k → ∀ cur ty fr, w.heap[k]? ≠ some (.cells cur ty fr)) : ∀ k, v.ownBlock = some k → ¬ S k := fun k e0 e1 => by
  obtain ⟨cur, h0⟩ := h k e0
  exact hS k e1 cur e (0, 0) h0
theorem LogX.keptNo {S : Nat → Prop} {w w' : World} {lb : Nat} {v : Wv} {W : Wd} {every len : Int} {sv : Value} {ss : List Sth} {st : Sta} {stuck : Bool} (h : LogX w lb v W every sv ss len st stuck) (hk : KeptOff S w w') (hS : ∀ k, S k → ∀ cur ty fr, w.heap[k]? ≠ some (.cells cur ty fr)) : LogX w' lb v W every sv ss len st stuck :=
  ⟨(hk.block lb h.lt ((logt h.row).no hS lb (own_lb lb))).trans h.row, h.rd.kept hk (h.rd.wtag.1.no hS) (h.rd.wtag.2.no hS) (h.rd.svt.no hS) (fun s hs => (h.rd.stt hs).no hS) (fun s hs p hp => (h.rd.sents s hs p hp).2.no hS), h.apart⟩
theorem LogIs.keptNo {S : Nat → Prop} {b w w' : World} {lb c : Nat} {v : Wv} {W : Wd} {every : Int} {sv : Value} {ss : List Sth} {st : Sta} {stuck : Bool} (h : LogIs b w lb v W every sv ss st stuck c) (hk : KeptOff S w w') (hS : ∀ k, S k → ∀ cur ty fr, w.heap[k]? ≠ some (.cells cur ty fr)) (hSb : ∀ k, S k → b.heap.size ≤ k) : LogIs b w' lb v W every sv ss st stuck c :=
  ⟨(h.of.x.keptNo hk hS).of h.of.every h.of.pos rfl, h.chain, h.full, h.own, h.sent, h.kept, h.base.trans (hk.below (fun k _ e => hSb k e) h.base.size), h.stok, h.cnt⟩
theorem EntsAt.keptNo {S : Nat → Prop} {w w' : World} {v : Value} {L : List (En × Value)} (h : EntsAt w v L) (hk : KeptOff S w w') (hS : ∀ k, S k → ∀ cur ty fr, w.heap[k]? ≠ some (.cells cur ty fr)) : EntsAt w' v L := h.kept hk (fun k e => by
  rcases e with e | ⟨y, hy, e⟩
  · exact TagV.no (e := 44) (fun k hk => RowAt.tag h.1 hk) hS k e
  · exact (h.2 y hy).2.no hS k e)
theorem StaBd.mono {c c' : Nat} {s : Sta} (h : StaBd c s) (hc : c ≤ c') : StaBd c' s := by
  obtain ⟨a1, a2, a3, a4⟩ := h
  refine ⟨a1, ?_, a3, ?_⟩ <;> omega
theorem StaBd.behind {W : Wd} : ∀ {L : List Stp} {c : Nat} {s : Sta}, StaBd c s → StaOk s → (∀ p ∈ L, In64 p.ev.v) → StaBd (c + L.length) (behind W s L)
  | [], c, s, h, _, _ => h
  | p :: L, c, s, h, ho, hv => by
    have h1 := StaBd.behind (W := W) (L := L) (h.step (W := W) (m := p.ev) ho.len) (runW_ok ho (hv p (List.mem_cons_self ..))) (fun q hq => hv q (List.mem_cons_of_mem _ hq))
    exact h1.mono (by simp only [List.length_cons]; omega)
theorem LogIs.sAt {b w : World} {lb c : Nat} {v : Wv} {W : Wd} {every : Int} {sv : Value} {ss : List Sth} {st : Sta} {stuck : Bool} (h : LogIs b w lb v W every sv ss st stuck c) {s : Sth} (hs : s ∈ ss) (m : Nat) : StaOk (stAt W s.kept s.L m) ∧ StaBd (c + c) (stAt W s.kept s.L m) := by
  have hv : ∀ p ∈ s.L.take m, In64 p.ev.v := fun p hp => (h.sent s hs p (List.mem_of_mem_take hp)).2.2
  refine ⟨behind_ok _ _ (h.kept s hs).1 hv, ((h.kept s hs).2.behind (h.kept s hs).1 hv).mono ?_⟩
  have h1 := L_le_total hs
  have h2 := h.cnt
  have h3 : (s.L.take m).length ≤ s.L.length := by rw [List.length_take]; omega
  omega
/-- What is left of a log behind its begin. -/
theorem LogIs.begun {b w w' : World} {lb c : Nat} {v : Wv} {W : Wd} {every : Int} {sv : Value} {ss : List Sth} {st base : Sta} {stuck : Bool} {n : Nat} (h : LogIs b w lb v W every sv ss st stuck c) (hn : n ≤ total ss) (hb : (∃ e, (toldAll W ss)[n]? = some e ∧ base = e.bf) ∨ (n = total ss ∧ base = st)) (hq : BegQ w lb v W every sv ss (total ss) st stuck n base w') :
    ∃ sv' ss', LogIs b w' lb v W every sv' ss' st stuck (c + c) ∧ toldAll W ss' = (toldAll W ss).drop n ∧ KeptOff (LOwn lb sv ss) w w' ∧ ∀ k, LOwn lb sv' ss' k → LOwn lb sv ss k := by
  have hp := h.of.pos
  have hne : ss ≠ [] := fun e => by rw [e] at hp; cases hp
  obtain ⟨s, r, h1, h2, h3, h4, h5⟩ := drop_base hne hn h.chain hb
  obtain ⟨s0, r0, hw1, hw2, _, _, hw5, _, _, _⟩ := wholeN_spec (W := W) hne hn h.chain
  obtain ⟨s', r', sv', v', q1, q2, q3, q4, q5⟩ := hq
  obtain ⟨rfl, rfl⟩ : s' = s ∧ r' = r := by rw [h1] at q1; simpa using q1.symm
  obtain ⟨rfl, rfl⟩ : s0 = s' ∧ r0 = r' := by rw [h1] at hw1; simpa using hw1.symm
  obtain ⟨g1, g2⟩ := h5 v'
  have hin : ∀ t ∈ s0 :: r0, t ∈ ss := fun t ht => List.mem_of_mem_drop (by rw [h1]; exact ht)
  have hs := hin s0 (List.mem_cons_self ..)
  have hr : ∀ t ∈ r0, t ∈ ss := fun t ht => hin t (List.mem_cons_of_mem _ ht)
  have htot : total (⟨base, v', s0.L.drop (wholeN ss n).2⟩ :: r0) = total ss - n := by
    have := congrArg List.length g1
    rwa [toldAll_length, List.length_drop, toldAll_length] at this
  have hown : ∀ k, LOwn lb sv' (⟨base, v', s0.L.drop (wholeN ss n).2⟩ :: r0) k → LOwn lb sv ss k := fun k e => by
    rcases e with e | e | ⟨t, ht, e⟩
    · exact .inl e
    · exact .inr (.inl (q4 k e))
    · rcases List.mem_cons.1 ht with rfl | ht
      · exact .inr (.inr ⟨s0, hs, q5 k e⟩)
      · exact .inr (.inr ⟨t, hr t ht, e⟩)
  have hsa := h.sAt hs (wholeN ss n).2
  refine ⟨sv', _, ⟨q2.of h.of.every (by simp) (by rw [htot]; omega), g2, fun t ht hL => ?_, fun k e => h.own k (hown k e), fun t ht p hp => ?_, fun t ht => ?_, h.base.trans (q3.below (fun k _ e => h.own k e) h.base.size), ⟨h.stok.1, h.stok.2.mono (by omega)⟩, ?_⟩, g1, q3, hown⟩
  · rcases List.mem_cons.1 ht with rfl | ht
    · have h0 := congrArg List.length hL
      simp only [List.length_drop, List.length_nil] at h0
      rw [hw5 (by omega)]
      rfl
    · have h0 := h.full t (hr t ht) hL
      have h6 := congrArg List.length h1
      rw [List.length_drop, List.length_cons] at h6
      have : r0 = [] := List.eq_nil_of_length_eq_zero (by omega)
      rw [this] at ht
      cases ht
  · rcases List.mem_cons.1 ht with rfl | ht
    · exact h.sent s0 hs p (List.mem_of_mem_drop hp)
    · exact h.sent t (hr t ht) p hp
  · rcases List.mem_cons.1 ht with rfl | ht
    · simp only
      rw [h4]
      exact hsa
    · exact ⟨(h.kept t (hr t ht)).1, (h.kept t (hr t ht)).2.mono (by omega)⟩
  · rw [htot]
    have := h.cnt
    omega
/-- What Drop leaves. -/
def DropQ (b w : World) (lb : Nat) (v : Wv) (W : Wd) (every : Int) (sv : Value) (ss : List Sth) (st : Sta) (stuck : Bool) (c n : Nat) (a : Option Addr) (cc : Nat) (w' : World) : Prop :=
  (∃ L, L.map Prod.fst = (toldAll W ss).take n ∧ EntsAt w' (.slice a n cc) L ∧ ∀ k, EOwn (.slice a n cc) L k → w.heap.size ≤ k) ∧ KeptOff (LOwn lb sv ss) w w' ∧
  ∃ sv' ss', LogIs b w' lb v W every sv' ss' st stuck (c + c) ∧ toldAll W ss' = (toldAll W ss).drop n ∧ ∀ k, LOwn lb sv' ss' k → LOwn lb sv ss k
end Go.Proofs.YtminfmjgmmkaoaaGreatDoor
namespace Go.Proofs.YtminfmjgmmkaoaaGreatDoor
open Go.ChangeShapes Go.WideShapes Go.ChangeAt Go.Shelf Go.RowKit Go.Lib Go.Sort Go.Deep
set_option linter.unusedVariables false
set_option maxRecDepth 4000
set_option linter.unusedSimpArgs false
attribute [local go_sem] Oper.semAt_some

/-- Ahead of a round of Drop's loop: the list so far, the state and the time in their boxes. -/
def DropI (B : World) (lb pb bx bb tb : Nat) (t : Int) (s : Sta) (Z : Nat → Prop) (pre : List En) (X : World) : Prop :=
  CollI B bx Z pre X ∧ (X.heap[pb]? = some (.cells #[.pointer (some ⟨lb, 0, none⟩)] 28 (0, 0)) ∧ ¬ Z pb) ∧ (X.heap[bb]? = some (.cells (encSt s).toArray 34 (0, 0)) ∧ X.heap[tb]? = some (.cells #[.int .i64 t] 2 (0, 0)) ∧ ¬ Z bb ∧ ¬ Z tb ∧ B.heap.size ≤ bb ∧ B.heap.size ≤ tb) ∧ ∀ e ∈ pre, e.ev.k.t < t
theorem DropI.steps (B : World) (lb pb bx bb tb : Nat) (t : Int) (s : Sta) : StepsOn (DropI B lb pb bx bb tb t s) := by
  rintro Z Z' pre X Y ⟨h1, ⟨g1, g2⟩, ⟨h2, h3, h4, h5, h6, h7⟩, h8⟩ hk hz
  have hl2 := (Array.getElem?_eq_some_iff.1 h2).1
  have hl3 := (Array.getElem?_eq_some_iff.1 h3).1
  have hlg := (Array.getElem?_eq_some_iff.1 g1).1
  refine ⟨CollI.steps B bx Z Z' pre X Y h1 hk hz, ⟨(hk.block pb hlg g2).trans g1, fun e => by
    rcases hz pb e with e | e
    · exact g2 e
    · omega⟩, ⟨(hk.block bb hl2 h4).trans h2, (hk.block tb hl3 h5).trans h3, fun e => ?_, fun e => ?_, h6, h7⟩, h8⟩
  · rcases hz bb e with e | e
    · exact h4 e
    · omega
  · rcases hz tb e with e | e
    · exact h5 e
    · omega
/-- How Drop's loop is left early. -/
def DropX (B : World) (lb pb bx bb tb : Nat) (t : Int) (c : Code) (Z : Nat → Prop) (pre : List En) (X : World) : Prop := c = .exit 0 ∧ ∃ p x, pre = p ++ [x] ∧ DropI B lb pb bx bb tb t x.bf Z p X ∧ t ≤ x.ev.k.t
theorem DropX.steps (B : World) (lb pb bx bb tb : Nat) (t : Int) (c : Code) : StepsOn (DropX B lb pb bx bb tb t c) := by
  rintro Z Z' pre X Y ⟨h0, p, x, h1, h2, h3⟩ hk hz
  exact ⟨h0, p, x, h1, DropI.steps B lb pb bx bb tb t x.bf Z Z' p X Y h2 hk hz, h3⟩
/-- What is written is of another type than a list's blocks. -/
theorem CollI.other {S : Nat → Prop} {B X Y : World} {bx : Nat} {Z : Nat → Prop} {pre : List En} {e : TypeId} (h : CollI B bx Z pre X) (hk : KeptOff S X Y) (hS : ∀ k, S k → B.heap.size ≤ k ∧ ∃ cur, X.heap[k]? = some (.cells cur e (0, 0))) (h1 : e ≠ 47) (h2 : e ≠ 44) (h3 : e ≠ 42) : CollI B bx Z pre Y := by
  obtain ⟨v, L, a1, a2, a3, a4, a5, a6, a7, a8⟩ := h
  refine ⟨v, L, a1, (hk.block bx (Array.getElem?_eq_some_iff.1 a2).1 (fun e0 => ?_)).trans a2, a3.kept hk (fun k e0 e1 => ?_), a4.trans (hk.below (fun k _ e0 => (hS k e0).1) a4.size), a5, a6, a7, a8⟩
  · obtain ⟨-, cur, h0⟩ := hS bx e0
    rw [a2] at h0
    simp at h0
    exact h1 h0.2.symm
  · obtain ⟨-, cur, h0⟩ := hS k e1
    rcases e0 with e0 | ⟨y, hy, e0⟩
    · obtain ⟨c2, h4⟩ := RowAt.tag a3.1 e0
      rw [h4] at h0
      simp at h0
      exact h2 h0.2.symm
    · obtain ⟨c2, h4⟩ := (a3.2 y hy).2 k e0
      rw [h4] at h0
      simp at h0
      exact h3 h0.2.symm
/-- What stands behind the loop. -/
def DropE (B : World) (lb pb bx bb tb : Nat) (t : Int) (T : List En) (st : Sta) (Z : Nat → Prop) (X : World) : Prop :=
  ∃ base, ((∃ e, T[dropN T t]? = some e ∧ base = e.bf) ∨ (dropN T t = T.length ∧ base = st)) ∧ DropI B lb pb bx bb tb t base Z (T.take (dropN T t)) X
theorem DropI.end_ {B X : World} {lb pb bx bb tb : Nat} {t : Int} {T : List En} {st : Sta} {Z : Nat → Prop} (h : DropI B lb pb bx bb tb t st Z T X) : DropE B lb pb bx bb tb t T st Z X := by
  have hn := dropN_done h.2.2.2
  exact ⟨st, .inr ⟨hn, rfl⟩, by rw [hn, List.take_length]; exact h⟩
theorem DropX.end_ {B X : World} {lb pb bx bb tb : Nat} {t : Int} {T pre : List En} {st : Sta} {Z : Nat → Prop} {c : Code} (h : DropX B lb pb bx bb tb t c Z pre X) (hp : pre <+: T) : DropE B lb pb bx bb tb t T st Z X := by
  obtain ⟨_, p, x, rfl, h1, h2⟩ := h
  obtain ⟨e1, e2, e3⟩ := dropN_stop hp h1.2.2.2 h2
  exact ⟨x.bf, .inl ⟨x, by rw [e1]; exact e2, rfl⟩, by rw [e1, e3]; exact h1⟩
theorem range_part {w : World} {g o : Nat} {cs : List Value} (h : w.rangeAt g o cs) (p m : Nat) : w.rangeAt g (o + p) ((cs.drop p).take m) := by
  intro j u hj
  have hl := (List.getElem?_eq_some_iff.1 hj).1
  rw [List.length_take] at hl
  rw [List.getElem?_take_of_lt (by omega), List.getElem?_drop] at hj
  rw [Nat.add_assoc]
  exact h _ u hj
set_option maxHeartbeats 16000000 in
theorem lgDrop_any {b w : World} {eb : Addr} (hE : ErrIs b eb) (hT : ErrT b) {lb c : Nat} {v0 : Wv} {W : Wd} {every : Int} {sv : Value} {ss : List Sth} {st : Sta} {stuck : Bool} (h : LogIs b w lb v0 W every sv ss st stuck c) (hc : c ≤ 1000) (t : Int) :
    Calls Tryz.prog 18 #[.pointer (some ⟨lb, 0, none⟩), .int .i64 t] w fun e w' => ∃ a cc, e = .returned (.slice a (dropN (toldAll W ss) t) cc) ∧ Hid (DropQ b w lb v0 W every sv ss st stuck c (dropN (toldAll W ss) t) a cc w') := by
  have mixed := mixed
  have hcnt := h.cnt
  have hnle : dropN (toldAll W ss) t ≤ total ss := by have := dropN_le (toldAll W ss) t; rwa [toldAll_length] at this
  obtain ⟨i0, hi0, hz0, hz1, hz2⟩ := info_parts infoEy
  obtain ⟨sa, sc, hsv, -⟩ := RowAt.shape h.of.rd.abv
  have hmd : Hid (∀ w', Below w.heap.size w w' → _) := Lib.hid (fun w' hb => lgMade_any (w := w') (lb := lb) (by rw [← hsv]; exact (h.of.x.below hb).c5) h.of.pos)
  have hrs : Hid (∀ w', Below w.heap.size w w' → w'.rangeAt lb 7 (encSt st)) := Lib.hid (fun w' hb => logC_state (h.of.x.below hb).row)
  have hb1 := Lib.hid ((Below.refl _ w).alloc (Nat.le_refl _) (.cells #[.int .i64 t] 2))
  have hb2 := Lib.hid (hb1.out.alloc (by simp) (.cells #[.slice none 0 0] 47))
  have hb3 := Lib.hid (hb2.out.alloc hb2.out.size (.cells z10 34))
  have hA3 := heap_alloc_new ((w.alloc (.cells #[.int .i64 t] 2)).alloc (.cells #[.slice none 0 0] 47)) (.cells z10 34)
  have hA2 := heap_alloc_new (w.alloc (.cells #[.int .i64 t] 2)) (.cells #[.slice none 0 0] 47)
  have hA1 := heap_alloc_new w (.cells #[.int .i64 t] 2)
  have hs1 : (w.alloc (.cells #[.int .i64 t] 2)).heap.size = w.heap.size + 1 := by simp
  have hs2 : ((w.alloc (.cells #[.int .i64 t] 2)).alloc (.cells #[.slice none 0 0] 47)).heap.size = w.heap.size + 1 + 1 := by simp
  have hA23 := ((Below.refl _ ((w.alloc (.cells #[.int .i64 t] 2)).alloc (.cells #[.slice none 0 0] 47))).alloc (Nat.le_refl _) (.cells z10 34))
  have hA12 := ((Below.refl _ (w.alloc (.cells #[.int .i64 t] 2))).alloc (Nat.le_refl _) (.cells #[.slice none 0 0] 47))
  have hbx3 := (hA23.block (w.heap.size + 1) (by omega)).trans (hs1 ▸ hA2)
  have htb3 := (hA23.block w.heap.size (by omega)).trans ((hA12.block w.heap.size (by omega)).trans hA1)
  rw [hs2] at hA3
  have hbx3' := Lib.hid hbx3
  have htb3' := Lib.hid htb3
  clear hA2 hA1 hs1 hs2 hA23 hA12 hbx3 htb3
  have hm1 := hmd.out _ hb1.out
  have hr2 := Lib.hid (hrs.out _ hb2.out)
  have hls : (encSt st).length = 10 := rfl
  have hcs : Hid ((encSt st).toArray.size = 10 ∧ (encSt st).toArray.all (·.oneCell') = true) := Lib.hid ⟨rfl, encSt_one st⟩
  have hcst : ∃ cst, encSt st = cst := ⟨_, rfl⟩
  obtain ⟨cst, hcst0⟩ := hcst
  rw [hcst0] at hr2 hls hcs
  have hcst := Lib.hid hcst0
  have h' := Lib.hid h
  simp only [z10] at hb3 hA3 hbx3' htb3'
  clear hcst0 hmd hrs hsv h
  refine (callsIn_wide (n := 6)).1 ?_
  refine callsIn_of_wp_marks Tryz.func18 rfl trivial (wpIn_mono (Q := noPanic (bodyPostM Fence.wide 6 Tryz.prog Tryz.f18 fun e w' => ∃ a cc, e = .returned (.slice a (dropN (toldAll W ss) t) cc) ∧ Hid (DropQ b w lb v0 W every sv ss st stuck c (dropN (toldAll W ss) t) a cc w'))) ?_ (noPanic_le _)) rfl
  simp only [Tryz.ntmps18, List.size_toArray, List.length_cons, List.length_nil, Nat.reduceAdd, Nat.reduceSub, Array.replicate_succ, Array.replicate_zero, List.push_toArray, List.append_toArray, List.nil_append, List.cons_append]
  refine wpIn_wide.2 ?_
  go_wp2_with (first
    | (go_at_call 32; refine hm1.mono ?_; rintro e w' ⟨rfl, rfl⟩)
    | (refine wpList_load_mid rfl 34 (.tmp 13) rfl lb 7 rfl cst _ hr2.out Tryz.underlying34 rfl (by rw [hls]; exact infoS10) ?_)
    | (refine wpList_store_row rfl 34 (.tmp 6) (.tmp 14) rfl (w.heap.size + 1 + 1) cst.toArray rfl rfl 34 _ hA3 (by rw [hcs.out.1]; exact infoS10) (by rw [hcs.out.1]; rfl) hcs.out.2 ?_)
    | (go_at_call 34; refine lgWay_any.mono ?_; rintro e w4 ⟨rfl, rfl⟩))
  have hbb3 := Lib.hid (setRow_heap (new := cst.toArray) hA3)
  have hB3 := Lib.hid (below_row hb3.out (g := w.heap.size + 1 + 1) (by omega) cst.toArray)
  have hbx4 := Lib.hid ((setRow_other _ (w.heap.size + 1 + 1) (w.heap.size + 1) cst.toArray (by omega)).trans hbx3'.out)
  have htb4 := Lib.hid ((setRow_other _ (w.heap.size + 1 + 1) w.heap.size cst.toArray (by omega)).trans htb3'.out)
  have hs3e : ((((w.alloc (.cells #[.int .i64 t] 2)).alloc (.cells #[.slice none 0 0] 47)).alloc (.cells #[.int .i64 0, .int .i64 0, .int .i64 0, .int .i64 0, .int .i64 0, .int .i64 0, .int .i64 0, .int .i64 0, .int .i64 0, .int .i64 0] 34)).setRow (w.heap.size + 1 + 1) cst.toArray).heap.size = w.heap.size + 1 + 1 + 1 := by simp [World.setRow]
  clear hA3 hbx3' htb3' hb3 hb2 hb1 hm1 hr2
  generalize (World.alloc _ (Obj.cells _ 34)).setRow (w.heap.size + 1 + 1) cst.toArray = w3 at *
  have hbl := (Below.refl _ w3).alloc (Nat.le_refl _) (.cells #[.pointer (some ⟨lb, 0, none⟩)] 28)
  have hB4 := Lib.hid (hB3.out.trans (hbl.mono hB3.out.size))
  have hbb := Lib.hid ((hbl.block _ (Array.getElem?_eq_some_iff.1 hbb3.out).1).trans hbb3.out)
  have hbx := Lib.hid ((hbl.block _ (Array.getElem?_eq_some_iff.1 hbx4.out).1).trans hbx4.out)
  have htb := Lib.hid ((hbl.block _ (Array.getElem?_eq_some_iff.1 htb4.out).1).trans htb4.out)
  have hpb := Lib.hid (heap_alloc_new w3 (.cells #[.pointer (some ⟨lb, 0, none⟩)] 28))
  have hs3 := hB3.out.size
  have hs4 : (w3.alloc (.cells #[.pointer (some ⟨lb, 0, none⟩)] 28)).heap.size = w3.heap.size + 1 := by simp
  clear hbb3 hbx4 htb4 hbl hB3
  generalize hw4 : w3.alloc (.cells #[.pointer (some ⟨lb, 0, none⟩)] 28) = w4 at *
  clear hw4
  rw [hs3e] at hpb hs4
  clear hs3e hs3
  obtain ⟨pb, hpbe⟩ : ∃ pb, pb = w.heap.size + 1 + 1 + 1 := ⟨_, rfl⟩
  rw [← hpbe] at hpb hs4 ⊢
  have hm := h'.out.may (by omega)
  have hg := Lib.hid (lgWay1_gives hE hT (h'.out.base.trans (hB4.out.mono h'.out.base.size)) hpb.out ((hB4.out.block _ h'.out.of.x.lt).trans h'.out.of.row) (h'.out.of.rd.below hB4.out) hm.ok hm.n hm.L hm.sl)
  have hHlt : Hid (∀ k, HW b pb lb v0 sv ss k → k < w4.heap.size ∧ (k < w.heap.size ∨ k = pb)) := Lib.hid (fun k hk => by
    have h1 := h'.out.base.size
    have h2 := hB4.out.size
    have h3 := hs4
    rcases hk with hk | rfl | rfl | hk | ⟨S, hS, hk⟩
    · omega
    · omega
    · have := h'.out.of.x.lt; omega
    · have := h'.out.of.rd.svt.lt k hk; omega
    · have := (h'.out.of.rd.sth hS).lt k hk; omega)
  have hbbl := (Array.getElem?_eq_some_iff.1 hbb.out).1
  have hpbb : w.heap.size + 1 + 1 < pb := by omega
  have hpbe' := Lib.hid hpbe
  have hs4' := Lib.hid hs4
  clear hpbe hs4
  have hI0 : Hid (DropI w lb pb (w.heap.size + 1) (w.heap.size + 1 + 1) w.heap.size t st (fun _ => False) [] w4) := Lib.hid ⟨⟨.slice none 0 0, [], ⟨rfl, .nil⟩, hbx.out, ⟨.nil _ _ _, fun y hy => (by cases hy)⟩, hB4.out, by omega, fun e => e, fun k e => ⟨fun e => e, by
    rcases e with e | ⟨y, hy, _⟩
    · cases e
    · cases hy⟩, fun k e => e.elim⟩, ⟨hpb.out, fun e => e⟩, ⟨by rw [hcst.out]; exact hbb.out, htb.out, fun e => e, fun e => e, by omega, by omega⟩, fun e he => (by cases he)⟩
  have h := h'.out
  clear h' hm hbx htb hpb
  refine (wpIn_wide (n := 6)).1 ?_
  refine wpIn_rangeFunc_Z (gf := 49) (lb := #[.pointer (some ⟨pb, 0, none⟩)]) rfl (enters_of Tryz.func49 (by kernel_rfl) rfl) (fun k hk => (hHlt.out k hk).1) hg.out (fun G x vs X h => by obtain ⟨a, c, rfl, _⟩ := h; rfl) (DropI w lb pb (w.heap.size + 1) (w.heap.size + 1 + 1) w.heap.size t st) (DropX w lb pb (w.heap.size + 1) (w.heap.size + 1 + 1) w.heap.size t) (DropI.steps _ _ _ _ _ _ _ _) (fun c => DropX.steps _ _ _ _ _ _ _ c) hI0.out ?round ?done ?stop
  case round =>
    intro l1 Z G pre x vs X hI hpre hpay hG hZlt hsz hvs
    obtain ⟨⟨v, L, h1, h2a, h3a, h4a, h5, h6, h7, h8⟩, ⟨hpba, hZpb⟩, ⟨hbba, htba, hZbb, hZtb, hgb, hgt⟩, htm⟩ := hI
    obtain ⟨ea, ec, rfl, hMa, hTa, hGx⟩ := hpay
    have h2 := Lib.hid h2a
    have h3 := Lib.hid h3a
    have h4 := Lib.hid h4a
    have hpbX := Lib.hid hpba
    have hbbX := Lib.hid hbba
    have htbX := Lib.hid htba
    have hMx := Lib.hid hMa
    have hTx := Lib.hid hTa
    have htm' := Lib.hid htm
    clear h2a h3a h4a hMa hTa hpba hbba htba htm hg hI0 hbb hbbl
    have hlenL : L.length < 16384 := by
      have := hpre.length_le
      rw [← h1.1, toldAll_length] at this
      simp at this
      omega
    have hA := heap_alloc_new X (.cells z19 44)
    have hC := Lib.hid ((Below.refl _ X).alloc (Nat.le_refl _) (.cells z19 44))
    simp only [z19] at hA hC
    have hE1 : Hid ((entC x.ev x.bf x.fl (.slice ea x.sent.length ec)).toArray.size = 19 ∧ (entC x.ev x.bf x.fl (.slice ea x.sent.length ec)).toArray.all (·.oneCell') = true ∧ (entC x.ev x.bf x.fl (.slice ea x.sent.length ec)).length = 19) := Lib.hid ⟨rfl, entC_one _ _ _ _ _ _, rfl⟩
    have hlit := Lib.hid (fun w => lit_entry x.ev x.bf x.fl ea x.sent.length ec w)
    have hE0 : encE (x, .slice ea x.sent.length ec) = entC x.ev x.bf x.fl (.slice ea x.sent.length ec) := rfl
    have hE2 : (entC x.ev x.bf x.fl (.slice ea x.sent.length ec))[0]? = some (.int .i64 x.ev.k.t) := rfl
    have hE3 : ((entC x.ev x.bf x.fl (.slice ea x.sent.length ec)).drop 7).take 10 = encSt x.bf := rfl
    have hET : ∃ ET, entC x.ev x.bf x.fl (.slice ea x.sent.length ec) = ET := ⟨_, rfl⟩
    obtain ⟨ET, hET0⟩ := hET
    rw [hET0] at hE1 hlit hE0 hE2 hE3 ⊢
    have hE0' := Lib.hid hE0
    have hE2' := Lib.hid hE2
    have hE3' := Lib.hid hE3
    clear hET0 hE0 hE2 hE3
    gi_wp2_with (first
      | (refine wpListIn_store_row rfl 44 (.tmp 7) (.tmp 17) rfl X.heap.size ET.toArray rfl rfl 44 _ hA (by rw [hE1.out.1]; exact infoEn) (by rw [hE1.out.1]; rfl) hE1.out.2.1 ?_))
    have hXe := Lib.hid (setRow_heap (new := ET.toArray) hA)
    have hBa := Lib.hid (below_row hC.out (g := X.heap.size) (Nat.le_refl _) ET.toArray)
    clear hA hC
    generalize (X.alloc (Obj.cells _ 44)).setRow X.heap.size ET.toArray = Wa at *
    refine ⟨.of_below hBa.out, fun Wb hkb hsb => ?_⟩
    have hwa := hBa.out.size
    have hxl := (Array.getElem?_eq_some_iff.1 hXe.out).1
    have hkb0 : Hid (KeptOff (fun q => Z q ∧ ¬ G q) X Wb) := Lib.hid ((KeptOff.of_below hBa.out).trans hkb)
    have hXb := Lib.hid ((hkb.block _ hxl (fun e => by have := hZlt _ e.1; omega)).trans hXe.out)
    have hXr : Hid (Wb.rangeAt X.heap.size 0 ET) := Lib.hid (by have := range_block hXb.out; simpa using this)
    have h2b := Lib.hid ((hkb0.out.block _ (Array.getElem?_eq_some_iff.1 h2.out).1 (fun e => h6 e.1)).trans h2.out)
    have hbbb := Lib.hid ((hkb0.out.block _ (Array.getElem?_eq_some_iff.1 hbbX.out).1 (fun e => hZbb e.1)).trans hbbX.out)
    have htbb := Lib.hid ((hkb0.out.block _ (Array.getElem?_eq_some_iff.1 htbX.out).1 (fun e => hZtb e.1)).trans htbX.out)
    have hpbB := Lib.hid ((hkb0.out.block _ (Array.getElem?_eq_some_iff.1 hpbX.out).1 (fun e => hZpb e.1)).trans hpbX.out)
    have h3b := Lib.hid (h3.out.kept hkb0.out (fun k e e2 => (h7 k e).1 e2.1))
    have h4b := Lib.hid (h4.out.trans (hkb0.out.below (fun k _ e => h8 k e.1) h4.out.size))
    have hMb := Lib.hid (hMx.out.keptOff hkb0.out (fun q e e2 => e2.2 (hGx q e)))
    have hTb := Lib.hid (hTx.out.kept hkb0.out (fun q e e2 => e2.2 (hGx q e)))
    have c0 : Wb.cell? ⟨X.heap.size, 0, none⟩ = some (.int .i64 x.ev.k.t) := by have := hXr.out 0 _ hE2'.out; simpa using this
    have ct : Wb.cell? ⟨w.heap.size, 0, none⟩ = some (.int .i64 t) := row_cell htbb.out 0 rfl
    obtain ⟨R, hR0⟩ : ∃ R : Exit → Act → World → Prop, ∀ e a3 W3, R e a3 W3 ↔ KeptOff (fun k => ¬ Z k ∧ ¬ HW b pb lb v0 sv ss k) Wb W3 ∧ LeftZ (DropI w lb pb (w.heap.size + 1) (w.heap.size + 1 + 1) w.heap.size t st) (DropX w lb pb (w.heap.size + 1) (w.heap.size + 1 + 1) w.heap.size t) (fun k => Z k ∧ ¬ G k) (pre ++ [x]) W3 e := ⟨_, fun _ _ _ => Iff.rfl⟩
    by_cases hlt : t ≤ x.ev.k.t
    · have hst : Hid (∀ a3, R (.exit 0) a3 (Wb.setRow (w.heap.size + 1 + 1) (encSt x.bf).toArray)) := Lib.hid (fun a3 => (hR0 _ _ _).2 (by
        have hkr := KeptOff.row Wb (w.heap.size + 1 + 1) (encSt x.bf).toArray
        refine ⟨hkr.mono (fun k _ e => by subst e; exact ⟨hZbb, fun hh => by have := (hHlt.out _ hh).2; omega⟩), rfl, pre, x, rfl, ?_, hlt⟩
        have hc0 : CollI w (w.heap.size + 1) Z pre Wb := ⟨v, L, h1, h2b.out, h3b.out, h4b.out, h5, h6, h7, h8⟩
        have hc1 := hc0.other (e := 34) hkr (fun k e => by subst e; exact ⟨hgb, _, hbbb.out⟩) (by decide) (by decide) (by decide)
        refine DropI.steps _ _ _ _ _ _ _ _ Z _ _ _ _ ⟨hc1, ⟨(setRow_other _ _ _ _ (by omega)).trans hpbB.out, hZpb⟩, ⟨setRow_heap hbbb.out, (setRow_other _ _ _ _ (by omega)).trans htbb.out, hZbb, hZtb, hgb, hgt⟩, htm'.out⟩ (KeptOff.refl _ _) (fun k e => .inl e.1)))
      have hrb : Hid (Wb.rangeAt X.heap.size 7 (encSt x.bf)) := Lib.hid (by have := range_part hXr.out 7 10; rw [hE3'.out] at this; simpa using this)
      have hbb5 := hbbb.out
      have hls2 : (encSt x.bf).length = 10 := rfl
      have hcs2 : Hid ((encSt x.bf).toArray.size = 10 ∧ (encSt x.bf).toArray.all (·.oneCell') = true) := Lib.hid ⟨rfl, encSt_one _⟩
      have hlsS : Hid ((encSt st).toArray.size = 10) := Lib.hid rfl
      have hR := Lib.hid hR0
      clear hR0
      refine wpIn_mono (Q := R) ?_ (fun e a3 W3 h => (hR.out e a3 W3).1 h)
      clear h1 h2 h3 h4 h5 h6 h7 h8 hMx hTx hXe hBa hkb hkb0 hXb h2b h3b h4b hMb hTb hZlt hG hGx hpre hsb hwa hxl hsz hvs hE0' hR hbbb htbb htm' hbbX htbX hpbX hpbB hZpb hZbb hZtb hgb hgt
      generalize encSt x.bf = bs at *
      simp only [Act.put]
      gi_wp2_with (first
        | (refine wpListIn_load_row rfl 34 (.tmp 24) rfl X.heap.size 7 rfl bs _ hrb.out Tryz.underlying34 rfl (by rw [hls2]; exact infoS10) ?_)
        | (refine wpListIn_store_row rfl 34 (.tmp 6) (.tmp 25) rfl (w.heap.size + 1 + 1) bs.toArray rfl rfl 34 _ hbb5 (by rw [hcs2.out.1]; exact infoS10) (by rw [hcs2.out.1]; exact hlsS.out) hcs2.out.2 ?_))
      exact hst.out _
    · have hna := Lib.hid (heap_alloc_new Wb (.cells ET.toArray 44))
      have hBn := Lib.hid ((Below.refl _ Wb).alloc (Nat.le_refl _) (.cells ET.toArray 44))
      have hrw : Hid (RowAt (Wb.alloc (.cells ET.toArray 44)) 44 19 v L.length (L.flatMap encE)) := Lib.hid (h3b.out.below hBn.out).1
      have cbx : Wb.cell? ⟨w.heap.size + 1, 0, none⟩ = some v := row_cell h2b.out 0 rfl
      obtain ⟨va, vc, hva, -⟩ := RowAt.shape h3b.out.1
      have hin : Hid (∀ w4, KeptOff (fun k => v.ownBlock = some k) (Wb.alloc (.cells ET.toArray 44)) w4 → w4.cell? ⟨w.heap.size + 1, 0, none⟩ = some v ∧ w4.frozen? ⟨w.heap.size + 1, 0, none⟩ = false) := Lib.hid (fun w4 hk => by
        have hbv : v.ownBlock ≠ some (w.heap.size + 1) := fun e => by
          obtain ⟨cur, h⟩ := RowAt.tag h3b.out.1 e
          rw [h2b.out] at h
          simp at h
        have := ((hk.block _ (Nat.lt_of_lt_of_le (Array.getElem?_eq_some_iff.1 h2b.out).1 hBn.out.size) hbv).trans (hBn.out.block _ (Array.getElem?_eq_some_iff.1 h2b.out).1)).trans h2b.out
        exact ⟨row_cell this 0 rfl, frozen_of_cells this⟩)
      have hvpb : ∀ k, v.ownBlock = some k → k = pb → False := fun k e e2 => by
        obtain ⟨cur, h⟩ := RowAt.tag h3b.out.1 e
        rw [e2, hpbB.out] at h
        simp at h
      have hfin : Hid (∀ g2 off2 cap2 w4, Hid (RowIn w4 44 19 g2 off2 (L.length + 1) cap2 (L.flatMap encE ++ ET)) → Hid (KeptOff (fun k => v.ownBlock = some k) (Wb.alloc (.cells ET.toArray 44)) w4) → Hid (v.ownBlock = some g2 ∨ (Wb.alloc (.cells ET.toArray 44)).heap.size ≤ g2) →
          ∀ a3, R .normal a3 (w4.setCell ⟨w.heap.size + 1, 0, none⟩ (.slice (some ⟨g2, off2, none⟩) (L.length + 1) cap2))) := Lib.hid (fun g2 off2 cap2 w4 r1 r2 r3 a3 => (hR0 _ _ _).2 (by
        have hkk : KeptOff (fun k => v.ownBlock = some k) Wb w4 := (KeptOff.of_below hBn.out).trans r2.out
        have hks := KeptOff.set w4 ⟨w.heap.size + 1, 0, none⟩ (.slice (some ⟨g2, off2, none⟩) (L.length + 1) cap2)
        have hno : ∀ {k : Nat} {cs : Array Value} {ty : TypeId}, Wb.heap[k]? = some (.cells cs ty (0, 0)) → ty ≠ 44 → ty ≠ 47 → (w4.setCell ⟨w.heap.size + 1, 0, none⟩ (.slice (some ⟨g2, off2, none⟩) (L.length + 1) cap2)).heap[k]? = some (.cells cs ty (0, 0)) := fun {k cs ty} hk e1 e2 => by
          have hl := (Array.getElem?_eq_some_iff.1 hk).1
          have h0 := (hkk.block k hl (fun e => by
            obtain ⟨cur, h⟩ := RowAt.tag h3b.out.1 e
            rw [hk] at h
            simp at h
            exact e1 h.2)).trans hk
          refine (hks.block k (Nat.lt_of_lt_of_le hl hkk.size) (fun e => ?_)).trans h0
          have e : k = w.heap.size + 1 := e
          rw [e, h2b.out] at hk
          simp at hk
          exact e2 hk.2.symm
        refine ⟨(hkk.mono (fun k hk e => ⟨(h7 k (.inl e)).1, fun hh => by have h11 := (hHlt.out k hh).2; have h12 := (h7 k (.inl e)).2; exact hvpb k e (by omega)⟩)).trans (hks.mono (fun k _ e => by simp only at e; subst e; exact ⟨h6, fun hh => by have := (hHlt.out _ hh).2; omega⟩)), ?_⟩
        refine ⟨CollI.more h1 h2b.out h3b.out h4b.out h5 h6 h7 h8 (fun k e => by have := hZlt k e; omega) hMb.out hTb.out hGx hG (by rw [hE0'.out]; exact r1.out) hkk (r3.out.imp id (fun e => by have := hBn.out.size; omega)), ⟨hno hpbB.out (by decide) (by decide), fun e => hZpb e.1⟩, ⟨hno hbbb.out (by decide) (by decide), hno htbb.out (by decide) (by decide), fun e => hZbb e.1, fun e => hZtb e.1, hgb, hgt⟩, fun e he => ?_⟩
        rcases List.mem_append.1 he with he | he
        · exact htm'.out e he
        · obtain rfl := List.mem_singleton.1 he
          omega))
      have hR := Lib.hid hR0
      clear hR0
      refine wpIn_mono (Q := R) ?_ (fun e a3 W3 h => (hR.out e a3 W3).1 h)
      have hmx : (L.length + 1) * 168 ≤ 140737488355328 := by omega
      have hmx2 : L.length + 1 ≤ maxLen := by unfold maxLen; omega
      clear hvpb h1 h2 h3 h4 h5 h6 h7 h8 hMx hTx hXe hBa hkb hkb0 hXb h2b h3b h4b hMb hTb hBn hZlt hG hGx hpre hsb hwa hxl hsz hvs hE0' hR hbbb htbb htm' hbbX htbX hpbX hpbB hZpb hZbb hZtb hgb hgt
      simp only [Act.put]
      subst hva
      gi_wp2_with (first
        | (refine wpListIn_load_row rfl 44 (.tmp 7) rfl X.heap.size 0 rfl ET _ hXr.out Tryz.underlying44 rfl (by rw [hE1.out.2.2]; exact infoEn) ?_)
        | (refine wpListIn_buildSlice_to rfl 47 1 #[(0, .tmp 27)] rfl #[(0, .agg ET.toArray)] (by simp only [List.map_toArray, List.map_cons, List.map_nil]; rfl) (hlit.out _) ?_)
        | (refine wpListIn_append_row rfl (.tmp 26) (.tmp 28) 47 rfl hrw.out i0 _ 168 Tryz.underlying47 hi0 hz0 hz1 hz2 rfl (by omega) rfl ⟨Wb.heap.size, 0, none⟩ 1 ET rfl hE1.out.2.2 (fun j u hj => news_of hna.out j u hj) (fun u hu => by have := hE1.out.2.1; simp only [List.all_toArray, List.all_eq_true] at this; exact this u hu) hmx2 hmx ?_; intro g2 off2 cap2 w4 r1 r2 r3; have hf := hfin.out g2 off2 cap2 w4 r1 r2 r3; obtain ⟨c4, f4⟩ := hin.out w4 r2.out; clear r1 r2 r3))
      exact hf _
  case done =>
    intro D Zf W2 hD hZfD hI hdef0
    have hE := hI.end_
    have hdef := Lib.hid hdef0
    have hDw : w.heap.size ≤ D := by omega
    clear hI hdef0 hg hI0 hbb
    obtain ⟨base, hbase, ⟨v, L, h1, h2a, h3a, h4a, h5, h6, h7, h8⟩, ⟨hpba, hZpb⟩, ⟨hbba, htba, hZbb, hZtb, hgb, hgt⟩, htm⟩ := hE
    have h2 := Lib.hid h2a
    have h3 := Lib.hid h3a
    have h4 := Lib.hid h4a
    have hbb := Lib.hid hbba
    clear h2a h3a h4a hbba htba hpba hZpb
    have hlenL : L.length = dropN (toldAll W ss) t := by
      have := congrArg List.length h1.1
      rw [List.length_map, List.length_take] at this
      have h9 := dropN_le (toldAll W ss) t
      omega
    obtain ⟨va, vc, hva, -⟩ := RowAt.shape h3.out.1
    have hdn := hnle
    have hW2 : Below w.heap.size w W2 := h4.out
    have hLI := Lib.hid (h.below hW2)
    have hn16 : dropN (toldAll W ss) t < 16384 := by have := h.cnt; omega
    have hXW := hLI.out.of.x
    have hcutW : ∀ s r, ss.drop (wholeN ss (dropN (toldAll W ss) t)).1 = s :: r → (wholeN ss (dropN (toldAll W ss) t)).2 ≤ s.L.length := fun s r hd => by
      obtain ⟨s', r', e1, e2, _⟩ := wholeN_spec (W := W) (ss := ss) (n := dropN (toldAll W ss) t) (st := st) (fun e => by have := h.of.pos; rw [e] at this; cases this) hdn h.chain
      rw [e1] at hd
      obtain ⟨rfl, rfl⟩ : s' = s ∧ r' = r := by simpa using hd
      exact e2
    have hbeg : Hid (∀ w', Below W2.heap.size W2 w' → Calls Tryz.prog 37 #[.pointer (some ⟨lb, 0, none⟩), .int .i64 (dropN (toldAll W ss) t : Int), .agg (encSt base).toArray] w' fun e w3 => e = .returned (.tuple #[]) ∧ Hid (BegQ w' lb v0 W every sv ss (total ss) st stuck (dropN (toldAll W ss) t) base w3)) := Lib.hid (fun w' hb => lgBegin_any (hXW.below hb) h.of.pos (by have := h.n; have := h.cnt; omega) hn16 (by have := h.cnt; omega) (fun s hs => by have := L_le_total hs; have := h.cnt; omega) hcutW)
    have hbb2 : Hid (W2.rangeAt (w.heap.size + 1 + 1) 0 (encSt base)) := Lib.hid (by have := range_block hbb.out; simpa using this)
    have cbx : W2.cell? ⟨w.heap.size + 1, 0, none⟩ = some v := row_cell h2.out 0 rfl
    rw [hva, hlenL] at cbx
    have hfin : Hid (∀ w3 w4, BegQ W2 lb v0 W every sv ss (total ss) st stuck (dropN (toldAll W ss) t) base w3 → w3.cell? ⟨w.heap.size + 1, 0, none⟩ = some (.slice va (dropN (toldAll W ss) t) vc) ∧ Marks [D] w3 ∧ (KeptOff (fun k => k ∈ [D]) w3 w4 → DropQ b w lb v0 W every sv ss st stuck c (dropN (toldAll W ss) t) va vc w4)) := Lib.hid (fun w3 w4 hq => by
      obtain ⟨sv', ss', g1, g2, g3, g4⟩ := hLI.out.begun hdn (by rw [← toldAll_length W ss] ; exact hbase) hq
      have hlo : ∀ k, LOwn lb sv ss k → k < w.heap.size := fun k hk => by
        rcases hk with rfl | hk | ⟨s, hs, hk⟩
        · exact h.of.x.lt
        · exact h.of.rd.svt.lt k hk
        · exact (h.of.rd.stt hs).lt k hk
      have hbx3 := (g3.block _ (Array.getElem?_eq_some_iff.1 h2.out).1 (fun e => by have := hlo _ e; omega)).trans h2.out
      have hD3 := (g3.block D (Array.getElem?_eq_some_iff.1 hdef.out).1 (fun e => by have := hlo _ e; omega)).trans hdef.out
      refine ⟨by rw [row_cell hbx3 0 rfl, hva, hlenL]; rfl, ⟨by simp, fun D' hD' => by obtain rfl := List.mem_singleton.1 hD'; exact hD3⟩, fun hk => ?_⟩
      have hS : ∀ k, k ∈ [D] → ∀ cur ty fr, w3.heap[k]? ≠ some (.cells cur ty fr) := fun k hk cur ty fr e => by
        obtain rfl := List.mem_singleton.1 hk
        rw [hD3] at e
        cases e
      have h3' : EntsAt w3 v L := h3.out.kept g3 (fun k e e2 => by have := (h7 k e).2; have := hlo k e2; omega)
      rw [hva, hlenL] at h3'
      refine ⟨⟨L, h1.1, h3'.keptNo hk hS, fun k e => ?_⟩, ?_, sv', ss', g1.keptNo hk hS (fun k e => ?_), g2, g4⟩
      · rw [← hlenL, ← hva] at e
        exact (h7 k e).2
      · exact ((KeptOff.of_below hW2).trans g3).then_new hk (fun k hk' e => by obtain rfl := List.mem_singleton.1 e; omega)
      · obtain rfl := List.mem_singleton.1 e
        have := h.base.size
        omega)
    have hlst : (encSt base).length = 10 := rfl
    have hdn0 : (0 : Int) ≤ (dropN (toldAll W ss) t : Int) := by omega
    clear h1 h2 h3 h4 h5 h6 h7 h8 hbb hdef hZbb hZtb hgb hgt htm hlenL hva hXW hcutW hLI hbase
    generalize hdd : dropN (toldAll W ss) t = dn at *
    have hdd' := Lib.hid hdd
    clear hdd
    generalize hbs : encSt base = bs at *
    clear hbs
    dsimp only [Exit.inBlock, Exit.then]
    go_wp2_with (first
      | (refine wpList_load_mid rfl 34 (.tmp 6) rfl (w.heap.size + 1 + 1) 0 rfl bs _ hbb2.out Tryz.underlying34 rfl (by rw [hlst]; exact infoS10) ?_)
      | (go_at_call 37; refine (hbeg.out _ (Below.refl _ W2)).mono ?_; rintro e w3 ⟨rfl, hq⟩; obtain ⟨c3, hM3, hf3⟩ := hfin.out w3 w3 hq.out; have hfin3 := Lib.hid (fun w4 => (hfin.out w3 w4 hq.out).2.2); have hM3' := Lib.hid hM3; clear hM3 hf3 hq cbx))
    exact leaves_marks (by simp) [D] w3 hM3'.out (fun w' hk => ⟨.slice va dn vc, by simp [results, Tryz.f18, go_sem], va, vc, by rw [hdd'.out], by rw [hdd'.out]; exact Lib.hid (hfin3.out w' hk)⟩)
  case stop =>
    intro D cx Zf pre W2 hD hZfD hpre hI hdef0
    have hE := DropX.end_ (st := st) hI hpre
    obtain rfl := hI.1
    have hdef := Lib.hid hdef0
    have hDw : w.heap.size ≤ D := by omega
    clear hI hdef0 hg hI0 hbb
    obtain ⟨base, hbase, ⟨v, L, h1, h2a, h3a, h4a, h5, h6, h7, h8⟩, ⟨hpba, hZpb⟩, ⟨hbba, htba, hZbb, hZtb, hgb, hgt⟩, htm⟩ := hE
    have h2 := Lib.hid h2a
    have h3 := Lib.hid h3a
    have h4 := Lib.hid h4a
    have hbb := Lib.hid hbba
    clear h2a h3a h4a hbba htba hpba hZpb
    have hlenL : L.length = dropN (toldAll W ss) t := by
      have := congrArg List.length h1.1
      rw [List.length_map, List.length_take] at this
      have h9 := dropN_le (toldAll W ss) t
      omega
    obtain ⟨va, vc, hva, -⟩ := RowAt.shape h3.out.1
    have hdn := hnle
    have hW2 : Below w.heap.size w W2 := h4.out
    have hLI := Lib.hid (h.below hW2)
    have hn16 : dropN (toldAll W ss) t < 16384 := by have := h.cnt; omega
    have hXW := hLI.out.of.x
    have hcutW : ∀ s r, ss.drop (wholeN ss (dropN (toldAll W ss) t)).1 = s :: r → (wholeN ss (dropN (toldAll W ss) t)).2 ≤ s.L.length := fun s r hd => by
      obtain ⟨s', r', e1, e2, _⟩ := wholeN_spec (W := W) (ss := ss) (n := dropN (toldAll W ss) t) (st := st) (fun e => by have := h.of.pos; rw [e] at this; cases this) hdn h.chain
      rw [e1] at hd
      obtain ⟨rfl, rfl⟩ : s' = s ∧ r' = r := by simpa using hd
      exact e2
    have hbeg : Hid (∀ w', Below W2.heap.size W2 w' → Calls Tryz.prog 37 #[.pointer (some ⟨lb, 0, none⟩), .int .i64 (dropN (toldAll W ss) t : Int), .agg (encSt base).toArray] w' fun e w3 => e = .returned (.tuple #[]) ∧ Hid (BegQ w' lb v0 W every sv ss (total ss) st stuck (dropN (toldAll W ss) t) base w3)) := Lib.hid (fun w' hb => lgBegin_any (hXW.below hb) h.of.pos (by have := h.n; have := h.cnt; omega) hn16 (by have := h.cnt; omega) (fun s hs => by have := L_le_total hs; have := h.cnt; omega) hcutW)
    have hbb2 : Hid (W2.rangeAt (w.heap.size + 1 + 1) 0 (encSt base)) := Lib.hid (by have := range_block hbb.out; simpa using this)
    have cbx : W2.cell? ⟨w.heap.size + 1, 0, none⟩ = some v := row_cell h2.out 0 rfl
    rw [hva, hlenL] at cbx
    have hfin : Hid (∀ w3 w4, BegQ W2 lb v0 W every sv ss (total ss) st stuck (dropN (toldAll W ss) t) base w3 → w3.cell? ⟨w.heap.size + 1, 0, none⟩ = some (.slice va (dropN (toldAll W ss) t) vc) ∧ Marks [D] w3 ∧ (KeptOff (fun k => k ∈ [D]) w3 w4 → DropQ b w lb v0 W every sv ss st stuck c (dropN (toldAll W ss) t) va vc w4)) := Lib.hid (fun w3 w4 hq => by
      obtain ⟨sv', ss', g1, g2, g3, g4⟩ := hLI.out.begun hdn (by rw [← toldAll_length W ss] ; exact hbase) hq
      have hlo : ∀ k, LOwn lb sv ss k → k < w.heap.size := fun k hk => by
        rcases hk with rfl | hk | ⟨s, hs, hk⟩
        · exact h.of.x.lt
        · exact h.of.rd.svt.lt k hk
        · exact (h.of.rd.stt hs).lt k hk
      have hbx3 := (g3.block _ (Array.getElem?_eq_some_iff.1 h2.out).1 (fun e => by have := hlo _ e; omega)).trans h2.out
      have hD3 := (g3.block D (Array.getElem?_eq_some_iff.1 hdef.out).1 (fun e => by have := hlo _ e; omega)).trans hdef.out
      refine ⟨by rw [row_cell hbx3 0 rfl, hva, hlenL]; rfl, ⟨by simp, fun D' hD' => by obtain rfl := List.mem_singleton.1 hD'; exact hD3⟩, fun hk => ?_⟩
      have hS : ∀ k, k ∈ [D] → ∀ cur ty fr, w3.heap[k]? ≠ some (.cells cur ty fr) := fun k hk cur ty fr e => by
        obtain rfl := List.mem_singleton.1 hk
        rw [hD3] at e
        cases e
      have h3' : EntsAt w3 v L := h3.out.kept g3 (fun k e e2 => by have := (h7 k e).2; have := hlo k e2; omega)
      rw [hva, hlenL] at h3'
      refine ⟨⟨L, h1.1, h3'.keptNo hk hS, fun k e => ?_⟩, ?_, sv', ss', g1.keptNo hk hS (fun k e => ?_), g2, g4⟩
      · rw [← hlenL, ← hva] at e
        exact (h7 k e).2
      · exact ((KeptOff.of_below hW2).trans g3).then_new hk (fun k hk' e => by obtain rfl := List.mem_singleton.1 e; omega)
      · obtain rfl := List.mem_singleton.1 e
        have := h.base.size
        omega)
    have hlst : (encSt base).length = 10 := rfl
    have hdn0 : (0 : Int) ≤ (dropN (toldAll W ss) t : Int) := by omega
    clear h1 h2 h3 h4 h5 h6 h7 h8 hbb hdef hZbb hZtb hgb hgt htm hlenL hva hXW hcutW hLI hbase
    generalize hdd : dropN (toldAll W ss) t = dn at *
    have hdd' := Lib.hid hdd
    clear hdd
    generalize hbs : encSt base = bs at *
    clear hbs
    dsimp only [Exit.inBlock, Exit.then]
    gi_wp2
    go_wp2_with (first
      | (refine wpList_load_mid rfl 34 (.tmp 6) rfl (w.heap.size + 1 + 1) 0 rfl bs _ hbb2.out Tryz.underlying34 rfl (by rw [hlst]; exact infoS10) ?_)
      | (go_at_call 37; refine (hbeg.out _ (Below.refl _ W2)).mono ?_; rintro e w3 ⟨rfl, hq⟩; obtain ⟨c3, hM3, hf3⟩ := hfin.out w3 w3 hq.out; have hfin3 := Lib.hid (fun w4 => (hfin.out w3 w4 hq.out).2.2); have hM3' := Lib.hid hM3; clear hM3 hf3 hq cbx))
    exact leaves_marks (by simp) [D] w3 hM3'.out (fun w' hk => ⟨.slice va dn vc, by simp [results, Tryz.f18, go_sem], va, vc, by rw [hdd'.out], by rw [hdd'.out]; exact Lib.hid (hfin3.out w' hk)⟩)
end Go.Proofs.YtminfmjgmmkaoaaGreatDoor
