/-
  Two logs side by side: what one does leaves the other; what Do, Drop and Back tell, in plain data.
-/
import Derived.Test.YtminfmjgmmkaoaaGreatDoorJI
namespace Go.Proofs.YtminfmjgmmkaoaaGreatDoor
open Go.ChangeShapes Go.WideShapes Go.ChangeAt Go.Shelf Go.RowKit Go.Lib Go.Sort Go.Deep
set_option linter.unusedVariables false
set_option maxRecDepth 4000
set_option linter.unusedSimpArgs false

section
variable {b w w2 : World} {lb lb' c c' : Nat} {v v' : Wv} {W W' : Wd} {every every' : Int} {sv sv' : Value} {ss ss' : List Sth} {st st' : Sta} {stuck stuck' : Bool} {x x' : Pl}
theorem LogIs.lt (h : LogIs b w lb v W every sv ss st stuck c) : ∀ k, LOwn lb sv ss k → k < w.heap.size := by
  rintro k (e | e | ⟨s, hs, e⟩)
  · rw [e]; exact h.of.x.lt
  · exact h.of.rd.svt.lt k e
  · exact (h.of.rd.stt hs).lt k e
theorem LogIs.keptOther (h : LogIs b w lb v W every sv ss st stuck c) (h' : LogIs b w lb' v' W' every' sv' ss' st' stuck' c') (hk : KeptOff (LOwn lb' sv' ss') w w2) (hd : ∀ k, LOwn lb sv ss k → ¬ LOwn lb' sv' ss' k) : LogIs b w2 lb v W every sv ss st stuck c :=
  ⟨⟨(hk.block lb h.of.x.lt (hd lb (.inl rfl))).trans h.of.row,
    h.of.rd.kept hk (h'.offV h.of.rd.wtag.1 (by decide) (by decide) (by decide)) (h'.offV h.of.rd.wtag.2 (by decide) (by decide) (by decide)) (fun k e => hd k (.inr (.inl e))) (fun s hs k e => hd k (.inr (.inr ⟨s, hs, e⟩))) (fun s hs p hp => h'.offV (h.of.rd.sents s hs p hp).2 (by decide) (by decide) (by decide)),
    h.of.every, h.of.pos, h.of.apart⟩, h.chain, h.full, h.own, h.sent, h.kept, h.base.trans (hk.below (fun k _ e => h'.own k e) h.base.size), h.stok, h.cnt⟩
theorem LogP.other (h : LogP b w lb v W every sv ss x c) (h' : LogP b w lb' v' W' every' sv' ss' x' c') (hk : KeptOff (LOwn lb' sv' ss') w w2) (hd : ∀ k, LOwn lb sv ss k → ¬ LOwn lb' sv' ss' k) : LogP b w2 lb v W every sv ss x c := ⟨h.1.keptOther h'.1 hk hd, h.2⟩
theorem LogP.below (h : LogP b w lb v W every sv ss x c) (hb : Below w.heap.size w w2) : LogP b w2 lb v W every sv ss x c := ⟨h.1.below hb, h.2⟩
end
/-- The entry that Do tells, and its error. -/
def doneE (W : Wd) (x : Pl) (m : M) (uid : Int) : En := if x.stuck then ⟨⟨⟨0, 0, 0⟩, 0, 0, 0, false⟩, Sta.zero, 0, []⟩ else ⟨m, x.st, (runW W x.st m).2.2, mgs W x.st.s m.k.t uid (runW W x.st m).2.1 (runW W x.st m).2.1.length⟩
def doneErr (x : Pl) : Int := if x.stuck then 5 else 0
/-- What Do leaves. -/
def DoStepQ (b w : World) (lb c : Nat) (v : Wv) (W : Wd) (every : Int) (sv : Value) (ss : List Sth) (x : Pl) (bs : List Int) (i : Nat) (uid : Int) (sa : Option Addr) (sc : Nat) (w' : World) : Prop :=
  Mgs w' sa (doneE W x (evM bs i) uid).sent.length sc (doneE W x (evM bs i) uid).sent ∧ (∀ k, (Value.slice sa (doneE W x (evM bs i) uid).sent.length sc).ownBlock = some k → w.heap.size ≤ k) ∧ KeptOff (LOwn lb sv ss) w w' ∧
  ∃ sv' ss', LogP b w' lb v W every sv' ss' (x.more W (evM bs i) uid) (c + 1) ∧ AheadOf bs (i + 1) ss' ∧ ∀ k, LOwn lb sv' ss' k → LOwn lb sv ss k ∨ w.heap.size ≤ k
theorem LogP.doStepE {b w : World} {lb c : Nat} {v : Wv} {W : Wd} {every : Int} {sv : Value} {ss : List Sth} {x : Pl} {eb : Addr} {bs : List Int} (h : LogP b w lb v W every sv ss x c) (hbs : ∀ x ∈ bs, 0 ≤ x ∧ x ≤ 255) (hc : c ≤ 900) (hE : ErrIs b eb) (hT : ErrT b) (hcw : checkW W = 0) {i : Nat} (hi : i < 1000) (ha : AheadOf bs i ss) {uid : Int} (hu : 0 ≤ uid ∧ uid ≤ 1099511627776) :
    Calls Tryz.prog 11 #[.pointer (some ⟨lb, 0, none⟩), (evM bs i).val, .int .i64 uid, .slice none 0 0] w fun r w' => ∃ sa sc, r = .returned (.tuple #[.agg (entC (doneE W x (evM bs i) uid).ev (doneE W x (evM bs i) uid).bf (doneE W x (evM bs i) uid).fl (.slice sa (doneE W x (evM bs i) uid).sent.length sc)).toArray, .int .i64 (doneErr x)]) ∧ Hid (DoStepQ b w lb c v W every sv ss x bs i uid sa sc w') := by
  obtain ⟨es, st, stuck⟩ := x
  obtain ⟨h1, h2⟩ := h
  simp only at h1 h2
  obtain ⟨hm, hn, hv⟩ := evM_chk hbs hi
  cases stuck with
  | true =>
    refine (h1.doNo (by omega) hm hn (ha.follows hbs) hu).mono ?_
    rintro r w' ⟨rfl, hb⟩
    refine ⟨none, 0, rfl, ⟨rfl, Nat.le_refl _, Nat.zero_le _, .inl rfl⟩, (fun k e => by cases e), .of_below hb, sv, ss, ⟨?_, h2⟩, fun e he => ?_, fun k e => .inl e⟩
    · have h3 := h1.below hb
      have up : ∀ {z : Sta}, StaBd c z → StaBd (c + 1) z := fun {z} hz => by
        obtain ⟨a1, a2, a3, a4⟩ := hz
        refine ⟨a1, ?_, a3, ?_⟩ <;> push_cast <;> omega
      exact ⟨h3.of, h3.chain, h3.full, h3.own, h3.sent, fun s hs => ⟨(h3.kept s hs).1, up (h3.kept s hs).2⟩, h3.base, ⟨h3.stok.1, up h3.stok.2⟩, by have := h3.cnt; omega⟩
    · obtain ⟨j, hj, e⟩ := ha e he
      exact ⟨j, by omega, e⟩
  | false =>
    obtain ⟨⟨st2, os, fl⟩, hrun⟩ : ∃ r, runW W st (evM bs i) = r := ⟨_, rfl⟩
    refine (h1.doOk (by omega) hE hT hcw hm hn hv (ha.follows hbs) hu hrun).mono ?_
    rintro r w' ⟨sa, sc, rfl, hq⟩
    obtain ⟨g1, g2, h3, sv', ss', h4, h5, h6, h7⟩ := hq.out
    have hd : doneE W ⟨es, st, false⟩ (evM bs i) uid = ⟨evM bs i, st, fl, mgs W st.s (evM bs i).k.t uid os os.length⟩ := by simp [doneE, hrun]
    refine ⟨sa, sc, by rw [hd]; simp only [mgs_length]; rfl, ?_, ?_, h3, sv', ss', ⟨?_, ?_⟩, fun e he => ⟨i, by omega, ?_⟩, h6⟩
    · rw [hd]; simp only [mgs_length]; exact g1
    · rw [hd]; simp only [mgs_length]; exact g2
    · simp only [Pl.more, hrun]
      exact h4
    · simp only [Pl.more, hrun, h5, h2]
      rfl
    · rw [h7] at he
      exact (Option.some.inj he).symm
/-- Two logs behind the same. -/
structure Duo (b w : World) (lx ly : Nat) (v1 v2 : Wv) (W : Wd) (e1 e2 : Int) (s1 s2 : Value) (r1 r2 : List Sth) (X Y : Pl) (c d : Nat) : Prop where
  x : LogP b w lx v1 W e1 s1 r1 X c
  y : LogP b w ly v2 W e2 s2 r2 Y d
  off : ∀ k, LOwn lx s1 r1 k → ¬ LOwn ly s2 r2 k
section
variable {b w w2 : World} {lx ly c d c' : Nat} {v1 v2 : Wv} {W : Wd} {e1 e2 : Int} {s1 s2 s' : Value} {r1 r2 r' : List Sth} {X Y Z : Pl}
theorem Duo.below (h : Duo b w lx ly v1 v2 W e1 e2 s1 s2 r1 r2 X Y c d) (hb : Below w.heap.size w w2) : Duo b w2 lx ly v1 v2 W e1 e2 s1 s2 r1 r2 X Y c d := ⟨h.x.below hb, h.y.below hb, h.off⟩
theorem Duo.stepX (h : Duo b w lx ly v1 v2 W e1 e2 s1 s2 r1 r2 X Y c d) (hk : KeptOff (LOwn lx s1 r1) w w2) (hx : LogP b w2 lx v1 W e1 s' r' Z c') (hn : ∀ k, LOwn lx s' r' k → LOwn lx s1 r1 k ∨ w.heap.size ≤ k) : Duo b w2 lx ly v1 v2 W e1 e2 s' s2 r' r2 Z Y c' d :=
  ⟨hx, h.y.other h.x hk (fun k e e2 => h.off k e2 e), fun k e e2 => by
    rcases hn k e with e | e
    · exact h.off k e e2
    · have := h.y.1.lt k e2; omega⟩
theorem Duo.stepY (h : Duo b w lx ly v1 v2 W e1 e2 s1 s2 r1 r2 X Y c d) (hk : KeptOff (LOwn ly s2 r2) w w2) (hy : LogP b w2 ly v2 W e2 s' r' Z c') (hn : ∀ k, LOwn ly s' r' k → LOwn ly s2 r2 k ∨ w.heap.size ≤ k) : Duo b w2 lx ly v1 v2 W e1 e2 s1 s' r1 r' X Z c c' :=
  ⟨h.x.other h.y hk (fun k e e2 => h.off k e e2), hy, fun k e e2 => by
    rcases hn k e2 with e3 | e3
    · exact h.off k e e3
    · have := h.x.1.lt k e; omega⟩
end
/-- What Drop and Back leave: the entries told, and the log. -/
def OutQ (b w : World) (lb : Nat) (v : Wv) (W : Wd) (every : Int) (sv : Value) (ss : List Sth) (T : List En) (x' : Pl) (c' : Nat) (o : Value) (w' : World) : Prop :=
  (∃ L, L.map Prod.fst = T ∧ EntsAt w' o L ∧ ∀ k, EOwn o L k → w.heap.size ≤ k) ∧ KeptOff (LOwn lb sv ss) w w' ∧ ∃ sv' ss', LogP b w' lb v W every sv' ss' x' c' ∧ ∀ k, LOwn lb sv' ss' k → LOwn lb sv ss k
/-- What Drop leaves, in plain data. -/
def Pl.cut (x : Pl) (n : Nat) : Pl := ⟨x.es.drop n, x.st, x.stuck⟩
section
variable {b w : World} {eb : Addr} {lb c : Nat} {v : Wv} {W : Wd} {every : Int} {sv : Value} {ss : List Sth} {x : Pl}
theorem LogP.dropped (h : LogP b w lb v W every sv ss x c) (hE : ErrIs b eb) (hT : ErrT b) (hc : c ≤ 1000) (t : Int) :
    Calls Tryz.prog 18 #[.pointer (some ⟨lb, 0, none⟩), .int .i64 t] w fun e w' => ∃ a cc, e = .returned (.slice a (dropN x.es t) cc) ∧ Hid (OutQ b w lb v W every sv ss (x.es.take (dropN x.es t)) (x.cut (dropN x.es t)) (c + c) (.slice a (dropN x.es t) cc) w') := by
  have := lgDrop_any hE hT h.1 hc t
  rw [h.2] at this
  refine this.mono ?_
  rintro e w' ⟨a, cc, rfl, hq⟩
  obtain ⟨⟨L, h1, h2, h3⟩, h4, sv', ss', h5, h6, h7⟩ := hq.out
  rw [h.2] at h1 h6
  exact ⟨a, cc, rfl, ⟨L, h1, h2, h3⟩, h4, sv', ss', ⟨h5, h6⟩, h7⟩
theorem LogP.backed (h : LogP b w lb v W every sv ss x c) (hE : ErrIs b eb) (hT : ErrT b) (hc : c ≤ 1000) {bs : List Int} {lo : Nat} (hb : ∀ x ∈ bs, 0 ≤ x ∧ x ≤ 255) (hs : EvSeq bs lo x.es) (k : Nat) :
    Calls Tryz.prog 14 #[.pointer (some ⟨lb, 0, none⟩), (evM bs k).val] w fun e w' => ∃ a cc, e = .returned (.slice a (x.es.length - min (k - lo) x.es.length) cc) ∧ Hid (OutQ b w lb v W every sv ss (x.es.drop (min (k - lo) x.es.length)).reverse (x.back (min (k - lo) x.es.length)) (c + c) (.slice a (x.es.length - min (k - lo) x.es.length) cc) w') := by
  have hl : total ss = x.es.length := by rw [← toldAll_length W ss, h.2]
  have := lgBack_any hE hT h.1 hc (EvSeq.part hb (by rw [h.2]; exact hs) k)
  rw [hl] at this
  refine this.mono ?_
  rintro e w' ⟨a, cc, rfl, hq⟩
  obtain ⟨⟨L, h1, h2, h3⟩, h4, sv', ss', h5, h6, h7⟩ := hq.out
  rw [h.2] at h1 h5 h6
  rw [hl] at h2 h3
  exact ⟨a, cc, rfl, ⟨L, h1, h2, h3⟩, h4, sv', ss', ⟨h5, h6⟩, h7⟩
end
end Go.Proofs.YtminfmjgmmkaoaaGreatDoor
