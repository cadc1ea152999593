/-
  Back and done again, in plain data; a world that may not be.
-/
import Derived.Test.YtminfmjgmmkaoaaGreatDoorJH
namespace Go.Proofs.YtminfmjgmmkaoaaGreatDoor
open Go.ChangeShapes Go.WideShapes Go.ChangeAt Go.Shelf Go.RowKit Go.Lib Go.Sort Go.Deep
set_option linter.unusedVariables false
set_option maxRecDepth 4000
set_option linter.unusedSimpArgs false

theorem eqlS_same (s : Sta) (w : World) : Sem.run Tryz.prog (binOp .eql 34 (.agg (encSt s).toArray) (.agg (encSt s).toArray)) w = .ok (.bool true) w :=
  eqlS_refl (s.r.getD 0 0) (s.r.getD 1 0) (s.r.getD 2 0) (s.r.getD 3 0) (s.r.getD 4 0) (s.r.getD 5 0) (s.r.getD 6 0) (s.r.getD 7 0) s.d s.s w
theorem evT_mono {bs : List Int} (hb : ∀ x ∈ bs, 0 ≤ x ∧ x ≤ 255) (i k : Nat) : evT bs i ≤ evT bs (i + k) := by
  induction k with
  | zero => exact Int.le_refl _
  | succ k ih =>
    have h2 : 0 ≤ bs.getD (i + k) 0 := by
      by_cases hk : i + k < bs.length
      · exact (hb (bs.getD (i + k) 0) (by simp only [List.getD_eq_getElem?_getD, List.getElem?_eq_getElem hk, Option.getD_some]; exact List.getElem_mem hk)).1
      · simp [List.getD_eq_getElem?_getD, List.getElem?_eq_none (Nat.le_of_not_lt hk)]
    show evT bs i ≤ evT bs (i + k) + bs.getD (i + k) 0
    omega
theorem evM_not_lt {bs : List Int} (hb : ∀ x ∈ bs, 0 ≤ x ∧ x ≤ 255) {i j : Nat} (hij : j ≤ i) : ltM (evM bs i) (evM bs j) = false := by
  have h := evT_mono hb (j + 1) (i - j)
  rw [show j + 1 + (i - j) = i + 1 by omega] at h
  by_cases he : evT bs (i + 1) = evT bs (j + 1)
  · rcases Nat.lt_or_ge j i with hlt | hge
    · have h0 : ¬ ((i : Int) < (j : Int)) := by omega
      have h1 : (j : Int) < (i : Int) := by omega
      have h2 : ¬ ((i : Int) = (j : Int)) := by omega
      simp [ltM, cmpK, evM, he, sgn, h0, h1, h2]
    · obtain rfl : i = j := by omega
      simp [ltM, cmpK, evM, sgn]
  · have h0 : ¬ (evT bs (i + 1) < evT bs (j + 1)) := by omega
    have h1 : evT bs (j + 1) < evT bs (i + 1) := by omega
    simp [ltM, cmpK, evM, he, sgn, h0, h1]
/-- The entries' events are those from number lo on. -/
def EvSeq (bs : List Int) (lo : Nat) (es : List En) : Prop := ∀ i e, es[i]? = some e → e.ev = evM bs (lo + i)
theorem EvSeq.drop {bs : List Int} {lo n : Nat} {es : List En} (h : EvSeq bs lo es) : EvSeq bs (lo + n) (es.drop n) := fun i e he => by
  rw [List.getElem?_drop] at he
  rw [h _ e he, Nat.add_assoc]
theorem EvSeq.take {bs : List Int} {lo n : Nat} {es : List En} (h : EvSeq bs lo es) : EvSeq bs lo (es.take n) := fun i e he => by
  have hl := (List.getElem?_eq_some_iff.1 he).1
  rw [List.length_take] at hl
  rw [List.getElem?_take_of_lt (by omega)] at he
  exact h i e he
/-- Where the k-th event parts them. -/
theorem EvSeq.part {bs : List Int} {lo : Nat} {W : Wd} {ss : List Sth} (hb : ∀ x ∈ bs, 0 ≤ x ∧ x ≤ 255) (h : EvSeq bs lo (toldAll W ss)) (k : Nat) : PartA W (evM bs k) ss (min (k - lo) (total ss)) := by
  refine ⟨Nat.min_le_right _ _, fun i e he => ?_⟩
  have hl := (List.getElem?_eq_some_iff.1 he).1
  rw [toldAll_length] at hl
  rw [h i e he]
  refine ⟨fun hi => evM_lt hb (by omega), fun hi => evM_not_lt hb (by omega)⟩
/-- What holds of a log behind events 0 to n - 1. -/
structure PlOk (bs : List Int) (n : Nat) (x : Pl) : Prop where
  seq : EvSeq bs 0 x.es
  le : x.es.length ≤ n
  all : x.stuck = false → x.es.length = n
  last : x.stuck = true → ∃ e, x.es.getLast? = some e ∧ e.fl ≠ 0
theorem PlOk.zero (bs : List Int) : PlOk bs 0 Pl.zero := ⟨fun i e he => by simp [Pl.zero] at he, Nat.le_refl _, fun _ => rfl, fun h => by cases h⟩
theorem PlOk.more {bs : List Int} {n : Nat} {x : Pl} {W : Wd} {uid : Int} (h : PlOk bs n x) : PlOk bs (n + 1) (x.more W (evM bs n) uid) := by
  obtain ⟨es, st, stuck⟩ := x
  cases stuck with
  | true => exact ⟨h.seq, by have := h.le; simp only [Pl.more, if_true] at this ⊢; omega, (fun e => by cases e), h.last⟩
  | false =>
    have hl := h.all rfl
    simp only at hl
    refine ⟨fun i e he => ?_, by simp [Pl.more, hl], fun _ => by simp [Pl.more, hl], fun hs => ⟨_, by simp only [Pl.more, Bool.false_eq_true, if_false]; exact List.getLast?_concat, ?_⟩⟩
    · simp only [Pl.more, Bool.false_eq_true, if_false] at he
      by_cases hi : i < es.length
      · rw [List.getElem?_append_left hi] at he
        exact h.seq i e he
      · have hi2 : i = es.length := by
          have := (List.getElem?_eq_some_iff.1 he).1
          simp at this
          omega
        rw [hi2, List.getElem?_append_right (Nat.le_refl _), Nat.sub_self] at he
        simp at he
        rw [← he, hi2, hl, Nat.zero_add]
    · simp only [Pl.more, Bool.false_eq_true, if_false] at hs
      simpa using hs
theorem PlOk.run {W : Wd} {bs : List Int} {uid : Nat → Int} : ∀ (n : Nat), PlOk bs n (Pl.run W bs uid 0 n Pl.zero)
  | 0 => .zero bs
  | n + 1 => by
    rw [Pl.run_succ, Nat.zero_add]
    exact (PlOk.run n).more
theorem Pl.run_add (W : Wd) (bs : List Int) (uid : Nat → Int) : ∀ (n m k : Nat) (x : Pl), Pl.run W bs uid k (n + m) x = Pl.run W bs uid (k + n) m (Pl.run W bs uid k n x)
  | 0, m, k, x => by simp [Pl.run]
  | n + 1, m, k, x => by
    rw [show n + 1 + m = (n + m) + 1 by omega]
    show Pl.run W bs uid (k + 1) (n + m) _ = _
    rw [Pl.run_add W bs uid n m (k + 1)]
    rw [show k + 1 + n = k + (n + 1) by omega]
    rfl
theorem Pl.run_stuck (W : Wd) (bs : List Int) (uid : Nat → Int) : ∀ (n k : Nat) (x : Pl), x.stuck = true → Pl.run W bs uid k n x = x
  | 0, _, _, _ => rfl
  | n + 1, k, x, h => by
    show Pl.run W bs uid (k + 1) n (x.more W (evM bs k) (uid k)) = x
    have e : x.more W (evM bs k) (uid k) = x := by simp [Pl.more, h]
    rw [e]
    exact Pl.run_stuck W bs uid n (k + 1) x h
/-- What is done later leaves what is there. -/
theorem Pl.run_pre (W : Wd) (bs : List Int) (uid : Nat → Int) : ∀ (n k : Nat) (x : Pl), x.es <+: (Pl.run W bs uid k n x).es
  | 0, _, x => List.prefix_refl _
  | n + 1, k, x => by
    refine List.IsPrefix.trans ?_ (Pl.run_pre W bs uid n (k + 1) _)
    unfold Pl.more
    split
    · exact List.prefix_refl _
    · exact List.prefix_append _ _
/-- What Back leaves, in plain data. -/
def Pl.back (x : Pl) (p : Nat) : Pl := ⟨x.es.take p, backSt x.st (x.es.drop p).reverse, backStuck x.stuck (x.es.drop p).reverse⟩
theorem backStuck_last {stuck : Bool} {es : List En} {p : Nat} {e : En} (h : es.getLast? = some e) (hp : p < es.length) (hf : e.fl ≠ 0) : backStuck stuck (es.drop p).reverse = false := by
  unfold backStuck
  have hm : e ∈ (es.drop p).reverse := by
    rw [List.mem_reverse]
    rw [List.getLast?_eq_getElem?] at h
    have : (es.drop p)[es.length - 1 - p]? = some e := by
      rw [List.getElem?_drop, show p + (es.length - 1 - p) = es.length - 1 by omega]
      exact h
    exact List.mem_of_getElem? this
  have : (es.drop p).reverse.all (fun e => e.fl == 0) = false := by
    rw [Bool.eq_false_iff]
    intro ha
    have := List.all_eq_true.1 ha e hm
    simp at this
    exact hf this
  rw [this, Bool.and_false]
/-- Back to event k, and done again. -/
theorem Pl.back_again (W : Wd) (bs : List Int) (uid : Nat → Int) {n k : Nat} (hk : k < n) : Pl.run W bs uid k (n - k) ((Pl.run W bs uid 0 n Pl.zero).back (min k (Pl.run W bs uid 0 n Pl.zero).es.length)) = Pl.run W bs uid 0 n Pl.zero := by
  have hok := PlOk.run (W := W) (bs := bs) (uid := uid) n
  by_cases hlen : k < (Pl.run W bs uid 0 n Pl.zero).es.length
  · have hsplit : Pl.run W bs uid 0 n Pl.zero = Pl.run W bs uid k (n - k) (Pl.run W bs uid 0 k Pl.zero) := by
      have := Pl.run_add W bs uid k (n - k) 0 Pl.zero
      rw [Nat.zero_add, show k + (n - k) = n by omega] at this
      exact this
    have hz := PlOk.run (W := W) (bs := bs) (uid := uid) k
    have hns : (Pl.run W bs uid 0 k Pl.zero).stuck = false := by
      cases hs : (Pl.run W bs uid 0 k Pl.zero).stuck with
      | false => rfl
      | true =>
        have e := Pl.run_stuck W bs uid (n - k) k _ hs
        rw [hsplit, e] at hlen
        have := hz.le
        omega
    have hzl := hz.all hns
    suffices hy : (Pl.run W bs uid 0 n Pl.zero).back (min k (Pl.run W bs uid 0 n Pl.zero).es.length) = Pl.run W bs uid 0 k Pl.zero by
      rw [hy]
      exact hsplit.symm
    rw [Nat.min_eq_left (by omega)]
    -- the entry at k
    have hmore : ∃ r, (Pl.run W bs uid 0 n Pl.zero).es = (Pl.run W bs uid 0 k Pl.zero).es ++ [⟨evM bs k, (Pl.run W bs uid 0 k Pl.zero).st, (runW W (Pl.run W bs uid 0 k Pl.zero).st (evM bs k)).2.2, mgs W (Pl.run W bs uid 0 k Pl.zero).st.s (evM bs k).k.t (uid k) (runW W (Pl.run W bs uid 0 k Pl.zero).st (evM bs k)).2.1 (runW W (Pl.run W bs uid 0 k Pl.zero).st (evM bs k)).2.1.length⟩] ++ r := by
      have h1 : Pl.run W bs uid 0 n Pl.zero = Pl.run W bs uid (k + 1) (n - k - 1) ((Pl.run W bs uid 0 k Pl.zero).more W (evM bs k) (uid k)) := by
        rw [hsplit]
        have e : n - k = (n - k - 1) + 1 := by omega
        rw [e]
        rfl
      obtain ⟨r, hr⟩ := Pl.run_pre W bs uid (n - k - 1) (k + 1) ((Pl.run W bs uid 0 k Pl.zero).more W (evM bs k) (uid k))
      rw [← h1] at hr
      refine ⟨r, ?_⟩
      rw [← hr]
      simp [Pl.more, hns]
    obtain ⟨r, hr⟩ := hmore
    have hget : (Pl.run W bs uid 0 n Pl.zero).es[k]? = some ⟨evM bs k, (Pl.run W bs uid 0 k Pl.zero).st, (runW W (Pl.run W bs uid 0 k Pl.zero).st (evM bs k)).2.2, mgs W (Pl.run W bs uid 0 k Pl.zero).st.s (evM bs k).k.t (uid k) (runW W (Pl.run W bs uid 0 k Pl.zero).st (evM bs k)).2.1 (runW W (Pl.run W bs uid 0 k Pl.zero).st (evM bs k)).2.1.length⟩ := by
      rw [hr, List.append_assoc, List.getElem?_append_right (by omega), hzl, Nat.sub_self]
      rfl
    have e1 : (Pl.run W bs uid 0 n Pl.zero).es.take k = (Pl.run W bs uid 0 k Pl.zero).es := by
      rw [hr, List.append_assoc, List.take_append_of_le_length (by omega), List.take_of_length_le (by omega)]
    have e2 : backSt (Pl.run W bs uid 0 n Pl.zero).st ((Pl.run W bs uid 0 n Pl.zero).es.drop k).reverse = (Pl.run W bs uid 0 k Pl.zero).st := by
      unfold backSt
      rw [getLast_rev_drop, hget]
      rfl
    have e3 : backStuck (Pl.run W bs uid 0 n Pl.zero).stuck ((Pl.run W bs uid 0 n Pl.zero).es.drop k).reverse = false := by
      cases hs : (Pl.run W bs uid 0 n Pl.zero).stuck with
      | false => rfl
      | true =>
        obtain ⟨e, he, hf⟩ := hok.last hs
        exact backStuck_last he hlen hf
    unfold Pl.back
    rw [e1, e2, e3, ← hns]
  · have hs : (Pl.run W bs uid 0 n Pl.zero).stuck = true := by
      cases hs : (Pl.run W bs uid 0 n Pl.zero).stuck with
      | true => rfl
      | false => have := hok.all hs; omega
    have hb : (Pl.run W bs uid 0 n Pl.zero).back (min k (Pl.run W bs uid 0 n Pl.zero).es.length) = Pl.run W bs uid 0 n Pl.zero := by
      rw [Nat.min_eq_right (by omega)]
      unfold Pl.back
      rw [List.take_length, List.drop_length]
      simp [backSt, backStuck]
    rw [hb]
    exact Pl.run_stuck W bs uid _ _ _ hs
/-- The last event of a log. -/
theorem LogIs.lastEv {b w : World} {lb c : Nat} {v : Wv} {W : Wd} {every : Int} {sv : Value} {ss : List Sth} {st : Sta} {stuck : Bool} (h : LogIs b w lb v W every sv ss st stuck c) : (lastP ss).map (·.ev) = ((toldAll W ss).getLast?).map (·.ev) := by
  obtain ⟨pre, s, rfl⟩ := ss_snoc h.of.pos
  rw [lastP_snoc, toldAll_append]
  rcases List.eq_nil_or_concat s.L with h0 | ⟨L, p, h0⟩
  · have h1 := h.full s (List.mem_append_right _ (List.mem_singleton.2 rfl)) h0
    have hp : pre = [] := by
      cases pre with
      | nil => rfl
      | cons a r => simp at h1
    subst hp
    simp [h0, toldAll, told]
  · rw [List.concat_eq_append] at h0
    have e : toldAll W [s] = told W s.kept L ++ [⟨p.ev, behind W s.kept L, p.fl, p.sent⟩] := by simp [toldAll, h0, told_append, told]
    rw [e, ← List.append_assoc, List.getLast?_concat, h0]
    simp
theorem LogIs.ahead {b w : World} {lb c : Nat} {v : Wv} {W : Wd} {every : Int} {sv : Value} {ss : List Sth} {st : Sta} {stuck : Bool} (h : LogIs b w lb v W every sv ss st stuck c) {bs : List Int} {lo k : Nat} (hs : EvSeq bs lo (toldAll W ss)) (hk : toldAll W ss ≠ [] → lo + (toldAll W ss).length ≤ k) : AheadOf bs k ss := fun e he => by
  rw [h.lastEv] at he
  cases hl : (toldAll W ss).getLast? with
  | none => rw [hl] at he; cases he
  | some x =>
    rw [hl] at he
    obtain rfl := Option.some.inj he
    rw [List.getLast?_eq_getElem?] at hl
    have h1 := (List.getElem?_eq_some_iff.1 hl).1
    have h2 := hk (fun e => by rw [e] at h1; simp at h1)
    exact ⟨_, by omega, hs _ x hl⟩
end Go.Proofs.YtminfmjgmmkaoaaGreatDoor
