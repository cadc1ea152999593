/-
  The laws' list of rising messages.
  A log in plain data: one event done more.
  One event done: the call, in plain data.
  A log from New; Do where the log is stuck; the laws' rising events done one by one, in plain data.
  Steps taken away from the front: slices.Delete.
-/
import Derived.Test.YtminfmjgmmkaoaaGreatDoorJY
namespace Go.Proofs.YtminfmjgmmkaoaaGreatDoor
open Go.ChangeShapes Go.WideShapes Go.ChangeAt Go.Shelf Go.RowKit Go.Lib Go.Sort Go.Deep
set_option linter.unusedVariables false
set_option maxRecDepth 4000
set_option linter.unusedSimpArgs false

/-- The time that the first k bytes come to. -/
def evT (bs : List Int) : Nat → Int
  | 0 => 0
  | k + 1 => evT bs k + bs.getD k 0
def evM (bs : List Int) (i : Nat) : M := ⟨⟨evT bs (i + 1), -1, i⟩, 0, i, i, false⟩
def evs (bs : List Int) (k : Nat) : List M := (List.range k).map (evM bs)
theorem evs_succ (bs : List Int) (k : Nat) : evs bs (k + 1) = evs bs k ++ [evM bs k] := by simp [evs, List.range_succ]
theorem evT_rng {bs : List Int} (hb : ∀ x ∈ bs, 0 ≤ x ∧ x ≤ 255) : ∀ k, 0 ≤ evT bs k ∧ evT bs k ≤ 255 * k
  | 0 => by simp [evT]
  | k + 1 => by
    have h := evT_rng hb k
    have h2 : 0 ≤ bs.getD k 0 ∧ bs.getD k 0 ≤ 255 := by
      by_cases hk : k < bs.length
      · have := hb (bs.getD k 0) (by simp only [List.getD_eq_getElem?_getD, List.getElem?_eq_getElem hk, Option.getD_some]; exact List.getElem_mem hk)
        exact this
      · simp [List.getD_eq_getElem?_getD, List.getElem?_eq_none (Nat.le_of_not_lt hk)]
    simp only [evT]
    omega
set_option maxHeartbeats 8000000 in
theorem l10events_any {w : World} {ka : Option Addr} {kl kc : Nat} {bs : List Int} (hK : Byts w ka kl kc bs) :
    Calls Tryz.prog 10 #[.slice ka kl kc] w fun e w' => ∃ a c, e = .returned (.slice a (min kl 60) c) ∧ Hid (w'.ownsRow w.heap.size 42 7 (.slice a (min kl 60) c) (min kl 60) (flatM (evs bs (min kl 60))) ∧ Below w.heap.size w w') := by
  have mixed := mixed
  have hrg := evT_rng (bs := bs) (fun x hx => by have := hK.2.2.2.1 x hx; omega)
  have hK' := Lib.hid hK
  have hrg' := Lib.hid hrg
  obtain ⟨i0, hi, hz0, hz1, hz2⟩ := info_parts infoMsg
  clear hK hrg
  go_enter Tryz.func10, Tryz.ntmps10
  go_wp2_with fail
  go_loopw [3, 4, 5] (fun s t i wr => ∃ k : Nat, k ≤ min kl 60 ∧ i = .int .i64 k ∧ t = .int .i64 (evT bs k) ∧ Below w.heap.size w wr ∧ Aside (wr.ownsRow w.heap.size 42 7 s k (flatM (evs bs k)))) (fun _ _ i _ => 60 - (intOf i).toNat)
  case atStart => exact ⟨0, Nat.zero_le _, rfl, rfl, Below.refl _ _, World.ownsRow_nil _ _ _ _⟩
  case round =>
    obtain ⟨k, hk, rfl, rfl, hbk, hown⟩ := hrel
    obtain ⟨qa, qc, rfl⟩ := own_slice hown.out
    have hown' := Lib.hid hown.out
    have hbk' := Lib.hid hbk
    have hkk0 : (0 : Int) ≤ (k : Int) := by omega
    clear hown hbk
    by_cases hlt : k < kl
    · have hlt3 : (k : Int) < (kl : Int) := by omega
      by_cases h60 : k < 60
      · have h603 : (k : Int) < 60 := by omega
        obtain ⟨bb, bo, rfl, hbl, hbx⟩ : ∃ bb bo, ka = some ⟨bb, bo, none⟩ ∧ bb < w.heap.size ∧ ∀ j, j < kl → w.cell? ⟨bb, bo + j, none⟩ = some (.int .u8 (bs.getD j 0)) := by
          rcases hK'.out.2.2.2.2 with h0 | ⟨bb, bo, h1, h2, h3⟩
          · omega
          · exact ⟨bb, bo, h1, h2, h3⟩
        have cbk := (hbk'.out.cell (p := ⟨bb, bo + k, none⟩) hbl).trans (hbx k hlt)
        have r0 := hrg'.out k
        have r1 := hrg'.out (k + 1)
        have hx : evT bs (k + 1) = evT bs k + bs.getD k 0 := rfl
        have a1 : IntKind.i64.wrap (bs.getD k 0) = bs.getD k 0 := IntWalk.i64_in _ (by omega)
        have a2 : IntKind.i64.wrap (evT bs k + bs.getD k 0) = evT bs k + bs.getD k 0 := IntWalk.i64_in _ (by omega)
        have a3 : IntKind.i64.wrap ((k : Int) + 1) = (k : Int) + 1 := IntWalk.i64_in _ (by omega)
        generalize bs.getD k 0 = y at *
        have hE : evM bs k = (⟨⟨evT bs k + y, -1, (k : Int)⟩, 0, (k : Int), (k : Int), false⟩ : M) := by rw [evM, hx]
        have hsu : Hid (evs bs (k + 1) = evs bs k ++ [(⟨⟨evT bs k + y, -1, (k : Int)⟩, 0, (k : Int), (k : Int), false⟩ : M)]) := Lib.hid (by rw [evs_succ, hE])
        have hxx := Lib.hid hx
        clear hbx hx hE r1
        generalize evT bs k = z at *
        have hown2 := Lib.hid (hown'.out.alloc (.cells (M.cells ⟨⟨z + y, -1, (k : Int)⟩, 0, (k : Int), (k : Int), false⟩) 42))
        have hrow := hown'.out.lt
        have hB4 := Lib.hid (hbk'.out.alloc hbk'.out.size (.cells (M.cells ⟨⟨z + y, -1, (k : Int)⟩, 0, (k : Int), (k : Int), false⟩) 42))
        have hnw : Hid (∀ j u, (flatM [(⟨⟨z + y, -1, (k : Int)⟩, 0, (k : Int), (k : Int), false⟩ : M)])[j]? = some u → (wr.alloc (.cells (M.cells ⟨⟨z + y, -1, (k : Int)⟩, 0, (k : Int), (k : Int), false⟩) 42)).cell? ((⟨wr.heap.size, 0, none⟩ : Addr).add j) = some u) := Lib.hid (World.news_of_block (cs := (M.cells ⟨⟨z + y, -1, (k : Int)⟩, 0, (k : Int), (k : Int), false⟩)) (t := 42) (fr := (0, 0)) (heap_alloc_new wr _))
        have hszw := hbk'.out.size
        clear hown' hbk' hbl hK'
        simp only [M.cells] at hown2 hnw hB4
        go_wp2_with (at_builtin; refine wpList_append_own _ rfl _ _ 37 rfl w.heap.size 42 i0 _ 7 56 Tryz.underlying37 hi hz0 hz1 hz2 rfl (by omega) (.slice qa k qc) k (flatM (evs bs k)) rfl hown2.out ⟨wr.heap.size, 0, none⟩ 1 1 (flatM [⟨⟨z + y, -1, (k : Int)⟩, 0, (k : Int), (k : Int), false⟩]) rfl rfl hnw.out (flatM_ones _) (by unfold maxLen; omega) (by omega) (by simp; omega) ?_; intro v2 w4 hown4 hgrow hnil)
        have hown5 : Hid (w4.ownsRow w.heap.size 42 7 v2 (k + 1) (flatM (evs bs (k + 1)))) := Lib.hid (by rw [hsu.out, flatM_append]; exact hown4)
        have hB5 := Lib.hid (hB4.out.grown hgrow (by simp; omega) (fun j hj => (hrow j hj).1))
        clear hown4 hgrow hnil hrow hnw hB4 hown2
        go_wp2
        go_roundw
        case rel => exact ⟨k + 1, by omega, by go_num, by rw [hxx.out], hB5.out, hown5.out⟩
        case measure => simp [intOf]; omega
      · obtain rfl : k = 60 := by omega
        have h603 : ¬ (60 : Int) < 60 := by omega
        have hmin : min kl 60 = 60 := by omega
        rw [hmin]
        clear hrg' hK'
        go_wp2
        go_ret
        exact ⟨qa, qc, rfl, hown'.out, hbk'.out⟩
    · obtain rfl : k = kl := by omega
      have hnl : ¬ (k : Int) < (k : Int) := by omega
      have hmin : min k 60 = k := by omega
      rw [hmin]
      clear hrg' hK'
      go_wp2
      go_ret
      exact ⟨qa, qc, rfl, hown'.out, hbk'.out⟩
end Go.Proofs.YtminfmjgmmkaoaaGreatDoor
namespace Go.Proofs.YtminfmjgmmkaoaaGreatDoor
open Go.ChangeShapes Go.WideShapes Go.ChangeAt Go.Shelf Go.RowKit Go.Lib Go.Sort Go.Deep
set_option linter.unusedVariables false
set_option maxRecDepth 4000
set_option linter.unusedSimpArgs false

/-- A state's counts behind at most c events. -/
def StaBd (c : Nat) (s : Sta) : Prop := 0 ≤ s.d ∧ s.d ≤ 4096 * (c : Int) ∧ 0 ≤ s.s ∧ s.s ≤ 8 * (c : Int)
theorem StaBd.zero : StaBd 0 Sta.zero := by simp [StaBd, Sta.zero]
theorem StaBd.step {c : Nat} {s : Sta} {W : Wd} {m : M} (h : StaBd c s) (hs : s.r.length = 8) : StaBd (c + 1) (runW W s m).1 := by
  obtain ⟨r, d, n⟩ := s
  obtain ⟨r0, r1, r2, r3, r4, r5, r6, r7, rfl⟩ := eight hs
  obtain ⟨h1, h2, h3, h4⟩ := h
  simp only at h1 h2 h3 h4
  rcases later_ways (W := W) (r0 := r0) (r1 := r1) (r2 := r2) (r3 := r3) (r4 := r4) (r5 := r5) (r6 := r6) (r7 := r7) (d := d) (n := n) (ev := m) with ⟨k, _, e⟩ | ⟨k, _, e⟩ | ⟨y0, y1, y2, y3, y4, y5, y6, y7, d', o, e, hl, h5, h6, _⟩
  · rw [e]; simp only [StaBd]; omega
  · rw [e]; simp only [StaBd]; omega
  · have := hl.2
    rw [e]; simp only [StaBd]; omega
theorem StaBd.may {c : Nat} {s : Sta} (h : StaBd c s) (hc : c ≤ 1000000) : s.mayB = true := by
  obtain ⟨h1, h2, h3, h4⟩ := h
  simp only [Sta.mayB, decide_eq_true_eq]
  omega
/-- The last step of the last stretch. -/
def lastP (ss : List Sth) : Option Stp := match ss.getLast? with
  | some s => s.L.getLast?
  | none => none
/-- A log that a law made, behind at most c events. -/
structure LogIs (b w : World) (lb : Nat) (v : Wv) (W : Wd) (every : Int) (sv : Value) (ss : List Sth) (st : Sta) (stuck : Bool) (c : Nat) : Prop where
  of : LogOf w lb v W every sv ss st stuck
  chain : Chain W ss st
  full : ∀ s ∈ ss, s.L = [] → ss.length = 1
  own : ∀ k, LOwn lb sv ss k → b.heap.size ≤ k
  sent : ∀ s ∈ ss, ∀ p ∈ s.L, (∀ k, p.sv.ownBlock = some k → b.heap.size ≤ k) ∧ p.sent.length ≤ 8 ∧ In64 p.ev.v
  kept : ∀ s ∈ ss, StaOk s.kept ∧ StaBd c s.kept
  base : Below b.heap.size b w
  stok : StaOk st ∧ StaBd c st
  cnt : total ss ≤ c
theorem total_append (a b : List Sth) : total (a ++ b) = total a + total b := by simp [total]
theorem total_one (s : Sth) : total [s] = s.L.length := by simp [total]
theorem len_le_total : ∀ {ss : List Sth}, (∀ s ∈ ss, s.L ≠ []) → ss.length ≤ total ss
  | [], _ => Nat.le_refl _
  | s :: ss, h => by
    have h1 := len_le_total (ss := ss) (fun t ht => h t (List.mem_cons_of_mem _ ht))
    have h2 : 0 < s.L.length := List.length_pos_iff.2 (h s (List.mem_cons_self ..))
    have : total (s :: ss) = s.L.length + total ss := by simp [total]
    simp only [List.length_cons]
    omega
theorem LogIs.n {b w : World} {lb c : Nat} {v : Wv} {W : Wd} {every : Int} {sv : Value} {ss : List Sth} {st : Sta} {stuck : Bool} (h : LogIs b w lb v W every sv ss st stuck c) : ss.length ≤ total ss + 1 := by
  by_cases h1 : ss.length = 1
  · omega
  · have := len_le_total (ss := ss) (fun s hs e => h1 (h.full s hs e))
    omega
theorem L_le_total {ss : List Sth} {s : Sth} (hs : s ∈ ss) : s.L.length ≤ total ss := by
  induction ss with
  | nil => cases hs
  | cons t ss ih =>
    have : total (t :: ss) = t.L.length + total ss := by simp [total]
    rcases List.mem_cons.1 hs with rfl | hs
    · omega
    · have := ih hs; omega
theorem LogIs.may {b w : World} {lb c : Nat} {v : Wv} {W : Wd} {every : Int} {sv : Value} {ss : List Sth} {st : Sta} {stuck : Bool} (h : LogIs b w lb v W every sv ss st stuck c) (hc : c ≤ 10000) : LogMay ss :=
  ⟨fun S hS => ⟨(h.kept S hS).1, fun p hp => (h.sent S hS p hp).2.2⟩, by have := h.n; have := h.cnt; omega, fun S hS => by have := L_le_total hS; have := h.cnt; omega, fun S hS p hp => by have := (h.sent S hS p hp).2.1; omega, by have := h.cnt; omega⟩
theorem LogIs.below {b w w' : World} {lb c : Nat} {v : Wv} {W : Wd} {every : Int} {sv : Value} {ss : List Sth} {st : Sta} {stuck : Bool} (h : LogIs b w lb v W every sv ss st stuck c) (hb : Below w.heap.size w w') : LogIs b w' lb v W every sv ss st stuck c :=
  ⟨(h.of.x.below hb).of h.of.every h.of.pos rfl, h.chain, h.full, h.own, h.sent, h.kept, h.base.trans (hb.mono h.base.size), h.stok, h.cnt⟩
theorem Chain.snoc {W : Wd} : ∀ {pre : List Sth} {s t : Sth} {st : Sta}, Chain W (pre ++ [s]) st → t.kept = st → ∀ st2, behind W t.kept t.L = st2 → Chain W (pre ++ [s] ++ [t]) st2
  | [], s, t, st, h, ht, st2, h2 => ⟨by rw [ht]; exact h, h2⟩
  | [a], s, t, st, h, ht, st2, h2 => ⟨h.1, Chain.snoc (pre := []) h.2 ht st2 h2⟩
  | a :: b :: pre, s, t, st, h, ht, st2, h2 => ⟨h.1, Chain.snoc (pre := b :: pre) h.2 ht st2 h2⟩
theorem Chain.last {W : Wd} : ∀ {pre : List Sth} {s t : Sth} {st : Sta}, Chain W (pre ++ [s]) st → t.kept = s.kept → ∀ st2, behind W t.kept t.L = st2 → Chain W (pre ++ [t]) st2
  | [], s, t, st, h, ht, st2, h2 => h2
  | [a], s, t, st, h, ht, st2, h2 => ⟨by rw [ht]; exact h.1, h2⟩
  | a :: b :: pre, s, t, st, h, ht, st2, h2 => ⟨h.1, Chain.last (pre := b :: pre) h.2 ht st2 h2⟩
theorem Chain.end_ {W : Wd} : ∀ {pre : List Sth} {s : Sth} {st : Sta}, Chain W (pre ++ [s]) st → behind W s.kept s.L = st
  | [], s, st, h => h
  | [a], s, st, h => h.2
  | a :: b :: pre, s, st, h => Chain.end_ (pre := b :: pre) h.2
end Go.Proofs.YtminfmjgmmkaoaaGreatDoor
namespace Go.Proofs.YtminfmjgmmkaoaaGreatDoor
open Go.ChangeShapes Go.WideShapes Go.ChangeAt Go.Shelf Go.RowKit Go.Lib Go.Sort Go.Deep
set_option linter.unusedVariables false
set_option maxRecDepth 4000
set_option linter.unusedSimpArgs false

section
variable {W : Wd} {every : Int} {pre : List Sth} {s : Sth} {st : Sta} {v1 : Value} {p : Stp}
theorem put_told (h : Chain W (pre ++ [s]) st) : toldAll W (putSs every pre s st v1 p) = toldAll W (pre ++ [s]) ++ [⟨p.ev, st, p.fl, p.sent⟩] := by
  unfold putSs
  split
  · rw [toldAll_append]
    simp [toldAll, told]
  · rw [toldAll_append, toldAll_append, List.append_assoc]
    congr 1
    have := Chain.end_ h
    simp [toldAll, told_append, this, told]
theorem put_chain (h : Chain W (pre ++ [s]) st) : Chain W (putSs every pre s st v1 p) (runW W st p.ev).1 := by
  unfold putSs
  split
  · exact Chain.snoc h rfl _ rfl
  · refine Chain.last (t := ⟨s.kept, v1, s.L ++ [p]⟩) h rfl _ ?_
    rw [behind_append, Chain.end_ h]
    rfl
theorem put_total : total (putSs every pre s st v1 p) = total (pre ++ [s]) + 1 := by
  unfold putSs
  split
  · rw [total_append, total_one]; rfl
  · rw [total_append, total_append, total_one, total_one]
    simp
    omega
theorem put_mem {t : Sth} (h : t ∈ putSs every pre s st v1 p) : t ∈ pre ++ [s] ∨ t = ⟨st, v1, [p]⟩ ∨ t = ⟨s.kept, v1, s.L ++ [p]⟩ := by
  unfold putSs at h
  split at h
  · rcases List.mem_append.1 h with h | h
    · exact .inl h
    · exact .inr (.inl (List.mem_singleton.1 h))
  · rcases List.mem_append.1 h with h | h
    · exact .inl (List.mem_append_left _ h)
    · exact .inr (.inr (List.mem_singleton.1 h))
theorem put_full (he : 1 ≤ every) (h : ∀ t ∈ pre ++ [s], t.L = [] → (pre ++ [s]).length = 1) : ∀ t ∈ putSs every pre s st v1 p, t.L = [] → (putSs every pre s st v1 p).length = 1 := by
  intro t ht hL
  unfold putSs at ht ⊢
  split at ht
  · rename_i hle
    rcases List.mem_append.1 ht with ht | ht
    · have h1 := h t ht hL
      have hp : pre = [] := by
        cases pre with
        | nil => rfl
        | cons a r => simp at h1
      subst hp
      obtain rfl : t = s := by simpa using ht
      rw [hL] at hle
      simp at hle
      omega
    · obtain rfl := List.mem_singleton.1 ht
      cases hL
  · rcases List.mem_append.1 ht with ht | ht
    · have h1 := h t (List.mem_append_left _ ht) hL
      have hp : pre = [] := by
        cases pre with
        | nil => rfl
        | cons a r => simp at h1
      subst hp
      cases ht
    · obtain rfl := List.mem_singleton.1 ht
      simp at hL
theorem put_pos : 0 < (putSs every pre s st v1 p).length := by
  unfold putSs
  split <;> simp
end
theorem ss_snoc {ss : List Sth} (h : 0 < ss.length) : ∃ pre s, ss = pre ++ [s] := by
  rcases List.eq_nil_or_concat ss with h0 | ⟨pre, s, h0⟩
  · subst h0; simp at h
  · exact ⟨pre, s, by rw [h0, List.concat_eq_append]⟩
theorem lastP_snoc (pre : List Sth) (s : Sth) : lastP (pre ++ [s]) = s.L.getLast? := by simp [lastP]
theorem LogIs.last {b w : World} {lb c : Nat} {v : Wv} {W : Wd} {every : Int} {sv : Value} {ss : List Sth} {st : Sta} {stuck : Bool} (h : LogIs b w lb v W every sv ss st stuck c) (hc : c ≤ 1000) : LastIs w lb ((lastP ss).map (·.ev)) := by
  obtain ⟨pre, s, rfl⟩ := ss_snoc h.of.pos
  rw [lastP_snoc]
  have hn := h.n
  have ht := h.cnt
  have hL := L_le_total (show s ∈ pre ++ [s] from List.mem_append_right _ (List.mem_singleton.2 rfl))
  rcases List.eq_nil_or_concat s.L with h0 | ⟨L, p, h0⟩
  · rw [h0]
    have h1 := h.full s (List.mem_append_right _ (List.mem_singleton.2 rfl)) h0
    have hp : pre = [] := by
      cases pre with
      | nil => rfl
      | cons a r => simp at h1
    subst hp
    exact h.of.x.last_none h.of.pos (by simp [total, h0])
  · rw [List.concat_eq_append] at h0
    have e : s.L.getLast?.map (·.ev) = some p.ev := by rw [h0]; simp
    rw [e]
    have hl : total (pre ++ [s]) ≠ 0 := by
      rw [total_append, total_one, h0]
      simp
    refine h.of.x.last_some h0 (by exact_mod_cast hl) (by simp at hn; omega) ?_
    rw [h0] at hL
    simp at hL
    omega
/-- What Do leaves where the event is done. -/
def DoneQ (b w : World) (lb c : Nat) (v : Wv) (W : Wd) (every : Int) (sv : Value) (ss : List Sth) (st : Sta) (m : M) (st2 : Sta) (fl : Int) (sent : List M) (sa : Option Addr) (n sc : Nat) (w' : World) : Prop :=
  Mgs w' sa n sc sent ∧ (∀ k, (Value.slice sa n sc).ownBlock = some k → w.heap.size ≤ k) ∧ KeptOff (LOwn lb sv ss) w w' ∧ ∃ sv' ss', LogIs b w' lb v W every sv' ss' st2 (fl != 0) (c + 1) ∧ toldAll W ss' = toldAll W ss ++ [⟨m, st, fl, sent⟩] ∧ (∀ k, LOwn lb sv' ss' k → LOwn lb sv ss k ∨ w.heap.size ≤ k) ∧ (lastP ss').map (·.ev) = some m
theorem put_last {every : Int} {pre : List Sth} {s : Sth} {st : Sta} {v1 : Value} {p : Stp} : (lastP (putSs every pre s st v1 p)).map (·.ev) = some p.ev := by
  unfold putSs
  split
  · rw [lastP_snoc]; rfl
  · rw [lastP_snoc]; simp
theorem LogIs.doOk {b w : World} {lb c : Nat} {v : Wv} {W : Wd} {every : Int} {sv : Value} {ss : List Sth} {st : Sta} {eb : Addr} (h : LogIs b w lb v W every sv ss st false c) (hc : c ≤ 1000) (hE : ErrIs b eb) (hT : ErrT b) (hcw : checkW W = 0) {m : M} (hm : chkM m = 0) (ha : m.anti = false) (hev : In64 m.v)
    (hf : followsB ((lastP ss).map (·.ev)) m = true) {uid : Int} (hu : 0 ≤ uid ∧ uid ≤ 1099511627776) {st2 : Sta} {os : List Ot} {fl : Int} (hrun : runW W st m = (st2, os, fl)) :
    Calls Tryz.prog 11 #[.pointer (some ⟨lb, 0, none⟩), m.val, .int .i64 uid, .slice none 0 0] w fun x w' => ∃ sa sc, x = .returned (.tuple #[.agg (entC m st fl (.slice sa os.length sc)).toArray, .int .i64 0]) ∧ Hid (DoneQ b w lb c v W every sv ss st m st2 fl (mgs W st.s m.k.t uid os os.length) sa os.length sc w') := by
  have hla := h.last hc
  have hn := h.n
  have hcn := h.cnt
  have hlate := run_lateA (st := st) h.stok.1.len hrun
  have hos : os.length ≤ 8 := hlate.2
  have hb := h.base
  have href := h.of.x.refuses (m := m) (uid := uid) h.of.pos (by omega) hla hf (by simp [lcountB]; omega)
  have hr0 : refP m false = 0 := by unfold refP; simp [hm, ha]
  obtain ⟨pre, s, rfl⟩ := ss_snoc h.of.pos
  have hsm : s ∈ pre ++ [s] := List.mem_append_right _ (List.mem_singleton.2 rfl)
  have hLt := L_le_total hsm
  have hnext : ∀ w', Below w.heap.size w w' → Calls Tryz.prog 30 #[.pointer (some ⟨lb, 0, none⟩), m.val, .int .i64 uid, .slice none 0 0] w' (NextR w' st m uid [] (st2, os, fl) W) := fun w' hb' => by
    have hx := h.below hb'
    have := lgNext_ok (w := w') (uid := uid) (fun w2 hb2 => hr0 ▸ href w2 (hb'.trans (hb2.mono hb'.size))) hx.of.row hx.of.rd.wds (hE.below hx.base) (hT.below hx.base) hx.stok.1 hev hcw hm (hx.stok.2.may (by omega)) (by omega) (ka := none) (kn := 0) (kc := 0) (kept := []) ⟨rfl, Nat.le_refl _, Nat.zero_le _, .inl rfl⟩ (fun k e => by cases e)
    rwa [hrun] at this
  have hlen : (pre ++ [s]).length = pre.length + 1 := by simp
  refine (lgDo_ok h.of.x (by omega) (by omega) (by omega) (by omega) hnext).mono ?_
  rintro x w' ⟨sa, sc, rfl, hq⟩
  obtain ⟨h1, h2, sv', v1, p, hp, h3, h4, h5, h6⟩ := hq.out
  rw [name_first] at h1 hp
  have hst2 : st2 = (runW W st m).1 := by rw [hrun]
  have hpe : p.ev = m := by rw [hp]
  have hpf : p.fl = fl := by rw [hp]
  have hps : p.sent = mgs W st.s m.k.t uid os os.length := by rw [hp]
  have hB' : Below b.heap.size b w' := hb.trans (h4.below (fun k _ e => h.own k e) hb.size)
  refine ⟨sa, sc, rfl, h1, h2, h4, sv', putSs every pre s st v1 p, ⟨h3.of h.of.every put_pos (by rw [put_total]; push_cast; rfl), ?_, put_full h.of.every.1 h.full, fun k e => ?_, fun t ht q hq => ?_, fun t ht => ?_, hB', ?_, by rw [put_total]; omega⟩, ?_, h5, by rw [put_last, hpe]⟩
  · rw [hst2, ← hpe]; exact put_chain h.chain
  · rcases h5 k e with e | e
    · exact h.own k e
    · exact Nat.le_trans hb.size e
  · have hnew : (∀ k, p.sv.ownBlock = some k → b.heap.size ≤ k) ∧ p.sent.length ≤ 8 ∧ In64 p.ev.v := ⟨fun k e => Nat.le_trans hb.size (h6 k e), by rw [hps, mgs_length]; omega, by rw [hpe]; exact hev⟩
    rcases put_mem ht with ht | rfl | rfl
    · exact h.sent t ht q hq
    · obtain rfl := List.mem_singleton.1 hq
      exact hnew
    · rcases List.mem_append.1 hq with hq | hq
      · exact h.sent s hsm q hq
      · obtain rfl := List.mem_singleton.1 hq
        exact hnew
  · have up : ∀ {z : Sta}, StaBd c z → StaBd (c + 1) z := fun {z} hz => by
      obtain ⟨a1, a2, a3, a4⟩ := hz
      refine ⟨a1, ?_, a3, ?_⟩ <;> push_cast <;> omega
    rcases put_mem ht with ht | rfl | rfl
    · exact ⟨(h.kept t ht).1, up (h.kept t ht).2⟩
    · exact ⟨h.stok.1, up h.stok.2⟩
    · exact ⟨(h.kept s hsm).1, up (h.kept s hsm).2⟩
  · rw [hst2]
    exact ⟨runW_ok h.stok.1 hev, h.stok.2.step h.stok.1.len⟩
  · rw [put_told h.chain, hpe, hpf, hps]
end Go.Proofs.YtminfmjgmmkaoaaGreatDoor
namespace Go.Proofs.YtminfmjgmmkaoaaGreatDoor
open Go.ChangeShapes Go.WideShapes Go.ChangeAt Go.Shelf Go.RowKit Go.Lib Go.Sort Go.Deep
set_option linter.unusedVariables false
set_option maxRecDepth 4000
set_option linter.unusedSimpArgs false

theorem LogIs.doNo {b w : World} {lb c : Nat} {v : Wv} {W : Wd} {every : Int} {sv : Value} {ss : List Sth} {st : Sta} (h : LogIs b w lb v W every sv ss st true c) (hc : c ≤ 1000) {m : M} (hm : chkM m = 0) (ha : m.anti = false)
    (hf : followsB ((lastP ss).map (·.ev)) m = true) {uid : Int} (hu : 0 ≤ uid ∧ uid ≤ 1099511627776) {kv : Value} :
    Calls Tryz.prog 11 #[.pointer (some ⟨lb, 0, none⟩), m.val, .int .i64 uid, kv] w fun x w' => x = .returned (.tuple #[.agg z19, .int .i64 5]) ∧ Below w.heap.size w w' := by
  have hcn := h.cnt
  have href := h.of.x.refuses (m := m) (uid := uid) h.of.pos (by omega) (h.last hc) hf (by simp [lcountB]; omega)
  have hr0 : refP m true = 5 := by unfold refP; simp [hm, ha]
  refine lgDo_no (e := 5) (by omega) fun w' hb => ?_
  refine (lgNext_no (w := w') (e := 5) (fun w2 hb2 => hr0 ▸ href w2 (hb.trans (hb2.mono hb.size))) (by omega)).mono ?_
  rintro x w2 ⟨rfl, hq⟩
  exact ⟨z19, z10, rfl, rfl, rfl, z19_one, z10_one, hq⟩
/-- A log in plain data. -/
structure Pl where
  es : List En
  st : Sta
  stuck : Bool
def Pl.zero : Pl := ⟨[], Sta.zero, false⟩
def Pl.more (W : Wd) (x : Pl) (m : M) (uid : Int) : Pl := if x.stuck then x else ⟨x.es ++ [⟨m, x.st, (runW W x.st m).2.2, mgs W x.st.s m.k.t uid (runW W x.st m).2.1 (runW W x.st m).2.1.length⟩], (runW W x.st m).1, (runW W x.st m).2.2 != 0⟩
/-- The log in memory is that in plain data. -/
def LogP (b w : World) (lb : Nat) (v : Wv) (W : Wd) (every : Int) (sv : Value) (ss : List Sth) (x : Pl) (c : Nat) : Prop := LogIs b w lb v W every sv ss x.st x.stuck c ∧ toldAll W ss = x.es
theorem evM_chk {bs : List Int} (hb : ∀ x ∈ bs, 0 ≤ x ∧ x ≤ 255) {i : Nat} (hi : i < 1000) : chkM (evM bs i) = 0 ∧ (evM bs i).anti = false ∧ In64 (evM bs i).v := by
  have h := evT_rng hb (i + 1)
  refine ⟨?_, rfl, ?_⟩
  · unfold chkM evM
    rw [if_pos]
    simp only
    omega
  · simp only [evM, In64]
    omega
theorem ltM_of {a b : M} (h : a.k.t < b.k.t ∨ (a.k.t = b.k.t ∧ a.k.f = b.k.f ∧ a.k.s < b.k.s)) : ltM a b = true := by
  rcases h with h | ⟨h1, h2, h3⟩
  · have h0 : a.k.t ≠ b.k.t := by omega
    simp [ltM, cmpK, h0, sgn, h]
  · have h0 : a.k.s ≠ b.k.s := by omega
    simp [ltM, cmpK, h1, h2, sgn, h3]
theorem evM_lt {bs : List Int} (hb : ∀ x ∈ bs, 0 ≤ x ∧ x ≤ 255) {i j : Nat} (hij : i < j) : ltM (evM bs i) (evM bs j) = true := by
  have hm : ∀ k, evT bs (i + 1) ≤ evT bs (i + 1 + k) := fun k => by
    induction k with
    | zero => exact Int.le_refl _
    | succ k ih =>
      have h2 : 0 ≤ bs.getD (i + 1 + k) 0 := by
        by_cases hk : i + 1 + k < bs.length
        · exact (hb (bs.getD (i + 1 + k) 0) (by simp only [List.getD_eq_getElem?_getD, List.getElem?_eq_getElem hk, Option.getD_some]; exact List.getElem_mem hk)).1
        · simp [List.getD_eq_getElem?_getD, List.getElem?_eq_none (Nat.le_of_not_lt hk)]
      show evT bs (i + 1) ≤ evT bs (i + 1 + k) + bs.getD (i + 1 + k) 0
      omega
  have h := hm (j - i)
  rw [show i + 1 + (j - i) = j + 1 by omega] at h
  have hne : ¬ ((j : Int) = (i : Int)) := by omega
  refine ltM_of ?_
  by_cases he : evT bs (i + 1) = evT bs (j + 1)
  · exact .inr ⟨he, rfl, by show (i : Int) < (j : Int); omega⟩
  · exact .inl (by show evT bs (i + 1) < evT bs (j + 1); omega)
/-- Every event done so far is ahead of number i. -/
def AheadOf (bs : List Int) (i : Nat) (ss : List Sth) : Prop := ∀ e, (lastP ss).map (·.ev) = some e → ∃ j, j < i ∧ e = evM bs j
theorem AheadOf.follows {bs : List Int} (hb : ∀ x ∈ bs, 0 ≤ x ∧ x ≤ 255) {i : Nat} {ss : List Sth} (h : AheadOf bs i ss) : followsB ((lastP ss).map (·.ev)) (evM bs i) = true := by
  cases hl : (lastP ss).map (·.ev) with
  | none => rfl
  | some e =>
    obtain ⟨j, hj, rfl⟩ := h e hl
    exact evM_lt hb hj
/-- Events k to n - 1 done. -/
def Pl.run (W : Wd) (bs : List Int) (uid : Nat → Int) : Nat → Nat → Pl → Pl
  | _, 0, x => x
  | k, n + 1, x => Pl.run W bs uid (k + 1) n (x.more W (evM bs k) (uid k))
theorem Pl.run_succ (W : Wd) (bs : List Int) (uid : Nat → Int) : ∀ (n k : Nat) (x : Pl), Pl.run W bs uid k (n + 1) x = (Pl.run W bs uid k n x).more W (evM bs (k + n)) (uid (k + n))
  | 0, k, x => rfl
  | n + 1, k, x => by
    show Pl.run W bs uid (k + 1) (n + 1) _ = _
    rw [Pl.run_succ W bs uid n (k + 1)]
    rw [show k + 1 + n = k + (n + 1) by omega]
    rfl
theorem LogP.doStep {b w : World} {lb c : Nat} {v : Wv} {W : Wd} {every : Int} {sv : Value} {ss : List Sth} {x : Pl} {eb : Addr} {bs : List Int} (h : LogP b w lb v W every sv ss x c) (hbs : ∀ x ∈ bs, 0 ≤ x ∧ x ≤ 255) (hc : c ≤ 900) (hE : ErrIs b eb) (hT : ErrT b) (hcw : checkW W = 0) {i : Nat} (hi : i < 1000) (ha : AheadOf bs i ss) {uid : Int} (hu : 0 ≤ uid ∧ uid ≤ 1099511627776) :
    Calls Tryz.prog 11 #[.pointer (some ⟨lb, 0, none⟩), (evM bs i).val, .int .i64 uid, .slice none 0 0] w fun r w' => (∃ u, r = .returned (.tuple u)) ∧ Hid (∃ sv' ss', LogP b w' lb v W every sv' ss' (x.more W (evM bs i) uid) (c + 1) ∧ AheadOf bs (i + 1) ss' ∧ KeptOff (LOwn lb sv ss) w w' ∧ ∀ k, LOwn lb sv' ss' k → LOwn lb sv ss k ∨ w.heap.size ≤ k) := by
  obtain ⟨es, st, stuck⟩ := x
  obtain ⟨h1, h2⟩ := h
  simp only at h1 h2
  obtain ⟨hm, hn, hv⟩ := evM_chk hbs hi
  cases stuck with
  | true =>
    refine (h1.doNo (by omega) hm hn (ha.follows hbs) hu).mono ?_
    rintro r w' ⟨rfl, hb⟩
    refine ⟨⟨_, rfl⟩, sv, ss, ⟨?_, h2⟩, fun e he => ?_, .of_below hb, fun k e => .inl e⟩
    · have h3 := h1.below hb
      have up : ∀ {z : Sta}, StaBd c z → StaBd (c + 1) z := fun {z} hz => by
        obtain ⟨a1, a2, a3, a4⟩ := hz
        refine ⟨a1, ?_, a3, ?_⟩ <;> push_cast <;> omega
      exact ⟨h3.of, h3.chain, h3.full, h3.own, h3.sent, fun s hs => ⟨(h3.kept s hs).1, up (h3.kept s hs).2⟩, h3.base, ⟨h3.stok.1, up h3.stok.2⟩, by have := h3.cnt; omega⟩
    · obtain ⟨j, hj, e⟩ := ha e he
      exact ⟨j, by omega, e⟩
  | false =>
    obtain ⟨⟨st2, os, fl⟩, hrun⟩ : ∃ r, runW W st (evM bs i) = r := ⟨_, rfl⟩
    refine (h1.doOk (by omega) hE hT hcw hm hn hv (ha.follows hbs) hu hrun).mono ?_
    rintro r w' ⟨sa, sc, rfl, hq⟩
    obtain ⟨_, _, h3, sv', ss', h4, h5, h6, h7⟩ := hq.out
    refine ⟨⟨_, rfl⟩, sv', ss', ⟨?_, ?_⟩, fun e he => ⟨i, by omega, ?_⟩, h3, h6⟩
    · simp only [Pl.more, hrun]
      exact h4
    · simp only [Pl.more, hrun, h5, h2]
      rfl
    · rw [h7] at he
      exact (Option.some.inj he).symm
theorem NewQ.logP {b w w' : World} {lb : Nat} {W : Wd} {every : Int} (h : NewQ w W every lb w') (hb : Below b.heap.size b w) (he : 1 ≤ every ∧ every ≤ 1024) : ∃ v sv ss, LogP b w' lb v W every sv ss Pl.zero 0 ∧ (∀ bs, AheadOf bs 0 ss) ∧ ∀ k, LOwn lb sv ss k → w.heap.size ≤ k := by
  obtain ⟨h1, h2, v, g, h3, h4⟩ := h
  have hown : ∀ k, LOwn lb (.slice (some ⟨g, 0, none⟩) 1 1) [⟨Sta.zero, .slice none 0 0, []⟩] k → w.heap.size ≤ k := by
    rintro k (e | e | ⟨s, hs, e⟩)
    · omega
    · simp [Value.ownBlock] at e; omega
    · obtain rfl := List.mem_singleton.1 hs; cases e
  refine ⟨v, .slice (some ⟨g, 0, none⟩) 1 1, [⟨Sta.zero, .slice none 0 0, []⟩], ⟨⟨h4, rfl, fun s hs _ => rfl, fun k e => Nat.le_trans hb.size (hown k e), fun s hs p hp => ?_, fun s hs => ?_, hb.trans (h2.mono hb.size), ⟨StaOk.zero, StaBd.zero⟩, Nat.le_refl _⟩, rfl⟩, fun bs e he => ?_, hown⟩
  · obtain rfl := List.mem_singleton.1 hs; cases hp
  · obtain rfl := List.mem_singleton.1 hs; exact ⟨StaOk.zero, StaBd.zero⟩
  · simp [lastP] at he
end Go.Proofs.YtminfmjgmmkaoaaGreatDoor
namespace Go.Proofs.YtminfmjgmmkaoaaGreatDoor
open Go.ChangeShapes Go.WideShapes Go.ChangeAt Go.Shelf Go.RowKit Go.Lib Go.Sort Go.Deep
set_option linter.unusedVariables false
set_option maxRecDepth 4000
set_option linter.unusedSimpArgs false

section
variable {P : Program} {w w' : World} {e : TypeId} {sz g off n cap : Nat} {xs : List Value}
theorem RowIn.roomK (h : RowIn w e sz g off n cap xs) (t ty : TypeId) (i : TypeInfo) (ht : P.underlying t = some (.slice e)) (hi : P.info? e = some i) (hsize : i.size = sz) (ad : Option Addr) (m c : Nat) (news : List Value) (hl : news.length = m * sz)
    (hnews : 0 < m → ∃ a : Addr, ad = some a ∧ ∀ j u, news[j]? = some u → w.cell? (a.add j) = some u) (h1 : ∀ u ∈ news, u.oneCell' = true) (hroom : n + m ≤ cap) :
    ∃ w', (Builtin.append_ #[t, t] ty #[.slice (some ⟨g, off, none⟩) n cap, .slice ad m c]).run P w = .ok (.slice (some ⟨g, off, none⟩) (n + m) cap) w' ∧ RowIn w' e sz g off (n + m) cap (xs ++ news) ∧ KeptOff (fun k => k = g) w w' := by
  subst hsize
  obtain ⟨cur, g0, g2, g3, g4, g5, g6⟩ := h
  have e1 : (n + m) * i.size ≤ cap * i.size := Nat.mul_le_mul_right _ hroom
  rw [Nat.add_mul] at e1
  have hfc : (Builtin.firstCells i.size m (.slice ad m c)).run P w = .ok news.toArray w := by
    by_cases hm : m = 0
    · subst hm
      obtain rfl : news = [] := List.eq_nil_of_length_eq_zero (by omega)
      cases ad <;> simp [Builtin.firstCells, loadCells, loadCellsFrom]
    · obtain ⟨a, rfl, hn⟩ := hnews (by omega)
      exact run_firstCells_some (P := P) w i.size m a m c news hl hn
  have hst := run_storeCells_at P g (off + n * i.size) e news 0 cur w g0 (by omega) h1
  simp only [Nat.add_zero] at hst
  refine ⟨_, ?_, ⟨_, Go.setRow_heap w g cur _ e _ g0, hroom, g3, ?_, by rw [List.length_append, Nat.add_mul]; omega, fun j u hj => ?_⟩, KeptOff.row w g (cur.toList.take (off + n * i.size) ++ news ++ cur.toList.drop (off + n * i.size + news.length)).toArray⟩
  · simp [Builtin.append_, run_underlying ht, sizeOf, typeInfo, hi, Builtin.lenOf, hroom, hfc, Addr.add_lit, hst]
  · simp; omega
  · have e2 : cur.toList.take (off + n * i.size) ++ news ++ cur.toList.drop (off + n * i.size + news.length) = splice cur.toList (off + n * i.size) news := by unfold splice; rw [List.append_assoc]
    have e3 : off + n * i.size + news.length ≤ cur.toList.length := by
      have : cur.toList.length = cur.size := Array.length_toList
      omega
    rw [e2, List.getElem?_toArray, splice_get _ _ _ e3]
    by_cases hj1 : j < n * i.size
    · rw [List.getElem?_append_left (by omega)] at hj
      rw [if_pos (by omega), Array.getElem?_toList]
      exact g6 j u hj
    · rw [List.getElem?_append_right (by omega)] at hj
      have hlt := (List.getElem?_eq_some_iff.1 hj).1
      rw [if_neg (by omega), if_pos (by omega), show off + j - (off + n * i.size) = j - xs.length by omega]
      exact hj
theorem RowIn.clearK (h : RowIn w e sz g off n cap xs) (t ty : TypeId) (z : Value) (ht : P.underlying t = some (.slice e)) (hz : ∀ w, (zeroValue e).run P w = .ok z w) (hzs : z.cells.size = sz) (hz1 : ∀ u ∈ z.cells.toList, u.oneCell' = true) (p m c : Nat) (hp : n ≤ p) (hm : 0 < m) (hpm : p + m ≤ cap) :
    ∃ w', (Builtin.clear_ #[t] ty #[.slice (some ⟨g, off + p * sz, none⟩) m c]).run P w = .ok (.tuple #[]) w' ∧ RowIn w' e sz g off n cap xs ∧ KeptOff (fun k => k = g) w w' := by
  have hR := h
  obtain ⟨cur, g0, g2, g3, g4, g5, g6⟩ := h
  have e1 : (p + m) * sz ≤ cap * sz := Nat.mul_le_mul_right _ hpm
  have e2 : n * sz ≤ p * sz := Nat.mul_le_mul_right _ hp
  rw [Nat.add_mul] at e1
  have hzl : (Builtin.zeroCells z.cells m).toList.length = m * sz := by rw [Array.length_toList, size_zeroCells, hzs]
  have hz2 : ∀ u ∈ (Builtin.zeroCells z.cells m).toList, u.oneCell' = true := by
    intro u hu
    simp only [Builtin.zeroCells, Array.toList_map, List.mem_map] at hu
    obtain ⟨x, hx, rfl⟩ := hu
    simp at hx
    have h0 : 0 < z.cells.size := by
      rcases Nat.eq_zero_or_pos z.cells.size with h | h
      · rw [h] at hx; omega
      · exact h
    have hlt := Nat.mod_lt x h0
    rw [getElem!_pos z.cells _ hlt]
    exact hz1 _ (by simp)
  have hst := run_storeCells_at P g (off + p * sz) e _ 0 cur w g0 (by rw [hzl]; omega) hz2
  simp only [Nat.add_zero] at hst
  obtain ⟨m, rfl⟩ : ∃ m', m = m' + 1 := ⟨m - 1, by omega⟩
  refine ⟨_, ?_, ?_, KeptOff.row w g (cur.toList.take (off + p * sz) ++ (Builtin.zeroCells z.cells (m + 1)).toList ++ cur.toList.drop (off + p * sz + (Builtin.zeroCells z.cells (m + 1)).toList.length)).toArray⟩
  · simp [Builtin.clear_, run_underlying ht, hz, hst]
  · have e3 : (cur.toList.take (off + p * sz) ++ (Builtin.zeroCells z.cells (m + 1)).toList ++ cur.toList.drop (off + p * sz + (Builtin.zeroCells z.cells (m + 1)).toList.length)) = splice cur.toList (off + p * sz) (Builtin.zeroCells z.cells (m + 1)).toList := by unfold splice; rw [List.append_assoc]
    have e4 : off + p * sz + (Builtin.zeroCells z.cells (m + 1)).toList.length ≤ cur.toList.length := by
      rw [hzl, Array.length_toList]
      omega
    rw [e3]
    refine ⟨_, Go.setRow_heap w g cur _ e _ g0, g2, g3, by rw [List.size_toArray, length_splice _ _ _ e4, Array.length_toList]; exact g4, g5, fun j u hj => ?_⟩
    have hj' := (List.getElem?_eq_some_iff.1 hj).1
    rw [List.getElem?_toArray, splice_get _ _ _ e4, if_pos (by omega), Array.getElem?_toList]
    exact g6 j u hj
end
section
variable {P : Program} {w : World} {ops : Array Oper} {rest : List Oper} {o : Oper} {a : Act} {Q : Exit → Act → World → Prop} {K : Act → World → Prop} {E : Prop}
theorem wp_append_roomK (s x : Operand) (t : TypeId) (ho : o.op = .call { callee := .builtin .append, args := #[s, x], argTypes := #[t, t] })
    {e : TypeId} {sz g off n cap : Nat} {xs : List Value} (h : RowIn w e sz g off n cap xs) (i : TypeInfo) (ht : P.underlying t = some (.slice e)) (hi : P.info? e = some i) (hsize : i.size = sz) (hs : a.eval s = .slice (some ⟨g, off, none⟩) n cap)
    (ad : Option Addr) (m c : Nat) (news : List Value) (hx : a.eval x = .slice ad m c) (hl : news.length = m * sz) (hnews : 0 < m → ∃ a : Addr, ad = some a ∧ ∀ j u, news[j]? = some u → w.cell? (a.add j) = some u) (h1 : ∀ u ∈ news, u.oneCell' = true) (hroom : n + m ≤ cap) (nm : Nat) (hnm : nm = n + m)
    (hK : ∀ w', Hid (RowIn w' e sz g off nm cap (xs ++ news)) → Hid (KeptOff (fun k => k = g) w w') → K (a.put o.dst (.slice (some ⟨g, off, none⟩) nm cap)) w') : o.wp P a w K Q := by
  subst hnm
  obtain ⟨w', hrun, r1, r2⟩ := h.roomK (P := P) t o.type i ht hi hsize ad m c news hl hnews h1 hroom
  unfold Oper.wp
  simp [execOp, ho, resolve, invoke, builtin, hs, hx, hrun, Result.andThen]
  exact hK w' r1 r2
theorem step_append_roomK (hgd : o.guard = none) (s x : Operand) (t : TypeId) (ho : o.op = .call { callee := .builtin .append, args := #[s, x], argTypes := #[t, t] })
    {e : TypeId} {sz g off n cap : Nat} {xs : List Value} (h : RowIn w e sz g off n cap xs) (i : TypeInfo) (ht : P.underlying t = some (.slice e)) (hi : P.info? e = some i) (hsize : i.size = sz) (hs : a.eval s = .slice (some ⟨g, off, none⟩) n cap)
    (ad : Option Addr) (m c : Nat) (news : List Value) (hx : a.eval x = .slice ad m c) (hl : news.length = m * sz) (hnews : 0 < m → ∃ a : Addr, ad = some a ∧ ∀ j u, news[j]? = some u → w.cell? (a.add j) = some u) (h1 : ∀ u ∈ news, u.oneCell' = true) (hroom : n + m ≤ cap) (nm : Nat) (hnm : nm = n + m)
    (hK : ∀ w', Hid (RowIn w' e sz g off nm cap (xs ++ news)) → Hid (KeptOff (fun k => k = g) w w') → K (a.put o.dst (.slice (some ⟨g, off, none⟩) nm cap)) w') :
    if Region.wanted o (yielded ops a.tmps) = true then Oper.wp P o a w K Q else E := by
  have hw : Region.wanted o (yielded ops a.tmps) = true := by simp [Region.wanted, hgd]
  rw [if_pos hw]
  exact wp_append_roomK s x t ho h i ht hi hsize hs ad m c news hx hl hnews h1 hroom nm hnm hK
theorem wpList_clear_rowK (hgd : o.guard = none) (x : Operand) (t : TypeId) (ho : o.op = .call { callee := .builtin .clear, args := #[x], argTypes := #[t] })
    {e : TypeId} {sz g off n cap : Nat} {xs : List Value} (h : RowIn w e sz g off n cap xs) (z : Value) (ht : P.underlying t = some (.slice e)) (hz : ∀ w, (zeroValue e).run P w = .ok z w) (hzs : z.cells.size = sz) (hz1 : ∀ u ∈ z.cells.toList, u.oneCell' = true)
    (p m c q : Nat) (hx : a.eval x = .slice (some ⟨g, q, none⟩) m c) (hq : q = off + p * sz) (hp : n ≤ p) (hm : 0 < m) (hpm : p + m ≤ cap)
    (hK : ∀ w', Hid (RowIn w' e sz g off n cap xs) → Hid (KeptOff (fun k => k = g) w w') → wpList P ops Q rest (a.put o.dst (.tuple #[])) w') : wpList P ops Q (o :: rest) a w := by
  subst hq
  refine wpList_plain hgd fun K' hK' => ?_
  obtain ⟨w', hrun, r1, r2⟩ := h.clearK (P := P) t o.type z ht hz hzs hz1 p m c hp hm hpm
  unfold Oper.wp
  simp [execOp, ho, resolve, invoke, builtin, hx, hrun, Result.andThen]
  exact hK' _ _ (hK w' r1 r2)
end
theorem flatP_length (l : List Stp) : (l.flatMap encP).length = l.length * 9 := flatOf_length encP_length l
theorem flatP_drop (l : List Stp) (p : Nat) : (l.drop p).flatMap encP = (l.flatMap encP).drop (p * 9) := by
  induction l generalizing p with
  | nil => simp
  | cons a l ih =>
    cases p with
    | zero => simp
    | succ p =>
      rw [List.drop_succ_cons, ih, List.flatMap_cons, Nat.add_mul, Nat.one_mul, Nat.add_comm, ← List.drop_drop]
      congr 1
theorem delP_zero (w : World) : (zeroValue 101).run Tryz.prog w = .ok (.agg #[.int .i64 0, .int .i64 0, .int .i64 0, .int .i64 0, .int .i64 0, .int .i64 0, .bool false, .int .i64 0, .slice none 0 0]) w := by kernel_rfl
theorem infoSp2 : (Tryz.prog.info? 101).map (fun i => (i.zero, i.size, i.bytes)) = some (some (.agg #[.int .i64 0, .int .i64 0, .int .i64 0, .int .i64 0, .int .i64 0, .int .i64 0, .bool false, .int .i64 0, .slice none 0 0]), 9, 88) := infoSp
set_option maxHeartbeats 4000000 in
set_option maxRecDepth 100000 in
theorem deleteSteps_any {w : World} {g off cap : Nat} {l : List Stp} (h : RowIn w 101 9 g off l.length cap (l.flatMap encP)) (p : Nat) (hp0 : 0 < p) (hp : p ≤ l.length) (hl : l.length < 1000000) (hone0 : ∀ q ∈ l, q.sv.oneCell' = true) :
    Calls Tryz.prog 77 #[.slice (some ⟨g, off, none⟩) l.length cap, .int .i64 0, .int .i64 (p : Int)] w fun e w' => e = .returned (.slice (some ⟨g, off, none⟩) (l.length - p) cap) ∧ RowIn w' 101 9 g off (l.length - p) cap ((l.drop p).flatMap encP) ∧ KeptOff (fun k => k = g) w w' := by
  have mixed := mixed
  obtain ⟨i0, hi, hz0, hz1, hz2⟩ := info_parts infoSp2
  have hb := RowIn.bounds h
  have hR1 : RowIn w.drew 101 9 g off 0 cap [] := by
    have := RowIn.part (RowIn.block h (w' := w.drew) rfl) 0 0 (by omega)
    simpa using this
  have hnews : 0 < l.length - p → ∃ a : Addr, (if cap = p then (some ⟨g, off, none⟩ : Option Addr) else some ⟨g, off + p * 9, none⟩) = some a ∧ ∀ j u, ((l.drop p).flatMap encP)[j]? = some u → w.drew.cell? (a.add j) = some u := fun h0 => by
    refine ⟨⟨g, off + p * 9, none⟩, by rw [if_neg (by omega)], fun j u hj => ?_⟩
    rw [flatP_drop, List.getElem?_drop] at hj
    exact RowIn.cellA (RowIn.block h (w' := w.drew) rfl) _ hj
  have hcs : ((l.drop p).flatMap encP).length = (l.length - p) * 9 := by rw [flatP_length, List.length_drop]
  have hfin : Hid (∀ (w4 w5 : World), Hid (KeptOff (fun k => k = g) w.drew w4) → Hid (KeptOff (fun k => k = g) w4 w5) → KeptOff (fun k => k = g) w w5) := Lib.hid (fun w4 w5 k4 k5 => (k4.out.undrew).trans k5.out)
  have hone : ∀ u ∈ (l.drop p).flatMap encP, u.oneCell' = true := fun u hu => by
    obtain ⟨q, hq, hu⟩ := List.mem_flatMap.1 hu
    exact flatP_one q u hu (hone0 q (List.mem_of_mem_drop hq))
  have hc1 : ¬ (0 : Int) = (p : Int) := by omega
  have hc2 : (0 : Int) ≤ (p : Int) := by omega
  have hc5 : (p : Int) ≤ (l.length : Int) := by omega
  have hc8 : l.length ≤ cap := hb.1
  have hc9 : (p : Int) ≤ (cap : Int) := by omega
  have hca : (l.length : Int) ≤ (cap : Int) := by omega
  have hnm : Hid (l.length - p = 0 + (l.length - p)) := by show _ = _; omega
  have hroom : 0 + (l.length - p) ≤ cap := by omega
  have hne0 : ¬ cap = 0 := by omega
  have hne2 : ¬ cap = l.length - p := by omega
  have hd1 : l.length - p ≤ l.length := by omega
  have hd2 : ((l.length - p : Nat) : Int) ≤ (l.length : Int) := by omega
  have hd3 : l.length - (l.length - p) = p := by omega
  have hzz := delP_zero
  clear h hone0
  go_enter Tryz.func77, Tryz.ntmps77
  go_upto_region 5 with (fail)
  go_region_held3 (fun _ => True) (trivial) (first
    | (refine step_append_roomK rfl (.tmp 22) (.tmp 25) 66 rfl hR1 i0 Tryz.underlying66 hi hz1 rfl _ (l.length - p) _ ((l.drop p).flatMap encP) rfl hcs hnews hone hroom (l.length - p) hnm.out ?_; intro w4 hr4 hk4))
  clear hnews hR1 hcs hone
  generalize (if cap = p then (some ⟨g, off, none⟩ : Option Addr) else some ⟨g, off + p * 9, none⟩) = ad1
  go_wp2_with (refine wpList_clear_rowK rfl (.tmp 31) 66 rfl hr4.out (.agg #[.int .i64 0, .int .i64 0, .int .i64 0, .int .i64 0, .int .i64 0, .int .i64 0, .bool false, .int .i64 0, .slice none 0 0]) Tryz.underlying66 hzz rfl (by simp [Value.cells, Value.oneCell']) (l.length - p) _ _ _ rfl (by omega) (by omega) (by omega) (by omega) ?_; intro w5 hr5 hk5)
  go_ret
  exact ⟨rfl, by simpa using hr5.out, hfin.out w4 w5 hk4 hk5⟩
end Go.Proofs.YtminfmjgmmkaoaaGreatDoor
