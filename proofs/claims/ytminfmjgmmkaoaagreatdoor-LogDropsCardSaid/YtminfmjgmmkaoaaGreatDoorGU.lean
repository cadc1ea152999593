/-
  A log's last event out of its memory; whether the program computes at all.
  Names, in plain data: which are old, which are new.
  Try and Do at a log that has just been made; the law of names where the world may not be, where the message may not be done.
  The law of names where the message may not be done.
  The law of names where the message is done.
-/
import Derived.Test.YtminfmjgmmkaoaaGreatDoorGP
namespace Go.Proofs.YtminfmjgmmkaoaaGreatDoor
open Go.ChangeShapes Go.WideShapes Go.ChangeAt Go.Shelf Go.RowKit Go.Lib Go.Sort Go.Deep
set_option linter.unusedVariables false
set_option maxRecDepth 4000
set_option linter.unusedSimpArgs false

section
variable {w : World} {lb : Nat} {v : Wv} {W : Wd} {every len : Int} {sv : Value} {ss : List Sth} {st : Sta} {stuck : Bool}
theorem LogX.form (h : LogX w lb v W every sv ss len st stuck) (hp : 0 < ss.length) : ∃ g off cap, sv = .slice (some ⟨g, off, none⟩) ss.length cap := by
  obtain ⟨g, off, cap, e, _⟩ := RowAt.form h.rd.abv hp
  exact ⟨g, off, cap, e⟩
theorem LogX.last_none (h : LogX w lb v W every sv ss len st stuck) (hp : 0 < ss.length) (hl : len = 0) : LastIs w lb none := fun w' hb => by
  obtain ⟨g, off, cap, rfl⟩ := h.form hp
  subst hl
  exact lgLastM_none (h.below hb).c5 hp (h.below hb).c6
theorem AtP.msg {w : World} {hb o2 n c2 j : Nat} {L : List Stp} {p : Stp} (h : AtP w (.slice (some ⟨hb, o2, none⟩) n c2) L) (hp : L[j]? = some p) : MsgAt w hb (o2 + j * 9) p.ev := by
  rcases h with ⟨e, _⟩ | ⟨g', off', cap', e, hr⟩
  · cases e
  · simp at e
    obtain ⟨⟨rfl, rfl⟩, _, rfl⟩ := e
    have hc : ∀ c u, c < 9 → (encP p)[c]? = some u → w.cell? ⟨hb, o2 + j * 9 + c, none⟩ = some u := fun c u hc hu => by
      have := hr.cell (j := j * 9 + c) (u := u) (by rw [flatOf_get encP_length L j c p hp hc]; exact hu)
      rwa [← Nat.add_assoc] at this
    exact ⟨hr.lt, hc 0 _ (by omega) rfl, hc 1 _ (by omega) rfl, hc 2 _ (by omega) rfl, hc 3 _ (by omega) rfl, hc 4 _ (by omega) rfl, hc 5 _ (by omega) rfl, hc 6 _ (by omega) rfl⟩
theorem LogX.last_some {pre : List Sth} {s : Sth} {L : List Stp} {p : Stp} (h : LogX w lb v W every sv (pre ++ [s]) len st stuck) (hL : s.L = L ++ [p]) (hl : len ≠ 0) (hp : pre.length < 16384) (hn : L.length < 16384) : LastIs w lb (some p.ev) := fun w' hb => by
  have hx := h.below hb
  obtain ⟨g, off, cap, rfl⟩ := h.form (by simp)
  obtain ⟨a2, c2, hv, hc⟩ := RowAt.shape (hx.rd.each s (List.mem_append_right _ (List.mem_singleton.2 rfl)))
  obtain ⟨hb2, o2, c3, hf, _⟩ := RowAt.form (hx.rd.each s (List.mem_append_right _ (List.mem_singleton.2 rfl))) (by rw [hL]; simp)
  have hln : (pre ++ [s]).length = pre.length + 1 := by simp
  have hlL : s.L.length = L.length + 1 := by rw [hL]; simp
  have hsp : AtP w' (.slice (some ⟨hb2, o2, none⟩) s.L.length c3) s.L := hf ▸ hx.rd.each s (List.mem_append_right _ (List.mem_singleton.2 rfl))
  have hms := AtP.msg (j := L.length) (p := p) hsp (by rw [hL]; simp)
  have hx' := hx
  rw [hln] at hx'
  have hcell := AtT.cell (k := pre.length) hx'.rd.abv (s := s) (by simp)
  rw [hf, hlL] at hcell
  exact lgLastM_some hx'.c5 (by omega) hx'.c6 hl hcell (by omega) hms
/-- Whether it may be done. -/
theorem LogX.refuses (h : LogX w lb v W every sv ss len st stuck) (hp : 0 < ss.length) (hl : len < 16384) {l : Option M} (hla : LastIs w lb l) {m : M} (hf : followsB l m = true) {uid : Int} (hu : lcountB uid = true) :
    ∀ w', Below w.heap.size w w' → Calls Tryz.prog 42 #[.pointer (some ⟨lb, 0, none⟩), m.val, .int .i64 uid] w' fun x w2 => x = .returned (.int .i64 (refP m stuck)) ∧ Below w'.heap.size w' w2 := fun w' hb => by
  obtain ⟨g, off, cap, rfl⟩ := h.form hp
  exact lgRefusal_any (h.below hb).c5 hp (h.below hb).c6 hl (h.below hb).c17 (hla.below hb) hf hu
end
theorem refP_no {m : M} {stuck : Bool} (h : refP m stuck = 0) : chkM m = 0 ∧ m.anti = false ∧ stuck = false := by
  unfold refP at h
  split at h
  · omega
  · rename_i h1
    split at h
    · omega
    · rename_i h2
      refine ⟨?_, ?_, by simpa using h2⟩
      · by_cases h3 : chkM m = 0
        · exact h3
        · exact absurd (.inl h3) h1
      · cases h3 : m.anti
        · rfl
        · exact absurd (.inr h3) h1
set_option maxHeartbeats 4000000 in
theorem awake10_any {w : World} {eb : Addr} (hE : ErrIs w eb) : Calls Tryz.prog 9 #[] w fun e w' => e = .returned (.bool true) ∧ Below w.heap.size w w' := by
  have hW : Wds w ⟨none, 0, 0, none, 0, 0⟩ ⟨[], 0, [], 0⟩ := ⟨⟨rfl, Nat.le_refl _, Nat.zero_le _, by simp, .inl rfl⟩, ⟨rfl, Nat.le_refl _, Nat.zero_le _, .inl rfl⟩, by decide, by decide⟩
  have hnew := lgNew_ok (every := 1) hW hE (by decide) (by omega)
  simp only [Wv.val, Sta.val, Sta.cells, Sta.zero, List.map_cons, List.map_nil, List.cons_append, List.nil_append] at hnew
  clear hW hE
  go_enter Tryz.func9, Tryz.ntmps9
  go_wp2_with fail
  refine hnew.mono ?_
  rintro e w1 ⟨lb, rfl, hq⟩
  obtain ⟨hlb, hB, v, g, hg, hL⟩ := hq.out
  have hk := lgKept_any hL.x.c5 (by omega)
  have hB' := Lib.hid hB
  clear hnew hq hB hL
  go_wp2_with (go_at_call 19; refine hk.mono ?_; rintro e w2 ⟨rfl, rfl⟩)
  go_ret
  exact ⟨rfl, hB'.out⟩
end Go.Proofs.YtminfmjgmmkaoaaGreatDoor
namespace Go.Proofs.YtminfmjgmmkaoaaGreatDoor
open Go.ChangeShapes Go.WideShapes Go.ChangeAt Go.Shelf Go.RowKit Go.Lib Go.Sort Go.Deep
set_option linter.unusedVariables false
set_option maxRecDepth 4000
set_option linter.unusedSimpArgs false

/-- Whether number i is to be kept. -/
def chosenB (bs : List Int) (i : Nat) : Bool := decide (i < bs.length) && (bs.getD i 0 % 2 == 1)
/-- The kept ones of the first k. -/
def keptL (S : List M) (bs : List Int) (k : Nat) : List M := ((List.range k).filter (chosenB bs)).map fun i => { S.getD i default with u := (i : Int) }
theorem keptL_succ (S : List M) (bs : List Int) (k : Nat) : keptL S bs (k + 1) = if chosenB bs k then keptL S bs k ++ [{ S.getD k default with u := (k : Int) }] else keptL S bs k := by
  unfold keptL
  rw [List.range_succ, List.filter_append, List.map_append]
  by_cases h : chosenB bs k = true
  · simp [h]
  · simp [h]
theorem keptL_length_le (S : List M) (bs : List Int) (k : Nat) : (keptL S bs k).length ≤ k := by
  unfold keptL
  rw [List.length_map]
  have := List.length_filter_le (chosenB bs) (List.range k)
  simpa using this
/-- Each message of S has its own number within its sender's. -/
def Apart (S : List M) : Prop := ∀ i j, i < S.length → j < S.length → (S.getD i default).k = (S.getD j default).k → i = j
theorem fit_self (m : M) (u : Int) : fitB m { m with u := u } = true := by simp [fitB]
theorem fit_key {m k : M} (h : fitB m k = true) : k.k = m.k := by
  unfold fitB at h
  simp only [Bool.and_eq_true, decide_eq_true_eq] at h
  exact h.1
theorem find_kept {S : List M} {bs : List Int} (hA : Apart S) {i n : Nat} (hi : i < S.length) (hn : n ≤ S.length) (hin : i < n) : (keptL S bs n).find? (fitB (S.getD i default)) = if chosenB bs i then some { S.getD i default with u := (i : Int) } else none := by
  by_cases hc : chosenB bs i = true
  · rw [if_pos hc]
    unfold keptL
    rw [List.find?_map]
    have : List.find? (fitB (S.getD i default) ∘ fun j => { S.getD j default with u := (j : Int) }) ((List.range n).filter (chosenB bs)) = some i := by
      rw [List.find?_filter]
      have hex : (List.range n).find? (fun a => chosenB bs a && (fitB (S.getD i default) ∘ fun j => { S.getD j default with u := (j : Int) }) a) = some i := by
        rw [List.find?_range_eq_some]
        refine ⟨by simp [hc, fit_self], by simpa using hin, fun j hj => ?_⟩
        simp only [Function.comp, Bool.not_and, Bool.or_eq_true, Bool.not_eq_true']
        right
        cases hf : fitB (S.getD i default) { S.getD j default with u := (j : Int) }
        · rfl
        · have := hA j i (by omega) hi (fit_key hf)
          omega
      simpa using hex
    rw [this]
    rfl
  · rw [if_neg hc, List.find?_eq_none]
    intro x hx
    unfold keptL at hx
    obtain ⟨j, hj, rfl⟩ := List.mem_map.1 hx
    rw [List.mem_filter, List.mem_range] at hj
    intro hf
    have := hA j i (by omega) hi (fit_key hf)
    subst this
    exact hc hj.2
theorem nameL_get (kept : List M) : ∀ (l : List M) (u : Int) (i : Nat), i < l.length → (nameL kept l u).getD i default = match kept.find? (fitB (l.getD i default)) with
    | some k => { l.getD i default with u := k.u }
    | none => { l.getD i default with u := nameU kept (l.take i) u }
  | [], u, i, h => by simp at h
  | m :: l, u, 0, h => by
    simp only [nameL, List.getD_cons_zero, List.take_zero, nameU]
    cases kept.find? (fitB m) <;> simp
  | m :: l, u, i + 1, h => by
    have ih := fun u => nameL_get kept l u i (by simpa using h)
    simp only [nameL, List.getD_cons_succ, List.take_succ_cons, nameU]
    split
    · rw [List.getD_cons_succ, ih u]
    · rw [List.getD_cons_succ, ih (u + 1)]
/-- What the counting comes to. -/
theorem nameU_count {S : List M} {bs : List Int} (hA : Apart S) (u : Int) : ∀ k, k ≤ S.length → nameU (keptL S bs S.length) (S.take k) u = u + k - (keptL S bs k).length
  | 0, _ => by simp [nameU, keptL]
  | k + 1, h => by
    have hg : S[k]? = some (S.getD k default) := by simp [List.getD_eq_getElem?_getD, (show k < S.length by omega)]
    rw [List.take_add_one, hg]
    simp only [Option.toList_some]
    rw [nameU_snoc, find_kept hA (by omega) (Nat.le_refl _) (by omega), keptL_succ]
    have ih := nameU_count (bs := bs) hA u k (by omega)
    by_cases hc : chosenB bs k = true
    · rw [if_pos hc, if_pos hc]
      simp only [ih, List.length_append, List.length_singleton]
      omega
    · rw [if_neg hc, if_neg hc]
      simp only [ih]
      omega
theorem nameU_step {S : List M} {bs : List Int} (hA : Apart S) (u : Int) {k : Nat} (h : k < S.length) : nameU (keptL S bs S.length) (S.take (k + 1)) u = if chosenB bs k then nameU (keptL S bs S.length) (S.take k) u else nameU (keptL S bs S.length) (S.take k) u + 1 := by
  have hg : S[k]? = some (S.getD k default) := by simp [List.getD_eq_getElem?_getD, h]
  rw [List.take_add_one, hg]
  simp only [Option.toList_some]
  rw [nameU_snoc, find_kept hA h (Nat.le_refl _) (by omega)]
  by_cases hc : chosenB bs k = true
  · rw [if_pos hc, if_pos hc]
  · rw [if_neg hc, if_neg hc]
/-- The names behind the second doing. -/
theorem named_u {S : List M} {bs : List Int} (hA : Apart S) (u : Int) {k : Nat} (h : k < S.length) : ((nameL (keptL S bs S.length) S u).getD k default).u = if chosenB bs k then (k : Int) else nameU (keptL S bs S.length) (S.take k) u := by
  rw [nameL_get _ _ _ _ h, find_kept hA h (Nat.le_refl _) h]
  by_cases hc : chosenB bs k = true
  · rw [if_pos hc, if_pos hc]
  · rw [if_neg hc, if_neg hc]
theorem nameL_nil (ms : List M) (u : Int) : ∀ k, k < ms.length → (nameL [] ms u).getD k default = { ms.getD k default with u := nameU [] (ms.take k) u } := fun k hk => by
  rw [nameL_get _ _ _ _ hk]
  simp
theorem mgs_apart (W : Wd) (n t u : Int) (o : List Ot) : Apart (mgs W n t u o o.length) := by
  intro i j hi hj h
  rw [mgs_length] at hi hj
  rw [mgs_get _ _ _ _ _ _ _ hi, mgs_get _ _ _ _ _ _ _ hj] at h
  have := congrArg K.s h
  simp only [mgOf] at this
  omega
/-- The names do not tell messages apart: what is named once is named again alike. -/
theorem name_keys (kept : List M) (ms : List M) (u : Int) : ∀ k, k < ms.length → ∃ z, (nameL kept ms u).getD k default = { ms.getD k default with u := z } := fun k hk => by
  rw [nameL_get _ _ _ _ hk]
  split
  · exact ⟨_, rfl⟩
  · exact ⟨_, rfl⟩
theorem nameU_nil : ∀ (l : List M) (u : Int), nameU [] l u = u + l.length
  | [], u => by simp [nameU]
  | m :: l, u => by
    simp only [nameU, List.find?_nil]
    rw [nameU_nil l (u + 1)]
    simp only [List.length_cons]
    omega
/-- The first doing's names are the numbers in order. -/
theorem name_first (W : Wd) (n t u : Int) (o : List Ot) : nameL [] (mgs W n t u o o.length) u = mgs W n t u o o.length := by
  have hl := nameL_length [] (mgs W n t u o o.length) u
  refine List.ext_getElem (by rw [hl]) fun i h1 h2 => ?_
  have hi : i < o.length := by rwa [mgs_length] at h2
  have := nameL_nil (mgs W n t u o o.length) u i h2
  simp only [List.getD_eq_getElem?_getD, List.getElem?_eq_getElem h1, List.getElem?_eq_getElem h2, Option.getD_some] at this
  rw [this, nameU_nil]
  have hg := mgs_get W n t u o o.length i hi
  simp only [List.getD_eq_getElem?_getD, List.getElem?_eq_getElem h2, Option.getD_some] at hg
  rw [hg]
  simp only [mgOf, List.length_take, mgs_length, Nat.min_eq_left (Nat.le_of_lt hi)]
end Go.Proofs.YtminfmjgmmkaoaaGreatDoor
namespace Go.Proofs.YtminfmjgmmkaoaaGreatDoor
open Go.ChangeShapes Go.WideShapes Go.ChangeAt Go.Shelf Go.RowKit Go.Lib Go.Sort Go.Deep
set_option linter.unusedVariables false
set_option maxRecDepth 4000
set_option linter.unusedSimpArgs false

/-- A log that nothing was done in, at the beginning. -/
def Fresh (w : World) (lb : Nat) (v : Wv) (W : Wd) (every : Int) (g : Nat) : Prop := LogOf w lb v W every (.slice (some ⟨g, 0, none⟩) 1 1) [⟨Sta.zero, .slice none 0 0, []⟩] Sta.zero false
theorem Fresh.below {w w' : World} {lb g : Nat} {v : Wv} {W : Wd} {every : Int} (h : Fresh w lb v W every g) (hb : Below w.heap.size w w') : Fresh w' lb v W every g := (h.x.below hb).of h.every h.pos rfl
theorem Fresh.ref {w : World} {lb g : Nat} {v : Wv} {W : Wd} {every : Int} {m : M} (h : Fresh w lb v W every g) {uid : Int} (hu : lcountB uid = true) :
    ∀ w', Below w.heap.size w w' → Calls Tryz.prog 42 #[.pointer (some ⟨lb, 0, none⟩), m.val, .int .i64 uid] w' fun x w2 => x = .returned (.int .i64 (refP m false)) ∧ Below w'.heap.size w' w2 :=
  h.x.refuses (by simp) (by simp [total]) (h.x.last_none (by simp) (by simp [total])) rfl hu
theorem refP_is (m : M) (stuck : Bool) : refP m stuck = 1 ∨ refP m stuck = 5 ∨ refP m stuck = 0 := by
  unfold refP
  split
  · exact .inl rfl
  · split
    · exact .inr (.inl rfl)
    · exact .inr (.inr rfl)
theorem refP_f (m : M) (h : refP m false ≠ 0) : refP m false = 1 ∧ (chkM m ≠ 0 ∨ m.anti = true) := by
  unfold refP at *
  split at h
  · rename_i h1
    exact ⟨by simp [h1], h1⟩
  · simp at h
theorem try_no {w : World} {lb g : Nat} {v : Wv} {W : Wd} {every : Int} {m : M} {kv : Value} (h : Fresh w lb v W every g) (hr : refP m false ≠ 0) :
    Calls Tryz.prog 20 #[.pointer (some ⟨lb, 0, none⟩), m.val, .int .i64 100, kv] w fun x w' => x = .returned (.tuple #[.agg z19, .int .i64 1]) ∧ Below w.heap.size w w' := by
  have h1 := (refP_f m hr).1
  refine (lgTry_any (Q := fun EA SA e _ _ => EA = z19 ∧ e = 1) (fun w' hb => ?_)).mono ?_
  · refine (lgNext_no (w := w') (fun w2 hb2 => h1 ▸ h.ref (m := m) (uid := 100) rfl w2 (hb.trans (hb2.mono hb.size))) (by omega)).mono ?_
    rintro x w2 ⟨rfl, hq⟩
    exact ⟨z19, z10, 1, rfl, rfl, rfl, z19_one, z10_one, hq, rfl, rfl⟩
  · rintro x w' ⟨EA, e, rfl, hq⟩
    obtain ⟨hb, SA, wa, wb, _, ⟨rfl, rfl⟩, _⟩ := hq.out
    exact ⟨rfl, hb⟩
/-- What Try answers where the message may be done. -/
def TryA (w : World) (W : Wd) (m : M) (fl : Int) (os : List Ot) (x : Ending) (w' : World) : Prop :=
  ∃ sa sc, x = .returned (.tuple #[.agg (entC m Sta.zero fl (.slice sa os.length sc)).toArray, .int .i64 0]) ∧ Hid (Mgs w' sa os.length sc (mgs W 0 m.k.t 100 os os.length) ∧ Below w.heap.size w w' ∧ ∀ k, (Value.slice sa os.length sc).ownBlock = some k → w.heap.size ≤ k)
theorem next_ok {w : World} {lb g : Nat} {v : Wv} {W : Wd} {every : Int} {m : M} {eb : Addr} {st2 : Sta} {os : List Ot} {fl : Int} {ka : Option Addr} {kn kc : Nat} {kept : List M} (h : Fresh w lb v W every g) (hE : ErrIs w eb) (hT : ErrT w) (hev : In64 m.v) (hcw : checkW W = 0) (hr : refP m false = 0) (hrun : runW W Sta.zero m = (st2, os, fl))
    (hK : Mgs w ka kn kc kept) (hKl : ∀ k, (Value.slice ka kn kc).ownBlock = some k → k < w.heap.size) :
    ∀ w', Below w.heap.size w w' → Calls Tryz.prog 30 #[.pointer (some ⟨lb, 0, none⟩), m.val, .int .i64 100, .slice ka kn kc] w' (NextR w' Sta.zero m 100 kept (st2, os, fl) W) := fun w' hb => by
  have h' := h.below hb
  have := lgNext_ok (w := w') (uid := 100) (fun w2 hb2 => hr ▸ h'.ref (m := m) (uid := 100) rfl w2 hb2) h'.row h'.rd.wds (hE.below hb) (hT.below hb) StaOk.zero hev hcw (refP_no hr).1 zero_may (by omega) (hK.below hb) (fun k e => Nat.lt_of_lt_of_le (hKl k e) hb.size)
  rwa [hrun] at this
theorem try_ok {w : World} {lb g : Nat} {v : Wv} {W : Wd} {every : Int} {m : M} {eb : Addr} {st2 : Sta} {os : List Ot} {fl : Int} (h : Fresh w lb v W every g) (hE : ErrIs w eb) (hT : ErrT w) (hev : In64 m.v) (hcw : checkW W = 0) (hr : refP m false = 0) (hrun : runW W Sta.zero m = (st2, os, fl)) :
    Calls Tryz.prog 20 #[.pointer (some ⟨lb, 0, none⟩), m.val, .int .i64 100, .slice none 0 0] w (TryA w W m fl os) := by
  refine (lgTry_any (Q := fun EA SA e wa wb => e = 0 ∧ ∃ sa sc, EA = (entC m Sta.zero fl (.slice sa os.length sc)).toArray ∧ Mgs wb sa os.length sc (mgs W 0 m.k.t 100 os os.length) ∧ ∀ k, (Value.slice sa os.length sc).ownBlock = some k → wa.heap.size ≤ k) (fun w' hb => ?_)).mono ?_
  · refine (next_ok h hE hT hev hcw hr hrun (ka := none) (kn := 0) (kc := 0) (kept := []) ⟨rfl, Nat.le_refl _, Nat.zero_le _, .inl rfl⟩ (fun k e => by cases e) w' hb).mono ?_
    rintro x w2 ⟨sa, sc, rfl, hq⟩
    have h1 := hq.out.1
    rw [name_first] at h1
    exact ⟨_, _, 0, rfl, rfl, rfl, entC_one _ _ _ _ _ _, encSt_one _, hq.out.2.1, rfl, sa, sc, rfl, h1, hq.out.2.2⟩
  · rintro x w' ⟨EA, e, rfl, hq⟩
    obtain ⟨hb, SA, wa, wb, hwa, ⟨rfl, sa, sc, rfl, hM, hk⟩, hko⟩ := hq.out
    exact ⟨sa, sc, rfl, hM.keptOff hko (fun k e e2 => by have := hk k e; omega), hb, fun k e => Nat.le_trans hwa.size (hk k e)⟩
/-- What Do answers. -/
def DoA (w : World) (lb g : Nat) (W : Wd) (m : M) (fl : Int) (os : List Ot) (kept : List M) (x : Ending) (w' : World) : Prop :=
  ∃ sa sc, x = .returned (.tuple #[.agg (entC m Sta.zero fl (.slice sa os.length sc)).toArray, .int .i64 0]) ∧ Hid (Mgs w' sa os.length sc (nameL kept (mgs W 0 m.k.t 100 os os.length) 100) ∧ KeptOff (fun k => k = lb ∨ k = g) w w' ∧ ∀ k, (Value.slice sa os.length sc).ownBlock = some k → w.heap.size ≤ k)
theorem do_ok {w : World} {lb g : Nat} {v : Wv} {W : Wd} {every : Int} {m : M} {eb : Addr} {st2 : Sta} {os : List Ot} {fl : Int} {ka : Option Addr} {kn kc : Nat} {kept : List M} (h : Fresh w lb v W every g) (hE : ErrIs w eb) (hT : ErrT w) (hev : In64 m.v) (hcw : checkW W = 0) (hr : refP m false = 0) (hrun : runW W Sta.zero m = (st2, os, fl)) (hos : os.length ≤ 16384)
    (hK : Mgs w ka kn kc kept) (hKl : ∀ k, (Value.slice ka kn kc).ownBlock = some k → k < w.heap.size) :
    Calls Tryz.prog 11 #[.pointer (some ⟨lb, 0, none⟩), m.val, .int .i64 100, .slice ka kn kc] w (DoA w lb g W m fl os kept) := by
  have hx : LogX w lb v W every (.slice (some ⟨g, 0, none⟩) 1 1) ([] ++ [⟨Sta.zero, .slice none 0 0, []⟩]) 0 Sta.zero false := h.x
  refine (lgDo_ok hx (by simp) (by simp) (by omega) hos (next_ok h hE hT hev hcw hr hrun hK hKl)).mono ?_
  rintro x w' ⟨sa, sc, rfl, hq⟩
  obtain ⟨h1, h2, sv', v1, p, _, _, h3, _⟩ := hq.out
  refine ⟨sa, sc, rfl, h1, h3.mono (fun k _ e => ?_), h2⟩
  rcases e with e | e | ⟨s, hs, e⟩
  · exact .inl e
  · simp [Value.ownBlock] at e; exact .inr e.symm
  · simp at hs; subst hs; cases e
set_option maxHeartbeats 8000000 in
theorem names_bad {w : World} {v : Wv} {W : Wd} {m : M} {eb : Addr} {kv : Value} (hW : Wds w v W) (hE : ErrIs w eb) (hT : ErrT w) (hc : checkW W ≠ 0) :
    Calls Tryz.prog 5 #[v.val W, m.val, kv] w fun e w' => e = .returned (.bool true) ∧ Below w.heap.size w w' := by
  have hb0 := fun (o1 o2 : Obj) => Lib.hid (((Below.refl _ w).alloc (Nat.le_refl _) o1).alloc (by simp) o2)
  have hnew := fun (o1 o2 : Obj) => lgNew_bad (every := 4) (hW.below (hb0 o1 o2).out) (hE.below (hb0 o1 o2).out) hc
  have hck := Lib.hid (fun (w' : World) (hb : Below w.heap.size w w') => vmCheck_any (hW.below hb) (hE.below hb))
  have haw := Lib.hid (fun (w' : World) (hb : Below w.heap.size w w') => awake10_any (hE.below hb))
  have hR0 := fun (o1 o2 : Obj) => Lib.hid ((((Below.refl _ (w.alloc o1)).alloc (Nat.le_refl _) o2).block w.heap.size (by simp)).trans (heap_alloc_new w o1))
  have hc' : (checkW W != 0) = true := by simpa using hc
  obtain ⟨⟨t, f, q⟩, to', vv, u, an⟩ := m
  generalize checkW W = z at *
  clear hW hE hT hc
  simp only [Wv.val, M.val, Sta.val, Sta.cells, Sta.zero, List.map_cons, List.map_nil, List.cons_append, List.nil_append] at *
  go_enter Tryz.func5, Tryz.ntmps5
  go_wp2_with fail
  refine (hnew _ _).mono ?_
  rintro e w1 ⟨rfl, hb1⟩
  have hB1 := Lib.hid ((hb0 (.cells #[.slice v.pa v.pl v.pc, .int .i64 W.self, .slice v.la v.ll v.lc, .int .u64 W.seed] 26) (.cells #[.int .i64 t, .int .i64 f, .int .i64 q, .int .i64 to', .int .i64 vv, .int .i64 u, .bool an] 42)).out.trans (hb1.mono (by simp; omega)))
  obtain ⟨c0, c1, c2, c3⟩ := row4 ((hb1.block _ (by simp; omega)).trans (hR0 (.cells #[.slice v.pa v.pl v.pc, .int .i64 W.self, .slice v.la v.ll v.lc, .int .u64 W.seed] 26) (.cells #[.int .i64 t, .int .i64 f, .int .i64 q, .int .i64 to', .int .i64 vv, .int .i64 u, .bool an] 42)).out)
  have hk1 := hck.out w1 hB1.out
  clear hnew hb0 hR0 hb1 hck
  go_wp2_with fail
  refine hk1.mono ?_
  rintro e w2 ⟨rfl, hr2⟩
  have hB2 := Lib.hid (hB1.out.trans (hr2.below.mono hB1.out.size))
  have hk2 := haw.out w2 hB2.out
  clear hk1 hr2 c0 c1 c2 c3 haw hB1
  go_wp2_with fail
  refine hk2.mono ?_
  rintro e w3 ⟨rfl, hb3⟩
  have hB3 := Lib.hid (hB2.out.trans (hb3.mono hB2.out.size))
  clear hk2 hb3 hB2
  go_wp2
  go_ret
  exact ⟨rfl, hB3.out⟩
end Go.Proofs.YtminfmjgmmkaoaaGreatDoor
namespace Go.Proofs.YtminfmjgmmkaoaaGreatDoor
open Go.ChangeShapes Go.WideShapes Go.ChangeAt Go.Shelf Go.RowKit Go.Lib Go.Sort Go.Deep
set_option linter.unusedVariables false
set_option maxRecDepth 4000
set_option linter.unusedSimpArgs false

set_option maxHeartbeats 8000000 in
theorem names_no {w : World} {v : Wv} {W : Wd} {m : M} {eb : Addr} {kv : Value} (hW : Wds w v W) (hE : ErrIs w eb) (hT : ErrT w) (hc : checkW W = 0) (hr : refP m false ≠ 0) :
    Calls Tryz.prog 5 #[v.val W, m.val, kv] w fun e w' => e = .returned (.bool true) ∧ Below w.heap.size w w' := by
  have hb0 := fun (o1 o2 : Obj) => Lib.hid (((Below.refl _ w).alloc (Nat.le_refl _) o1).alloc (by simp) o2)
  have hnew := fun (o1 o2 : Obj) => lgNew_ok (every := 4) (hW.below (hb0 o1 o2).out) (hE.below (hb0 o1 o2).out) hc (by omega)
  have hS0 := fun (o1 o2 : Obj) => Lib.hid (show ((w.alloc o1).alloc o2).heap[w.heap.size + 1]? = some o2 from by have := heap_alloc_new (w.alloc o1) o2; rwa [World.size_alloc] at this)
  have htry := Lib.hid (fun (w1 : World) (lb g : Nat) (v' : Wv) (h : Fresh w1 lb v' W 4 g) => try_no (kv := .slice none 0 0) h hr)
  have hck := fun w => eCheck_any m w
  have hbad := (refP_f m hr).2
  have hR0 := fun (o1 o2 : Obj) => Lib.hid ((((Below.refl _ (w.alloc o1)).alloc (Nat.le_refl _) o2).block w.heap.size (by simp)).trans (heap_alloc_new w o1))
  obtain ⟨⟨t, f, q⟩, to', vv, u, an⟩ := m
  generalize chkM ⟨⟨t, f, q⟩, to', vv, u, an⟩ = cm at *
  simp only at hbad
  clear hW hE hT hc hr
  simp only [Wv.val, M.val, Sta.val, Sta.cells, Sta.zero, List.map_cons, List.map_nil, List.cons_append, List.nil_append] at *
  go_enter Tryz.func5, Tryz.ntmps5
  go_wp2_with fail
  refine (hnew _ _).mono ?_
  rintro e w1 ⟨lb, rfl, hq1⟩
  obtain ⟨-, hb1, v', g, -, hF1⟩ := hq1.out
  have hB1 := Lib.hid ((hb0 (.cells #[.slice v.pa v.pl v.pc, .int .i64 W.self, .slice v.la v.ll v.lc, .int .u64 W.seed] 26) (.cells #[.int .i64 t, .int .i64 f, .int .i64 q, .int .i64 to', .int .i64 vv, .int .i64 u, .bool an] 42)).out.trans (hb1.mono (by simp; omega)))
  have hM1 := Lib.hid ((hb1.block (w.heap.size + 1) (by simp)).trans (hS0 (.cells #[.slice v.pa v.pl v.pc, .int .i64 W.self, .slice v.la v.ll v.lc, .int .u64 W.seed] 26) (.cells #[.int .i64 t, .int .i64 f, .int .i64 q, .int .i64 to', .int .i64 vv, .int .i64 u, .bool an] 42)).out)
  obtain ⟨m0, m1, m2, m3, m4, m5, m6⟩ := row7 hM1.out
  have hk1 := htry.out w1 lb g v' hF1
  clear hnew hb0 hS0 hR0 hq1 hb1 hF1 htry
  go_wp2_with fail
  refine hk1.mono ?_
  rintro e w2 ⟨rfl, hb2⟩
  have hB2 := Lib.hid (hB1.out.trans (hb2.mono hB1.out.size))
  have hM2 := Lib.hid ((hb2.block _ (Array.getElem?_eq_some_iff.1 hM1.out).1).trans hM1.out)
  have hA := heap_alloc_new w2 (.cells z19 44)
  have hC := Lib.hid ((Below.refl _ w2).alloc (Nat.le_refl _) (.cells z19 44))
  clear hk1 hb2 m0 m1 m2 m3 m4 m5 m6 hM1 hB1
  go_upto_region 5 with (refine wpList_store_row rfl 44 (.tmp 9) (.tmp 36) rfl w2.heap.size z19 rfl rfl 44 z19 hA infoEn rfl z19_one ?_)
  have hC2 := Lib.hid (below_row hC.out (g := w2.heap.size) (Nat.le_refl _) z19)
  have hM3 := Lib.hid ((hC2.out.block _ (Array.getElem?_eq_some_iff.1 hM2.out).1).trans hM2.out)
  have hB3 := Lib.hid (hB2.out.trans (hC2.out.mono hB2.out.size))
  simp only [z19] at hC2 hM3 hB3 ⊢
  clear hA hC hC2 hM2 hB2
  generalize (w2.alloc (Obj.cells _ 44)).setRow w2.heap.size _ = w3 at *
  obtain ⟨m0, m1, m2, m3, m4, m5, m6⟩ := row7 hM3.out
  by_cases hcm : cm = 0
  · subst hcm
    have han : an = true := by
      rcases hbad with h | h
      · exact absurd rfl h
      · exact h
    subst han
    go_wp2_with fail
    refine (hck _).mono ?_
    rintro e w4 ⟨rfl, hr4⟩
    have hM4 := Lib.hid ((hr4.below.block _ (Array.getElem?_eq_some_iff.1 hM3.out).1).trans hM3.out)
    have hB4 := Lib.hid (hB3.out.trans (hr4.below.mono hB3.out.size))
    clear m0 m1 m2 m3 m4 m5 m6 hr4 hck
    obtain ⟨m0, m1, m2, m3, m4, m5, m6⟩ := row7 hM4.out
    go_wp2
    go_ret
    exact ⟨rfl, hB4.out⟩
  · have hcm' : (cm != 0) = true := by simpa using hcm
    clear hbad hcm
    go_wp2_with fail
    refine (hck _).mono ?_
    rintro e w4 ⟨rfl, hr4⟩
    have hB4 := Lib.hid (hB3.out.trans (hr4.below.mono hB3.out.size))
    clear m0 m1 m2 m3 m4 m5 m6 hr4 hck
    go_wp2
    go_ret
    exact ⟨rfl, hB4.out⟩
end Go.Proofs.YtminfmjgmmkaoaaGreatDoor
namespace Go.Proofs.YtminfmjgmmkaoaaGreatDoor
open Go.ChangeShapes Go.WideShapes Go.ChangeAt Go.Shelf Go.RowKit Go.Lib Go.Sort Go.Deep
set_option linter.unusedVariables false
set_option maxRecDepth 4000
set_option linter.unusedSimpArgs false

set_option maxHeartbeats 16000000 in
theorem names_go {w : World} {v : Wv} {W : Wd} {m : M} {eb : Addr} {ka : Option Addr} {kl kc : Nat} {bs : List Int} (hW : Wds w v W) (hE : ErrIs w eb) (hT : ErrT w) (hev : In64 m.v) (hc : checkW W = 0) (hr : refP m false = 0) (hK : Byts w ka kl kc bs) :
    Calls Tryz.prog 5 #[v.val W, m.val, .slice ka kl kc] w fun e w' => e = .returned (.bool true) ∧ Below w.heap.size w w' := by
  have hb0 := fun (o1 o2 : Obj) => Lib.hid (((Below.refl _ w).alloc (Nat.le_refl _) o1).alloc (by simp) o2)
  have hnew := fun (o1 o2 : Obj) => lgNew_ok (every := 4) (hW.below (hb0 o1 o2).out) (hE.below (hb0 o1 o2).out) hc (by omega)
  have hS0 := fun (o1 o2 : Obj) => Lib.hid (show ((w.alloc o1).alloc o2).heap[w.heap.size + 1]? = some o2 from by have := heap_alloc_new (w.alloc o1) o2; rwa [World.size_alloc] at this)
  obtain ⟨⟨st2, os, fl⟩, hrun⟩ : ∃ r, runW W Sta.zero m = r := ⟨_, rfl⟩
  have hlate := run_lateA (st := Sta.zero) rfl hrun
  have hos : os.length ≤ 8 := hlate.2
  have htry := Lib.hid (fun (w1 : World) (lb g : Nat) (v' : Wv) (h : Fresh w1 lb v' W 4 g) (hb : Below w.heap.size w w1) => try_ok h (hE.below hb) (hT.below hb) hev hc hr hrun)
  have hdo := Lib.hid (fun (w1 : World) (lb g : Nat) (v' : Wv) (h : Fresh w1 lb v' W 4 g) (hb : Below w.heap.size w w1) (ka : Option Addr) (kn kc : Nat) (kept : List M) (hK : Mgs w1 ka kn kc kept) (hKl : ∀ k, (Value.slice ka kn kc).ownBlock = some k → k < w1.heap.size) => do_ok h (hE.below hb) (hT.below hb) hev hc hr hrun (by omega) hK hKl)
  have hap := Lib.hid (mgs_apart W 0 m.k.t 100 os)
  have hSl := Lib.hid (mgs_length W 0 m.k.t 100 os os.length)
  have hK' := Lib.hid hK
  have hkl : kl ≤ 9223372036854775807 := by have := hK.2.1; have := hK.2.2.1; unfold maxLen at *; omega
  unfold TryA DoA at *
  have hent : Hid (∀ (a : Option Addr) (c : Nat), (entC m Sta.zero fl (.slice a os.length c)).toArray.size = 19 ∧ (entC m Sta.zero fl (.slice a os.length c)).toArray.all (·.oneCell') = true ∧ (entC m Sta.zero fl (.slice a os.length c)).toArray[18]? = some (.slice a os.length c)) := Lib.hid (fun a c => ⟨rfl, entC_one _ _ _ _ _ _, rfl⟩)
  obtain ⟨ENT, hENT⟩ : ∃ F : Option Addr → Nat → Array Value, F = fun a c => (entC m Sta.zero fl (.slice a os.length c)).toArray := ⟨_, rfl⟩
  have hENT' : ∀ a c, (entC m Sta.zero fl (.slice a os.length c)).toArray = ENT a c := fun a c => by rw [hENT]
  simp only [hENT'] at htry hdo hent
  generalize mgs W 0 m.k.t 100 os os.length = SS at *
  generalize os.length = n at *
  obtain ⟨⟨t, f, q⟩, to', vv, u, an⟩ := m
  clear hW hE hT hc hr hev hrun hlate hENT hENT' hK
  simp only [Wv.val, M.val, Sta.val, Sta.cells, Sta.zero, List.map_cons, List.map_nil, List.cons_append, List.nil_append] at *
  go_enter Tryz.func5, Tryz.ntmps5
  go_wp2_with fail
  refine (hnew _ _).mono ?_
  rintro e w1 ⟨lb, rfl, hq1⟩
  obtain ⟨hlb, hb1, v', g, hg, hF1⟩ := hq1.out
  have hB1 := Lib.hid ((hb0 (.cells #[.slice v.pa v.pl v.pc, .int .i64 W.self, .slice v.la v.ll v.lc, .int .u64 W.seed] 26) (.cells #[.int .i64 t, .int .i64 f, .int .i64 q, .int .i64 to', .int .i64 vv, .int .i64 u, .bool an] 42)).out.trans (hb1.mono (by simp; omega)))
  have hM1 := Lib.hid ((hb1.block (w.heap.size + 1) (by simp)).trans (hS0 (.cells #[.slice v.pa v.pl v.pc, .int .i64 W.self, .slice v.la v.ll v.lc, .int .u64 W.seed] 26) (.cells #[.int .i64 t, .int .i64 f, .int .i64 q, .int .i64 to', .int .i64 vv, .int .i64 u, .bool an] 42)).out)
  have hF1' := Lib.hid hF1
  have hlbg : w.heap.size + 2 ≤ lb ∧ w.heap.size + 2 ≤ g := by simp at hlb hg; omega
  obtain ⟨m0, m1, m2, m3, m4, m5, m6⟩ := row7 hM1.out
  have hk1 := htry.out w1 lb g v' hF1 hB1.out
  clear hnew hb0 hS0 hq1 hb1 hF1 htry hlb hg
  go_wp2_with fail
  refine hk1.mono ?_
  rintro e w2 ⟨sa, sc, rfl, hq2⟩
  have hB2 := Lib.hid (hB1.out.trans (hq2.out.2.1.mono hB1.out.size))
  have hM2 := Lib.hid ((hq2.out.2.1.block _ (Array.getElem?_eq_some_iff.1 hM1.out).1).trans hM1.out)
  have hF2 := Lib.hid (Fresh.below hF1'.out hq2.out.2.1)
  have hS2 := Lib.hid hq2.out.1
  have hA := heap_alloc_new w2 (.cells z19 44)
  have hC := Lib.hid ((Below.refl _ w2).alloc (Nat.le_refl _) (.cells z19 44))
  obtain ⟨hes, heo, he18⟩ := hent.out sa sc
  have heo' := Lib.hid heo
  have hEi : Hid ((Tryz.prog.info? 44).map (·.size) = some (ENT sa sc).size) := Lib.hid (by rw [hes]; exact infoEn)
  have hz19 : z19.size = (ENT sa sc).size := hes.symm
  clear hk1 hq2 m0 m1 m2 m3 m4 m5 m6 hM1 hB1 hF1' heo
  go_upto_region 5 with (refine wpList_store_row rfl 44 (.tmp 9) (.tmp 36) rfl w2.heap.size (ENT sa sc) rfl rfl 44 z19 hA hEi.out hz19 heo'.out ?_)
  have hC2 := Lib.hid (below_row hC.out (g := w2.heap.size) (Nat.le_refl _) (ENT sa sc))
  have hX3 := Lib.hid (setRow_heap (new := ENT sa sc) hA)
  simp only [z19] at hC2 hX3
  clear hA hC
  generalize (w2.alloc (Obj.cells _ 44)).setRow w2.heap.size (ENT sa sc) = w3 at *
  have hM3 := Lib.hid ((hC2.out.block _ (Array.getElem?_eq_some_iff.1 hM2.out).1).trans hM2.out)
  have hB3 := Lib.hid (hB2.out.trans (hC2.out.mono hB2.out.size))
  have hF3 := Lib.hid (Fresh.below hF2.out hC2.out)
  have hS3 := Lib.hid (hS2.out.below hC2.out)
  have hlbx : lb < w2.heap.size ∧ g < w2.heap.size := ⟨hF2.out.x.lt, hF2.out.rd.svt.lt g rfl⟩
  generalize hxb : w2.heap.size = xb at *
  have hx18 : Hid (∀ w', Below w3.heap.size w3 w' → w'.cell? ⟨xb, 18, none⟩ = some (.slice sa n sc)) := Lib.hid (fun w' hb => row_cell ((hb.block _ (Array.getElem?_eq_some_iff.1 hX3.out).1).trans hX3.out) 18 he18)
  have hcb : Hid (∀ j, chosenB bs j = (decide (j < bs.length) && (bs.getD j 0 % 2 == 1))) := Lib.hid (fun j => rfl)
  obtain ⟨i0, hi, hz0, hz1, hz2⟩ := info_parts infoMsg
  clear hC2 hF2 hS2 hB2 hM2 hes he18 hEi hz19 heo'
  go_upto_region 10 with fail
  go_loopw [11, 12, 13] (fun s o i wr => ∃ k : Nat, k ≤ n ∧ i = .int .i64 k ∧ o = .int .i64 (keptL SS bs k).length ∧ Below w3.heap.size w3 wr ∧ Aside (wr.ownsRow w3.heap.size 42 7 s (keptL SS bs k).length (flatM (keptL SS bs k)))) (fun _ _ i _ => n - (intOf i).toNat)
  case atStart => exact ⟨0, Nat.zero_le _, rfl, rfl, Below.refl _ _, World.ownsRow_nil _ _ _ _⟩
  case round =>
    obtain ⟨k, hk, rfl, rfl, hbk, hown⟩ := hrel
    have c18 := hx18.out wr hbk
    by_cases hlt : k < n
    · have hsu := keptL_succ SS bs k
      have hMk := hS3.out
      obtain ⟨sb, so, rfl, hms⟩ : ∃ sb so, sa = some ⟨sb, so, none⟩ ∧ ∀ j, j < n → MsgAt w3 sb (so + j * 7) (SS.getD j default) := by
        rcases hMk.2.2.2 with h0 | h1
        · omega
        · exact h1
      have hmk := (hms k hlt).below hbk
      have hcc := hcb.out k
      have hkk0 : (0 : Int) ≤ (k : Int) := by omega
      have hkk1 : (k : Int) < (n : Int) := by omega
      by_cases hkb : k < bs.length
      · have hkl2 : k < kl := by have := hK'.out.1; omega
        obtain ⟨bb, bo, rfl, hbl, hbx⟩ : ∃ bb bo, ka = some ⟨bb, bo, none⟩ ∧ bb < w.heap.size ∧ ∀ j, j < kl → w.cell? ⟨bb, bo + j, none⟩ = some (.int .u8 (bs.getD j 0)) := by
          rcases hK'.out.2.2.2.2 with h0 | ⟨bb, bo, h1, h2, h3⟩
          · omega
          · exact ⟨bb, bo, h1, h2, h3⟩
        have hbr := hK'.out.2.2.2.1 (bs.getD k 0) (by
          simp only [List.getD_eq_getElem?_getD, List.getElem?_eq_getElem hkb, Option.getD_some]
          exact List.getElem_mem hkb)
        have hbw : Below w.heap.size w wr := hB3.out.trans (hbk.mono hB3.out.size)
        have cbk := (hbw.cell (p := ⟨bb, bo + k, none⟩) hbl).trans (hbx k hkl2)
        have hkl3 : (k : Int) < (kl : Int) := by omega
        generalize bs.getD k 0 = x at *
        by_cases hodd : x % 2 = 1
        · have hch : chosenB bs k = true := by rw [hcc]; simp [hkb, hodd]
          rw [if_pos hch] at hsu
          have hm2 : x.tmod 2 = 1 := by rw [Int.tmod_eq_emod_of_nonneg hbr.1]; exact hodd
          obtain ⟨qa, qc, rfl⟩ := own_slice hown.out
          generalize SS.getD k default = y at *
          obtain ⟨⟨yt, yf, yq⟩, yto, yv, yu, yan⟩ := y
          obtain ⟨-, y0, y1, y2, y3, y4, y5, y6⟩ := hmk
          simp only at y0 y1 y2 y3 y4 y5 y6
          have hsu' := Lib.hid hsu
          have hown' := Lib.hid hown.out
          have hbk' := Lib.hid hbk
          clear hsu hown hch hcc hms hMk hbx hbw hbk
          have hlk := keptL_length_le SS bs k
          have hrow := hown'.out.lt
          have hB4 := Lib.hid ((hbk'.out.alloc hbk'.out.size (.cells (M.cells ⟨⟨yt, yf, yq⟩, yto, yv, (k : Int), yan⟩) 42)).alloc (by have := hbk'.out.size; simp; omega) (.cells (M.cells ⟨⟨yt, yf, yq⟩, yto, yv, (k : Int), yan⟩) 42))
          have hnw : Hid (∀ j u, (flatM [(⟨⟨yt, yf, yq⟩, yto, yv, (k : Int), yan⟩ : M)])[j]? = some u → ((wr.alloc (.cells (M.cells ⟨⟨yt, yf, yq⟩, yto, yv, (k : Int), yan⟩) 42)).alloc (.cells (M.cells ⟨⟨yt, yf, yq⟩, yto, yv, (k : Int), yan⟩) 42)).cell? ((⟨wr.heap.size + 1, 0, none⟩ : Addr).add j) = some u) := Lib.hid (World.news_of_block (cs := (M.cells ⟨⟨yt, yf, yq⟩, yto, yv, (k : Int), yan⟩)) (t := 42) (fr := (0, 0)) (by have := heap_alloc_new (wr.alloc (.cells (M.cells ⟨⟨yt, yf, yq⟩, yto, yv, (k : Int), yan⟩) 42)) (.cells (M.cells ⟨⟨yt, yf, yq⟩, yto, yv, (k : Int), yan⟩) 42); rwa [World.size_alloc] at this))
          have hszw := hbk'.out.size
          have a9 : IntKind.i64.wrap ((((keptL SS bs k).length : Nat) : Int) + 1) = (((keptL SS bs k).length : Nat) : Int) + 1 := IntWalk.i64_in _ (by omega)
          go_wp2_with (at_builtin; refine wpList_append_own _ rfl _ _ 37 rfl w3.heap.size 42 i0 _ 7 56 Tryz.underlying37 hi hz0 hz1 hz2 rfl (by omega) (.slice qa (keptL SS bs k).length qc) (keptL SS bs k).length (flatM (keptL SS bs k)) rfl ((hown'.out.alloc _).alloc _) ⟨wr.heap.size + 1, 0, none⟩ 1 1 (flatM [⟨⟨yt, yf, yq⟩, yto, yv, (k : Int), yan⟩]) rfl rfl hnw.out (flatM_ones _) (by unfold maxLen; omega) (by omega) (by simp; omega) ?_; intro v2 w4 hown4 hgrow hnil)
          have hown5 : Hid (w4.ownsRow w3.heap.size 42 7 v2 (keptL SS bs (k + 1)).length (flatM (keptL SS bs (k + 1)))) := Lib.hid (by rw [hsu'.out, flatM_append, List.length_append]; exact hown4)
          have hB5 := Lib.hid (hB4.out.grown hgrow (by simp; omega) (fun j hj => (hrow j hj).1))
          have hlen5 : Hid (((keptL SS bs (k + 1)).length : Int) = ((keptL SS bs k).length : Int) + 1) := Lib.hid (by rw [hsu'.out]; simp)
          clear hown4 hgrow hnil hrow hnw hB4
          go_wp2
          go_roundw
          case rel => exact ⟨k + 1, by omega, by go_num, by rw [hlen5.out], hB5.out, hown5.out⟩
          case measure => simp [intOf]; omega
        · have hch : chosenB bs k = false := by rw [hcc]; simp [hkb, hodd]
          rw [if_neg (by simp [hch])] at hsu
          have hm2 : x.tmod 2 = 0 := by rw [Int.tmod_eq_emod_of_nonneg hbr.1]; omega
          have hsu' := Lib.hid hsu
          have hown' := Lib.hid hown.out
          have hbk' := Lib.hid hbk
          clear hsu hown hch hcc hms hMk hbx hbw hbk hmk
          go_wp2
          go_roundw
          case rel => exact ⟨k + 1, by omega, by go_num, by rw [hsu'.out], hbk'.out, by rw [hsu'.out]; exact hown'.out⟩
          case measure => simp [intOf]; omega
      · have hch : chosenB bs k = false := by rw [hcc]; simp [hkb]
        rw [if_neg (by simp [hch])] at hsu
        have hkl2 : ¬ (k : Int) < (kl : Int) := by have := hK'.out.1; omega
        have hsu' := Lib.hid hsu
        have hown' := Lib.hid hown.out
        have hbk' := Lib.hid hbk
        clear hsu hown hch hcc hms hMk hbk hmk
        go_wp2
        go_roundw
        case rel => exact ⟨k + 1, by omega, by go_num, by rw [hsu'.out], hbk'.out, by rw [hsu'.out]; exact hown'.out⟩
        case measure => simp [intOf]; omega
    · obtain rfl : k = n := by omega
      obtain ⟨qa, qc, rfl⟩ := own_slice hown.out
      have hown' := Lib.hid hown.out
      have hbk' := Lib.hid hbk
      clear hown hbk
      go_upto_region 17 with fail
      have hbw : Hid (Below w.heap.size w wr) := Lib.hid (hB3.out.trans (hbk'.out.mono hB3.out.size))
      have hMr := Lib.hid ((hbk'.out.block _ (Array.getElem?_eq_some_iff.1 hM3.out).1).trans hM3.out)
      have hXr := Lib.hid ((hbk'.out.block _ (Array.getElem?_eq_some_iff.1 hX3.out).1).trans hX3.out)
      obtain ⟨m0, m1, m2, m3, m4, m5, m6⟩ := row7 hMr.out
      have hk5 := hdo.out wr lb g v' (Fresh.below hF3.out hbk'.out) hbw.out qa (keptL SS bs k).length qc (keptL SS bs k) (mgs_of_own hown'.out) (fun j e => (hown'.out.lt j e).2)
      obtain ⟨-, -, he18⟩ := hent.out sa sc
      have hx18r : Hid (∀ w', KeptOff (fun j => j = lb ∨ j = g) wr w' → w'.cell? ⟨xb, 18, none⟩ = some (.slice sa k sc)) := Lib.hid (fun w' h => row_cell ((h.block _ (Array.getElem?_eq_some_iff.1 hXr.out).1 (by omega)).trans hXr.out) 18 he18)
      have hxl : xb < wr.heap.size := (Array.getElem?_eq_some_iff.1 hXr.out).1
      clear hdo hF3 hMr c18 he18
      go_wp2_with fail
      refine hk5.mono ?_
      rintro e w5 ⟨ya, yc, rfl, hq5⟩
      obtain ⟨hes, heo, he18⟩ := hent.out ya yc
      have heo' := Lib.hid heo
      have hEi : Hid ((Tryz.prog.info? 44).map (·.size) = some (ENT ya yc).size) := Lib.hid (by rw [hes]; exact infoEn)
      have hz19 : z19.size = (ENT ya yc).size := hes.symm
      have hA := heap_alloc_new w5 (.cells z19 44)
      have hC := Lib.hid ((Below.refl _ w5).alloc (Nat.le_refl _) (.cells z19 44))
      have hN5 := Lib.hid hq5.out.1
      have hx5 := Lib.hid (hx18r.out w5 hq5.out.2.1)
      have hx5l : xb < w5.heap.size := Nat.lt_of_lt_of_le hxl hq5.out.2.1.size
      have hB5 := Lib.hid (hbw.out.trans (hq5.out.2.1.below (fun j _ e => by have := hbw.out.size; omega) hbw.out.size))
      clear hk5 hq5 m0 m1 m2 m3 m4 m5 m6 heo hx18r
      go_upto_region 18 with (refine wpList_store_row rfl 44 (.tmp 15) (.tmp 88) rfl w5.heap.size (ENT ya yc) rfl rfl 44 z19 hA hEi.out hz19 heo'.out ?_)
      have hC2 := Lib.hid (below_row hC.out (g := w5.heap.size) (Nat.le_refl _) (ENT ya yc))
      have hY6 := Lib.hid (setRow_heap (new := ENT ya yc) hA)
      simp only [z19] at hC2 hY6
      clear hA hC
      generalize (w5.alloc (Obj.cells _ 44)).setRow w5.heap.size (ENT ya yc) = w6 at *
      have cy : w6.cell? ⟨w5.heap.size, 18, none⟩ = some (.slice ya k yc) := row_cell hY6.out 18 he18
      have cx : w6.cell? ⟨xb, 18, none⟩ = some (.slice sa k sc) := (hC2.out.cell (p := ⟨xb, 18, none⟩) hx5l).trans hx5.out
      have hN6 := Lib.hid (hN5.out.below hC2.out)
      have hB6 := Lib.hid (hB5.out.trans (hC2.out.mono hB5.out.size))
      have hSk : SS.length = k := hSl.out
      have hcnt := nameU_count (bs := bs) hap.out 100 k (by rw [hSk]; exact Nat.le_refl _)
      rw [hSk] at hcnt
      have hcnt' := Lib.hid hcnt
      have hlk := keptL_length_le SS bs k
      have b1 : IntKind.i64.wrap (100 + (k : Int)) = 100 + (k : Int) := IntWalk.i64_in _ (by omega)
      have b2 : IntKind.i64.wrap (100 + (k : Int) - ((keptL SS bs k).length : Int)) = 100 + (k : Int) - ((keptL SS bs k).length : Int) := IntWalk.i64_in _ (by omega)
      have hSk' := Lib.hid hSk
      clear hN5 hx5 hB5 hC2 hY6 hEi hz19 heo' he18 hes hXr hown' hcnt hSk
      go_upto_region 22 with fail
      go_loopw [16, 17] (fun nx i w7 => ∃ j : Nat, j ≤ k ∧ i = .int .i64 j ∧ nx = .int .i64 (nameU (keptL SS bs k) (SS.take j) 100) ∧ w7 = w6) (fun _ i _ => k - (intOf i).toNat)
      case atStart => exact ⟨0, Nat.zero_le _, rfl, rfl, rfl⟩
      case round =>
        obtain ⟨j, hj, rfl, rfl, rfl⟩ := hrel
        by_cases hlt : j < k
        · have hst := nameU_step (bs := bs) hap.out 100 (k := j) (by rw [hSk'.out]; exact hlt)
          have hnu := named_u (bs := bs) hap.out 100 (k := j) (by rw [hSk'.out]; exact hlt)
          have hrg := nameU_rng (keptL SS bs k) (SS.take j) 100
          have htl : (SS.take j).length ≤ k := by simp; omega
          rw [hSk'.out] at hst hnu
          obtain ⟨sb, so, rfl, hms⟩ : ∃ sb so, ya = some ⟨sb, so, none⟩ ∧ ∀ i, i < k → MsgAt wr sb (so + i * 7) ((nameL (keptL SS bs k) SS 100).getD i default) := by
            rcases hN6.out.2.2.2 with h0 | h1
            · omega
            · exact h1
          have hmk := (hms j hlt).2.2.2.2.2.2.1
          rw [hnu] at hmk
          have hcc := hcb.out j
          have hkk0 : (0 : Int) ≤ (j : Int) := by omega
          have hkk1 : (j : Int) < (k : Int) := by omega
          by_cases hkb : j < bs.length
          · have hkl2 : j < kl := by have := hK'.out.1; omega
            obtain ⟨bb, bo, rfl, hbl, hbx⟩ : ∃ bb bo, ka = some ⟨bb, bo, none⟩ ∧ bb < w.heap.size ∧ ∀ i, i < kl → w.cell? ⟨bb, bo + i, none⟩ = some (.int .u8 (bs.getD i 0)) := by
              rcases hK'.out.2.2.2.2 with h0 | ⟨bb, bo, h1, h2, h3⟩
              · omega
              · exact ⟨bb, bo, h1, h2, h3⟩
            have hbr := hK'.out.2.2.2.1 (bs.getD j 0) (by
              simp only [List.getD_eq_getElem?_getD, List.getElem?_eq_getElem hkb, Option.getD_some]
              exact List.getElem_mem hkb)
            have cbk := (hB6.out.cell (p := ⟨bb, bo + j, none⟩) hbl).trans (hbx j hkl2)
            have hkl3 : (j : Int) < (kl : Int) := by omega
            generalize bs.getD j 0 = x at *
            by_cases hodd : x % 2 = 1
            · have hch : chosenB bs j = true := by rw [hcc]; simp [hkb, hodd]
              rw [if_pos hch] at hst hmk
              have hm2 : x.tmod 2 = 1 := by rw [Int.tmod_eq_emod_of_nonneg hbr.1]; exact hodd
              have hst' := Lib.hid hst
              clear hst hch hcc hms hbx hnu
              go_wp2
              go_roundw
              case rel => exact ⟨j + 1, by omega, by go_num, by rw [hst'.out], by trivial⟩
              case measure => simp [intOf]; omega
            · have hch : chosenB bs j = false := by rw [hcc]; simp [hkb, hodd]
              rw [if_neg (by simp [hch])] at hst hmk
              have hm2 : x.tmod 2 = 0 := by rw [Int.tmod_eq_emod_of_nonneg hbr.1]; omega
              have hst' := Lib.hid hst
              generalize nameU (keptL SS bs k) (SS.take j) 100 = U at *
              have hU : IntKind.i64.wrap (U + 1) = U + 1 := IntWalk.i64_in _ (by omega)
              clear hst hch hcc hms hbx hnu
              go_wp2
              go_roundw
              case rel => exact ⟨j + 1, by omega, by go_num, by rw [hst'.out], by trivial⟩
              case measure => simp [intOf]; omega
          · have hch : chosenB bs j = false := by rw [hcc]; simp [hkb]
            rw [if_neg (by simp [hch])] at hst hmk
            have hkl2 : ¬ (j : Int) < (kl : Int) := by have := hK'.out.1; omega
            have hst' := Lib.hid hst
            generalize nameU (keptL SS bs k) (SS.take j) 100 = U at *
            have hU : IntKind.i64.wrap (U + 1) = U + 1 := IntWalk.i64_in _ (by omega)
            clear hst hch hcc hms hnu
            go_wp2
            go_roundw
            case rel => exact ⟨j + 1, by omega, by go_num, by rw [hst'.out], by trivial⟩
            case measure => simp [intOf]; omega
        · obtain rfl : j = k := by omega
          rw [hcnt'.out]
          go_wp2
          go_ret
          exact ⟨ret_bool (by simp), hB6.out⟩
theorem lawLogNames {w : World} {v : Wv} {W : Wd} {m : M} {eb : Addr} {ka : Option Addr} {kl kc : Nat} {bs : List Int} (hE : ErrIs w eb) (hT : ErrT w) (hW : Wds w v W) (hev : In64 m.v) (hK : Byts w ka kl kc bs) (hr : kl ≤ 140737488351232) (hn : NilP ka kl kc) :
    Calls Tryz.prog 5 #[v.val W, m.val, .slice ka kl kc] w fun e w' => e = .returned (.bool true) ∧ Below w.heap.size w w' := by
  by_cases hc : checkW W = 0
  · by_cases hf : refP m false = 0
    · exact names_go hW hE hT hev hc hf hK
    · exact names_no hW hE hT hc hf
  · exact names_bad hW hE hT hc
end Go.Proofs.YtminfmjgmmkaoaaGreatDoor
