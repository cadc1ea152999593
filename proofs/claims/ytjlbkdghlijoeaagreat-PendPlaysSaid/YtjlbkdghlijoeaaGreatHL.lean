/-
  Days: a day ended.
  Days: a message cut out.
  Days: the program's cut.
  The map of sendings of a queue: which sendings are there.
  Plain lists of messages: of unlike sendings there is one order. No model in this text.
-/
import Derived.Test.YtjlbkdghlijoeaaGreatYL
import Derived.Test.YtjlbkdghlijoeaaGreatYH
import Derived.Test.YtjlbkdghlijoeaaGreatLDG
import Derived.Test.YtjlbkdghlijoeaaGreatHB
import Derived.Maps.OwnSet
import Derived.DeepKeys4
namespace Go.Proofs.YtjlbkdghlijoeaaGreat
open Go.ChangeShapes Go.WideShapes Go.ChangeAt Go.Shelf Go.RowKit Go.Lib Go.Sort Go.Deep Go.Maps
set_option linter.unusedVariables false

theorem add_any {w : World} {db lb : Nat} {W : Int} {ov : Value} {ds : List Int} {L : Int → List M} {fv : Int → Value} (h : DaysOf w db W lb ov ds L fv) (m : M) (hm : m.fits) (hs : hasS (ds.flatMap L) m.k.f m.u = false) (hT : (ds.flatMap L).length < 16384) :
    Calls Tryz.prog 99 #[.pointer (some ⟨db, 0, none⟩), m.val] w fun e w' => e = .returned (.tuple #[]) ∧ AddRes w db W lb ov ds L fv m w' := by
  by_cases hd : dayOf W m.k.t ∈ ds
  · exact add_old h m hm hs hT hd
  · exact add_new h m hm hs hT hd

theorem place_day {ds : List Int} (h : ds.Pairwise (· < ·)) {d : Int} {i : Nat} (hi : i < ds.length) (hd : ds[i] = d) {p : Nat} (hp : PlaceI ds d p) : p = i := by
  obtain ⟨h1, h2, h3⟩ := hp
  have e : ∀ j (hj : j < ds.length), ds.getD j 0 = ds[j] := fun j hj => by simp [List.getD_eq_getElem?_getD, hj]
  rcases Nat.lt_trichotomy p i with h4 | h4 | h4
  · have h5 := h3 p (Nat.le_refl _) (by omega)
    have h6 := rising_mono h p i h4 hi
    rw [e i hi, hd] at h6
    omega
  · exact h4
  · have h5 := h2 i h4
    rw [e i hi, hd] at h5
    omega
theorem split_atC {ds : List Int} {d : Int} {i : Nat} (hi : i < ds.length) (hd : ds[i] = d) : ds = ds.take i ++ d :: ds.drop (i + 1) := by
  have := (List.take_append_drop i ds).symm
  rw [List.drop_eq_getElem_cons hi, hd] at this
  exact this
theorem mem_out {ds : List Int} (h : ds.Pairwise (· < ·)) {d : Int} {i : Nat} (hi : i < ds.length) (hd : ds[i] = d) (x : Int) : x ∈ ds.eraseIdx i ↔ x ≠ d ∧ x ∈ ds := by
  have e := split_atC hi hd
  rw [List.eraseIdx_eq_take_drop_succ]
  generalize ds.take i = A at e ⊢
  generalize ds.drop (i + 1) = B at e ⊢
  subst e
  have h' := List.pairwise_append.1 h
  have hB := List.pairwise_cons.1 h'.2.1
  rw [List.mem_append, List.mem_append, List.mem_cons]
  constructor
  · rintro (hx | hx)
    · have := h'.2.2 x hx d (List.mem_cons_self ..)
      exact ⟨by omega, .inl hx⟩
    · have := hB.1 x hx
      exact ⟨by omega, .inr (.inr hx)⟩
  · rintro ⟨hn, hx | hx | hx⟩
    · exact .inl hx
    · exact absurd hx hn
    · exact .inr hx
theorem perm_out {ds : List Int} {d : Int} {i : Nat} (hi : i < ds.length) (hd : ds[i] = d) (L : Int → List M) : (L d ++ (ds.eraseIdx i).flatMap L).Perm (ds.flatMap L) := by
  have e := split_atC hi hd
  rw [List.eraseIdx_eq_take_drop_succ]
  generalize ds.take i = A at e ⊢
  generalize ds.drop (i + 1) = B at e ⊢
  subst e
  rw [List.flatMap_append, List.flatMap_append, List.flatMap_cons, ← List.append_assoc, ← List.append_assoc]
  exact List.Perm.append_right _ List.perm_append_comm

section
variable {w : World} {ops : Array Oper} {rest : List Oper} {o : Oper} {a : Act} {Q : Exit → Act → World → Prop}
theorem wpList_delete_lists (hg : o.guard = none) (m x : Operand) (hop : o.op = Op.call { callee := Callee.builtin Builtin.delete, args := #[m, x], argTypes := #[98, 2] }) {lb : Nat} {ds : List Int} {fv : Int → Value} {d : Int}
    (hm : a.eval m = .map (some lb)) (hx : a.eval x = .int .i64 d) (h : ListsAt w lb ds fv) (hw : (Lit.int .i64 d).wf = true) (hd : d ∈ ds) (ds' : List Int) (hds : ds'.length + 1 = ds.length) (hmm : ∀ x, x ∈ ds' ↔ x ≠ d ∧ x ∈ ds)
    (hK : ∀ w1, Hid (ListsAt w1 lb ds' fv) → Hid (KeptOff (fun k => k = lb) w w1) → wpList Tryz.prog ops Q rest (a.put o.dst (.tuple #[])) w1) : wpList Tryz.prog ops Q (o :: rest) a w := by
  refine wpList_plain hg fun K' hK' => ?_
  obtain ⟨w', hrun, r1, r2⟩ := h.drop hw hd ds' hds hmm o.type
  unfold Oper.wp
  simp [execOp, hop, resolve, invoke, builtin, hm, hx, hrun, Result.andThen]
  exact hK' _ _ (hK w' r1 r2)
theorem wpList_delete_keysC (hg : o.guard = none) (mo x : Operand) (hop : o.op = Op.call { callee := Callee.builtin Builtin.delete, args := #[mo, x], argTypes := #[89, 150] }) {mb : Nat} {T : List M} (m : M)
    (hmo : a.eval mo = .map (some mb)) (hx : a.eval x = .agg #[.int .i64 m.k.f, .int .i64 m.u]) (h : KeysAtC w mb T) (hm : m.fits) (hfit : ∀ x ∈ T, x.fits) {T' : List M} (hp : (m :: T').Perm T) (hU : Unlike T)
    (hK : ∀ w1, Hid (KeysAtC w1 mb T') → Hid (KeptOff (fun k => k = mb) w w1) → wpList Tryz.prog ops Q rest (a.put o.dst (.tuple #[])) w1) : wpList Tryz.prog ops Q (o :: rest) a w := by
  refine wpList_plain hg fun K' hK' => ?_
  obtain ⟨w', hrun, r1, r2⟩ := h.drop m hm hfit hp hU o.type
  unfold Oper.wp
  simp [execOp, hop, resolve, invoke, builtin, hmo, hx, hrun, Result.andThen]
  exact hK' _ _ (hK w' r1 r2)
end

/-- What the end of a day leaves. -/
def EndRes (w : World) (db : Nat) (W : Int) (lb : Nat) (ov : Value) (ds : List Int) (L : Int → List M) (fv : Int → Value) (i : Nat) (w' : World) : Prop :=
  ∃ ov', DaysOf w' db W lb ov' (ds.eraseIdx i) L fv ∧ KeptOff (fun k => k = db ∨ k = lb ∨ ov.ownBlock = some k) w w' ∧ ∀ k, ov'.ownBlock = some k → ov.ownBlock = some k
set_option maxHeartbeats 4000000 in
set_option maxRecDepth 100000 in
theorem end_any {w : World} {db lb : Nat} {W : Int} {ov : Value} {ds : List Int} {L : Int → List M} {fv : Int → Value} (h : DaysOf w db W lb ov ds L fv) {d : Int} {i : Nat} (hi : i < ds.length) (hd : ds[i] = d) :
    Calls Tryz.prog 106 #[.pointer (some ⟨db, 0, none⟩), .int .i64 d] w fun e w' => e = .returned (.tuple #[]) ∧ EndRes w db W lb ov ds L fv i w' := by
  have mixed := mixed
  have hdm : d ∈ ds := hd ▸ List.getElem_mem hi
  have hwf := h.wf hdm
  have hdsl : ds.length ≤ 16384 := by have := days_len (fun x hx => (h.days.2 x hx).1) (ds := ds) (L := L); have := h.small; omega
  have hds' : (ds.eraseIdx i).length + 1 = ds.length := by rw [List.length_eraseIdx_of_lt hi]; omega
  have hmm := mem_out h.days.1 hi hd
  obtain ⟨g, off, cap, hov, hR⟩ := AtI.form h.order (by omega)
  have hog : ov.ownBlock = some g := by rw [hov]; rfl
  -- behind the delete
  have hstep : Hid (∀ w1, ListsAt w1 lb (ds.eraseIdx i) fv → KeptOff (fun k => k = lb) w w1 → w1.cell? ⟨db, 2, none⟩ = some (.slice (some ⟨g, off, none⟩) ds.length cap) ∧
      Calls Tryz.prog 102 #[.slice (some ⟨g, off, none⟩) ds.length cap, .int .i64 d] w1 fun e w2 => ∃ bb, e = .returned (.tuple #[.int .i64 i, .bool bb]) ∧ w1 = w2 ∧
        Hid (Calls Tryz.prog 112 #[.slice (some ⟨g, off, none⟩) ds.length cap, .int .i64 i] w1 fun e w3 => ∃ off' cap', e = .returned (.slice (some ⟨g, off', none⟩) (ds.length - 1) cap') ∧
          w3.cell? ⟨db, 2, none⟩ = some (.slice (some ⟨g, off, none⟩) ds.length cap) ∧ w3.frozen? ⟨db, 2, none⟩ = false ∧ Hid (EndRes w db W lb ov ds L fv i (w3.setCell ⟨db, 2, none⟩ (.slice (some ⟨g, off', none⟩) (ds.length - 1) cap'))))) := by
    intro w1 hl1 hk1
    have hr1 : w1.heap[db]? = some (.cells #[.int .i64 W, .map (some lb), ov] 101 (0, 0)) := (hk1.block db h.lt h.db_lb).trans h.row
    have ho1 : AtI w1 ov ds := RowAt.kept h.order hk1 (fun k e => (h.ov_db e).2)
    have hR1 : RowI w1 g off cap ds := RowIn.kept hR hk1 ((h.ov_db hog).2)
    rw [← hov]
    refine ⟨by simp [World.cell?, hr1], (binS_any ho1 h.days.1 d (by omega)).mono ?_⟩
    rintro e w2 ⟨p, bb, he, rfl, hp⟩
    obtain rfl := place_day h.days.1 hi hd hp
    refine ⟨bb, he, rfl, ?_⟩
    rw [hov]
    refine (withoutI_any hR1 p hi (by omega)).mono ?_
    rintro e w3 ⟨off', cap', he3, hR3, hk3⟩
    have hgdb := (h.ov_db hog).1
    have hr3 : w3.heap[db]? = some (.cells #[.int .i64 W, .map (some lb), ov] 101 (0, 0)) := (hk3.block db (Nat.lt_of_lt_of_le h.lt hk1.size) (Ne.symm hgdb)).trans hr1
    have k4 := KeptOff.set w3 ⟨db, 2, none⟩ (.slice (some ⟨g, off', none⟩) (ds.length - 1) cap')
    refine ⟨off', cap', he3, by rw [← hov]; simp [World.cell?, hr3], by simp [World.frozen?, hr3], .slice (some ⟨g, off', none⟩) (ds.length - 1) cap', ?_, ?_, ?_⟩
    · have hperm := perm_out hi hd L
      have hsub : ∀ x ∈ ds.eraseIdx p, x ∈ ds := fun x hx => ((hmm x).1 hx).2
      have hUn := h.unlike.perm hperm.symm
      refine { row := days_set hr3 _, lists := (hl1.kept hk3 (Ne.symm (h.ov_db hog).2)).kept k4 (Ne.symm h.db_lb), order := ?_, days := ⟨h.days.1.sublist (List.eraseIdx_sublist ..), fun x hx => h.days.2 x (hsub x hx)⟩, each := fun x hx => ?_, apart := fun x hx y hy => h.apart x (hsub x hx) y (hsub y hy), width := h.width, wide := h.wide, unlike := (List.pairwise_append.1 hUn).2.1, fits := fun x hx => h.fits x (hperm.mem_iff.1 (List.mem_append_right _ hx)), small := ?_ }
      · have hr2 : RowI (w3.setCell ⟨db, 2, none⟩ (.slice (some ⟨g, off', none⟩) (ds.length - 1) cap')) g off' cap' (ds.eraseIdx p) := RowIn.kept hR3 k4 hgdb
        unfold RowI at hr2
        unfold AtI
        rw [List.length_eraseIdx_of_lt hi] at hr2 ⊢
        exact .inr ⟨g, off', cap', rfl, hr2⟩
      · have hx' := hsub x hx
        have hof := fun k e => h.fv_db hx' (k := k) e
        refine ((RowAt.kept (h.each x hx') hk1 (fun k e => (hof k e).2.1)).kept hk3 (fun k e e2 => (hof k e).2.2 (e2 ▸ hog))).kept k4 (fun k e => (hof k e).1)
      · have := hperm.length_eq
        rw [List.length_append] at this
        have := h.small
        omega
    · exact ((hk1.mono (fun k _ e => .inr (.inl e))).trans (hk3.mono (fun k _ e => .inr (.inr (by subst e; first | exact hog | rfl))))).trans (k4.mono (fun k _ e => .inl e))
    · intro k e
      simp [Value.ownBlock] at e
      rw [← e]
      first | exact hog | rfl
  have c1 := h.c1
  have hl := h.lists
  generalize EndRes w db W lb ov ds L fv i = R at hstep ⊢
  clear h hR hog hov hdsl
  go_enter Tryz.func106, Tryz.ntmps106
  go_upto_region 1 with ((at_delete; refine wpList_delete_lists rfl _ _ rfl rfl rfl hl hwf hdm (ds.eraseIdx i) hds' hmm ?_; intro w1 hl1 hk1; obtain ⟨c2, hbin⟩ := hstep.out w1 hl1.out hk1.out))
  have hbin' := Lib.hid hbin
  clear hbin hl hl1 hk1 hstep c1 hwf hdm hds' hmm hd
  generalize ds.length = n at *
  go_wp2_with (first
    | (go_at_call 102; (with_reducible refine hbin'.out.mono ?_); rintro e w2 ⟨bb, rfl, rfl, hw⟩)
    | (go_at_call 112; (with_reducible refine hw.out.mono ?_); rintro e w3 ⟨off', cap', rfl, c3, f3, hR⟩))
  first | go_end0 | refine bodyPost_ret (results_none rfl _ _ _) rfl ?_
  exact ⟨rfl, hR.out⟩
end Go.Proofs.YtjlbkdghlijoeaaGreat
namespace Go.Proofs.YtjlbkdghlijoeaaGreat
open Go.ChangeShapes Go.WideShapes Go.ChangeAt Go.Shelf Go.RowKit Go.Lib Go.Sort Go.Deep Go.Maps
set_option linter.unusedVariables false

/-- What a cut leaves. -/
def CutRes (w : World) (db : Nat) (W : Int) (lb : Nat) (ov : Value) (ds : List Int) (L : Int → List M) (fv : Int → Value) (x : M) (w' : World) : Prop :=
  ∃ ov' ds' L' fv', DaysOf w' db W lb ov' ds' L' fv' ∧ (x :: ds'.flatMap L').Perm (ds.flatMap L) ∧ KeptOff (DOwn db lb ov ds fv) w w' ∧ ∀ k, DOwn db lb ov' ds' fv' k → DOwn db lb ov ds fv k
section
variable {w : World} {db lb : Nat} {W : Int} {ov : Value} {ds : List Int} {L : Int → List M} {fv : Int → Value} {x : M}
theorem CutRes.put (h : DaysOf w db W lb ov ds L fv) {w' : World} (hc : CutRes w db W lb ov ds L fv x w') {B : Nat} (hB : w.heap.size ≤ B) (cs : Array Value) : CutRes w db W lb ov ds L fv x (w'.setRow B cs) := by
  obtain ⟨ov', ds', L', fv', hD, hp, hk, ho⟩ := hc
  have k2 := KeptOff.row w' B cs
  refine ⟨ov', ds', L', fv', hD.kept k2 (fun k hk' e => ?_), hp, hk.then_new k2 (fun k hk' e => by omega), ho⟩
  have := h.own_lt (ho k hk')
  omega
/-- From a world that is as it was below. -/
theorem CutRes.from (h : DaysOf w db W lb ov ds L fv) {w1 w' : World} (hb : Below w.heap.size w w1) (hc : CutRes w1 db W lb ov ds L fv x w') : CutRes w db W lb ov ds L fv x w' := by
  obtain ⟨ov', ds', L', fv', hD, hp, hk, ho⟩ := hc
  exact ⟨ov', ds', L', fv', hD, hp, (KeptOff.of_below hb).trans hk, ho⟩
/-- The last of its day. -/
theorem cut_end (h : DaysOf w db W lb ov ds L fv) {i : Nat} (hi : i < ds.length) (hL : L ds[i] = [x]) {w' : World} (hE : EndRes w db W lb ov ds L fv i w') : CutRes w db W lb ov ds L fv x w' := by
  obtain ⟨ov', hD, hk, ho⟩ := hE
  have hp := perm_out hi rfl L
  rw [hL] at hp
  refine ⟨ov', ds.eraseIdx i, L, fv, hD, hp, hk.mono (fun k _ e => ?_), ?_⟩
  · rcases e with e | e | e
    · exact .inl e
    · exact .inr (.inl e)
    · exact .inr (.inr (.inl e))
  · rintro k (e | e | e | ⟨y, hy, e⟩)
    · exact .inl e
    · exact .inr (.inl e)
    · exact .inr (.inr (.inl (ho k e)))
    · exact .inr (.inr (.inr ⟨y, ((mem_out h.days.1 hi rfl y).1 hy).2, e⟩))
/-- One of some: the list's store, behind the list's without. -/
theorem cut_step (h : DaysOf w db W lb ov ds L fv) {d : Int} (hd : d ∈ ds) {p : Nat} (hp : p < (L d).length) (hx : (L d)[p] = x) (h2 : 2 ≤ (L d).length) {w1 : World} {g off cap : Nat} (hv : (fv d).ownBlock = some g) (hr : RowM w1 g off cap ((L d).eraseIdx p)) (hk : KeptOff (fun k => k = g) w w1) :
    ∃ w2, (Instr.mapUpdate 98 (.map (some lb)) (.int .i64 d) (.slice (some ⟨g, off, none⟩) ((L d).length - 1) cap)).run Tryz.prog w1 = .ok () w2 ∧ KeptOff (fun k => k = lb) w1 w2 ∧ CutRes w db W lb ov ds L fv x w2 := by
  have hg := h.fv_db hd hv
  have hwf := h.wf hd
  have hdsl : ds.length ≤ 16384 := by have := days_len (fun x hx => (h.days.2 x hx).1) (ds := ds) (L := L); have := h.small; omega
  have hl1 := h.lists.kept hk (Ne.symm hg.2.1)
  obtain ⟨w2, hrun, hl2, hk2⟩ := hl1.store hwf (.slice (some ⟨g, off, none⟩) ((L d).length - 1) cap) (by omega) ds (by rw [if_pos hd]) (fun y => ⟨.inr, fun e => e.elim (fun e => e ▸ hd) id⟩)
  have hil : ((L d).eraseIdx p).length = (L d).length - 1 := List.length_eraseIdx_of_lt hp
  have hAt : AtM w2 (.slice (some ⟨g, off, none⟩) ((L d).length - 1) cap) ((L d).eraseIdx p) := by
    have hr2 : RowM w2 g off cap ((L d).eraseIdx p) := RowIn.kept hr hk2 hg.2.1
    unfold RowM at hr2
    unfold AtM
    rw [hil] at hr2 ⊢
    exact .inr ⟨g, off, cap, rfl, hr2⟩
  have hpe : (x :: (L d).eraseIdx p).Perm (L d) := by have := erase_perm hp; rwa [hx] at this
  have hperm : (x :: ds.flatMap (putDay L d ((L d).eraseIdx p))).Perm (ds.flatMap L) := flat_turn (rising_nodup h.days.1) hd (X := [x]) (Y := []) hpe
  have hne : (L d).eraseIdx p ≠ [] := fun e => by rw [e] at hil; simp at hil; omega
  have hnv : ∀ y ∈ ds, y ≠ d → ∀ k, (fv y).ownBlock = some k → k ≠ g ∧ k ≠ lb := fun y hy hn k e => ⟨fun e2 => h.apart y hy d hd hn k e (e2 ▸ hv), (h.fv_db hy e).2.1⟩
  refine ⟨w2, hrun, hk2, ov, ds, putDay L d ((L d).eraseIdx p), fun y => if y = d then .slice (some ⟨g, off, none⟩) ((L d).length - 1) cap else fv y, ?_, hperm, ?_, ?_⟩
  · have hU := (List.pairwise_cons.1 (h.unlike.perm hperm.symm)).2
    refine { row := ?_, lists := hl2, order := ?_, days := ⟨h.days.1, fun y hy => ?_⟩, each := fun y hy => ?_, apart := fun y hy z hz hn k hky => ?_, width := h.width, wide := h.wide, unlike := hU, fits := fun y hy => h.fits y (hperm.mem_iff.1 (List.mem_cons_of_mem _ hy)), small := ?_ }
    · exact ((hk2.block db (Nat.lt_of_lt_of_le h.lt hk.size) h.db_lb).trans (hk.block db h.lt (Ne.symm hg.1))).trans h.row
    · exact (RowAt.kept h.order hk (fun k e e2 => hg.2.2 (e2 ▸ e))).kept hk2 (fun k e => (h.ov_db e).2)
    · by_cases e : y = d
      · subst e
        rw [putDay_same]
        exact ⟨hne, (h.days.2 _ hd).2.1.sublist (List.eraseIdx_sublist ..), fun z hz => (h.days.2 _ hd).2.2 z (hpe.mem_iff.1 (List.mem_cons_of_mem _ hz))⟩
      · rw [putDay_other L _ e]
        exact h.days.2 y hy
    · by_cases e : y = d
      · subst e
        rw [putDay_same]
        simpa using hAt
      · rw [putDay_other L _ e]
        simp only [if_neg e]
        exact (RowAt.kept (h.each y hy) hk (fun k e' => (hnv y hy e k e').1)).kept hk2 (fun k e' => (hnv y hy e k e').2)
    · by_cases ey : y = d
      · by_cases ez : z = d
        · exact absurd (ey.trans ez.symm) hn
        · simp only [if_pos ey] at hky
          simp only [if_neg ez]
          simp [Value.ownBlock] at hky
          subst hky
          exact fun e => (hnv z hz ez _ e).1 rfl
      · simp only [if_neg ey] at hky
        by_cases ez : z = d
        · simp only [if_pos ez]
          intro e
          simp [Value.ownBlock] at e
          exact (hnv y hy ey k hky).1 e.symm
        · simp only [if_neg ez]
          exact h.apart y hy z hz hn k hky
    · have := hperm.length_eq
      rw [List.length_cons] at this
      have := h.small
      omega
  · exact (hk.mono (fun k _ e => .inr (.inr (.inr ⟨d, hd, e ▸ hv⟩)))).trans (hk2.mono (fun k _ e => .inr (.inl e)))
  · rintro k (e | e | e | ⟨y, hy, e⟩)
    · exact .inl e
    · exact .inr (.inl e)
    · exact .inr (.inr (.inl e))
    · by_cases ey : y = d
      · simp only [if_pos ey] at e
        simp [Value.ownBlock] at e
        subst e
        exact .inr (.inr (.inr ⟨d, hd, hv⟩))
      · simp only [if_neg ey] at e
        exact .inr (.inr (.inr ⟨y, hy, e⟩))
end
/-- What holds behind the cut of the days, ahead of the result's store. -/
def CutFin (w : World) (db : Nat) (W : Int) (lb : Nat) (ov : Value) (ds : List Int) (L : Int → List M) (fv : Int → Value) (x : M) (B G : Nat) (w' : World) : Prop :=
  BoxM w' G x ∧ BoxM w' B zeroM ∧ CutRes w db W lb ov ds L fv x (w'.setRow B x.cells)
/-- The rest of cut, at the world behind the message's box. -/
def CutRest (w : World) (db : Nat) (W : Int) (lb : Nat) (ov : Value) (ds : List Int) (L : Int → List M) (fv : Int → Value) (x : M) (B G : Nat) (d : Int) (g off cap p : Nat) (w4 : World) : Prop :=
  ((L d).length = 1 → Calls Tryz.prog 106 #[.pointer (some ⟨db, 0, none⟩), .int .i64 d] w4 fun e w5 => e = .returned (.tuple #[]) ∧ CutFin w db W lb ov ds L fv x B G w5) ∧
  ((L d).length ≠ 1 → w4.cell? ⟨db, 1, none⟩ = some (.map (some lb)) ∧ Calls Tryz.prog 107 #[.slice (some ⟨g, off, none⟩) (L d).length cap, .int .i64 p] w4.drew fun e w6 => ∃ off' cap' : Nat, e = .returned (.slice (some ⟨g, off', none⟩) ((L d).length - 1) cap') ∧
    Hid (w6.cell? ⟨db, 1, none⟩ = some (.map (some lb)) ∧ ∃ w7, (Instr.mapUpdate 98 (.map (some lb)) (.int .i64 d) (.slice (some ⟨g, off', none⟩) ((L d).length - 1) cap')).run Tryz.prog w6 = .ok () w7 ∧ w7.cell? ⟨db, 1, none⟩ = some (.map (some lb)) ∧ CutFin w db W lb ov ds L fv x B G w7))
theorem cut_rest {w : World} {db lb : Nat} {W : Int} {ov : Value} {ds : List Int} {L : Int → List M} {fv : Int → Value} {x : M} {B G : Nat} {d : Int} {g off cap p : Nat} {w4 : World} (h : DaysOf w db W lb ov ds L fv) (hd : d ∈ ds) (hp : p < (L d).length) (hx : (L d)[p] = x)
    (hv : fv d = .slice (some ⟨g, off, none⟩) (L d).length cap) (hR : RowM w g off cap (L d)) (hb : Below w.heap.size w w4) (hB : BoxM w4 B zeroM) (hG : BoxM w4 G x) (hBw : w.heap.size ≤ B) (hGw : w.heap.size ≤ G) :
    CutRest w db W lb ov ds L fv x B G d g off cap p w4 := by
  have h4 := h.below hb
  have hlen : (L d).length ≤ 16384 := by have := day_len hd (L := L); have := h.small; omega
  have hvg : (fv d).ownBlock = some g := by rw [hv]; rfl
  refine ⟨fun h1 => ?_, fun h1 => ⟨h4.c1, ?_⟩⟩
  · obtain ⟨i, hi, hdi⟩ := List.getElem_of_mem hd
    have hL1 : L ds[i] = [x] := by
      rw [hdi]
      generalize L d = l at *
      match l, h1 with
      | [y], _ =>
        have hp0 : p = 0 := by simp at hp; exact hp
        subst hp0
        simp at hx
        rw [hx]
    refine (end_any h4 hi hdi).mono ?_
    rintro e w5 ⟨he, hE⟩
    have hC := cut_end h4 hi hL1 hE
    obtain ⟨ov', hD, hk, ho⟩ := hE
    have hout : ∀ k, w.heap.size ≤ k → ¬ (k = db ∨ k = lb ∨ ov.ownBlock = some k) := by
      rintro k hk (e | e | e)
      · have := h.lt; omega
      · have := h.lists.lt; omega
      · have := RowAt.lt h.order k e; omega
    exact ⟨he, hG.kept hk (hout G hGw), hB.kept hk (hout B hBw), (CutRes.from h hb hC).put h hBw _⟩
  · have hb5 : Below w.heap.size w w4.drew := hb.drew
    have h5 := h.below hb5
    have hR5 : RowM w4.drew g off cap (L d) := RowIn.block hR (hb5.block g (RowIn.lt hR))
    refine (withoutM_any hR5 p hp (by omega)).mono ?_
    rintro e w6 ⟨off', cap', he, hr, hk⟩
    obtain ⟨w7, hrun, hk7, hC⟩ := cut_step h5 hd hp hx (by omega) hvg hr hk
    have hgl := h5.fv_db hd hvg
    have hg := RowIn.lt hR
    have hll := h.lists.lt
    have hr6 : w6.heap[db]? = some (.cells #[.int .i64 W, .map (some lb), ov] 101 (0, 0)) := (hk.block db h5.lt (Ne.symm hgl.1)).trans h5.row
    have hr7 : w7.heap[db]? = some (.cells #[.int .i64 W, .map (some lb), ov] 101 (0, 0)) := (hk7.block db (Nat.lt_of_lt_of_le h5.lt hk.size) h5.db_lb).trans hr6
    have hGd : BoxM w4.drew G x := hG
    have hBd : BoxM w4.drew B zeroM := hB
    exact ⟨off', cap', he, by simp [World.cell?, hr6], w7, hrun, by simp [World.cell?, hr7], (hGd.kept hk (by omega)).kept hk7 (by omega), (hBd.kept hk (by omega)).kept hk7 (by omega), (CutRes.from h hb5 hC).put h hBw _⟩
end Go.Proofs.YtjlbkdghlijoeaaGreat
namespace Go.Proofs.YtjlbkdghlijoeaaGreat
open Go.ChangeShapes Go.WideShapes Go.ChangeAt Go.Shelf Go.RowKit Go.Lib Go.Sort Go.Deep Go.Maps
set_option linter.unusedVariables false

set_option maxHeartbeats 4000000 in
set_option maxRecDepth 100000 in
theorem dcut_any {w : World} {db lb : Nat} {W : Int} {ov : Value} {ds : List Int} {L : Int → List M} {fv : Int → Value} {x : M} (h : DaysOf w db W lb ov ds L fv) (hx : x ∈ ds.flatMap L) (m : M) (hk : m.k = x.k) (hu : m.u = x.u) :
    Calls Tryz.prog 100 #[.pointer (some ⟨db, 0, none⟩), m.val] w fun e w' => e = .returned x.val ∧ CutRes w db W lb ov ds L fv x w' := by
  have mixed := mixed
  obtain ⟨d, hdd⟩ : ∃ d, d = dayOf W m.k.t := ⟨_, rfl⟩
  have hdm := day_mem h.days hx
  rw [← hk, ← hdd] at hdm
  obtain ⟨hd, hxL⟩ := hdm
  obtain ⟨p, hp, hpx⟩ := List.getElem_of_mem hxL
  have hwt : (Lit.int .i64 m.k.t).wf = true := by rw [hk]; exact (h.fits x hx).1.1
  obtain ⟨B0, hB0⟩ : ∃ B0, B0 = w.heap.size := ⟨_, rfl⟩
  obtain ⟨B, hB⟩ : ∃ B, B = w.heap.size + 1 := ⟨_, rfl⟩
  obtain ⟨W1, hW1⟩ : ∃ W1, W1 = w.alloc (.cells m.cells 34) := ⟨_, rfl⟩
  have hsz1 : W1.heap.size = w.heap.size + 1 := by rw [hW1]; simp
  obtain ⟨W2, hW2⟩ : ∃ W2, W2 = W1.alloc (.cells zeroM.cells 34) := ⟨_, rfl⟩
  have hsz2 : W2.heap.size = w.heap.size + 2 := by rw [hW2]; simp [hsz1]
  have hb1 : Below w.heap.size w W1 := by rw [hW1]; exact (Below.refl _ w).alloc (Nat.le_refl _) _
  have hb2 : Below w.heap.size w W2 := by rw [hW2]; exact hb1.alloc hb1.size _
  have hbx1 : BoxM W1 B0 m := by rw [hW1, hB0]; exact BoxM.mk w m
  have hbx : BoxM W2 B0 m := by rw [hW2]; exact hbx1.below ((Below.refl _ W1).alloc (Nat.le_refl _) _)
  have hbz : BoxM W2 B zeroM := by rw [hW2, hB, ← hsz1]; exact BoxM.mk W1 zeroM
  have h2 := h.below hb2
  have hlen : (L d).length ≤ 16384 := by have := day_len hd (L := L); have := h.small; omega
  obtain ⟨g, off, cap, hv, hR⟩ := AtM.form (h.each d hd) (by omega)
  have hR2 : RowM W2 g off cap (L d) := RowIn.block hR (hb2.block g (RowIn.lt hR))
  have hday := dayOf_any h2.c0 h2.width h2.wide hwt
  rw [← hdd] at hday
  have hlk := h2.lists.look hd (h.wf hd)
  rw [hv] at hlk
  have hplace : Calls Tryz.prog 105 #[.slice (some ⟨g, off, none⟩) (L d).length cap, m.val] W2 fun e w3 => e = .returned (.int .i64 p) ∧ Below W2.heap.size W2 w3 := by
    have hat := h2.each d hd
    rw [hv] at hat
    refine (placeIn_any hat (h.days.2 d hd).2.1 m (by omega)).mono ?_
    rintro e w3 ⟨q, he, hb, hq⟩
    obtain rfl := place_at (h.days.2 d hd).2.1 (unlike_day hd h.unlike) hp hpx hk hu hq
    exact ⟨he, hb⟩
  have hrest : Hid (∀ w3, Below W2.heap.size W2 w3 → MsgAt w3 g (off + p * 7) x ∧ w.heap.size + 2 ≤ w3.heap.size ∧ BoxM ((w3.alloc (.cells zeroM.cells 34)).setRow w3.heap.size x.cells) w3.heap.size x ∧
      CutRest w db W lb ov ds L fv x B w3.heap.size d g off cap p ((w3.alloc (.cells zeroM.cells 34)).setRow w3.heap.size x.cells)) := by
    intro w3 hb3
    have hb3' : Below w.heap.size w w3 := hb2.trans (hb3.mono hb2.size)
    have hs3 := hb3.size
    have hR3 : RowM w3 g off cap (L d) := RowIn.block hR (hb3'.block g (RowIn.lt hR))
    have hat := hR3.at p hp
    have ex : (L d).getD p default = x := by simp [List.getD_eq_getElem?_getD, hp, hpx]
    rw [ex] at hat
    have k3 : KeptOff (fun _ => False) w3 (w3.alloc (.cells zeroM.cells 34)) := .of_below ((Below.refl _ w3).alloc (Nat.le_refl _) _)
    have k4 : KeptOff (fun _ => False) w3 ((w3.alloc (.cells zeroM.cells 34)).setRow w3.heap.size x.cells) := k3.then_new (KeptOff.row _ _ _) (fun k hk e => by omega)
    have hb4 : Below w.heap.size w ((w3.alloc (.cells zeroM.cells 34)).setRow w3.heap.size x.cells) := hb3'.trans (k4.below (fun k _ e => e.elim) hb3'.size)
    have hG : BoxM ((w3.alloc (.cells zeroM.cells 34)).setRow w3.heap.size x.cells) w3.heap.size x := (BoxM.mk w3 zeroM).row x
    have hBz : BoxM ((w3.alloc (.cells zeroM.cells 34)).setRow w3.heap.size x.cells) B zeroM := (hbz.below hb3).kept k4 (fun e => e)
    exact ⟨hat, by omega, hG, cut_rest h hd hp hpx hv hR hb4 hBz hG (by omega) (by omega)⟩
  have c1 := h2.c1
  obtain ⟨-, x0, x1, x2, x3, x4, x5, x6⟩ := hbx.at
  simp only [Nat.zero_add] at x0 x1 x2 x3 x4 x5 x6
  have hpI : (p : Int) < ((L d).length : Int) := by omega
  simp only [M.val, M.cells] at hplace hW1 ⊢
  have hcr : Hid (∀ G w', CutFin w db W lb ov ds L fv x B G w' ↔ BoxM w' G x ∧ BoxM w' B zeroM ∧ CutRes w db W lb ov ds L fv x (w'.setRow B x.cells)) := fun _ _ => Iff.rfl
  unfold CutRest at hrest
  generalize CutFin w db W lb ov ds L fv x = F at hrest hcr
  generalize CutRes w db W lb ov ds L fv x = R at hcr ⊢
  clear h2 hbz hbx hbx1 hb2 hb1 hR2 hwt hxL hpx hlen hd h hx hv hR
  have hdd' := Lib.hid hdd
  have hplace' := Lib.hid hplace
  clear hdd hplace hk hu
  generalize L d = l at *
  generalize l.length = n at *
  go_enter Tryz.func100, Tryz.ntmps100
  go_upto_region 1 with (fail)
  rw [← hW1, show W1.alloc (.cells #[.int .i64 0, .int .i64 0, .int .i64 0, .int .i64 0, .int .i64 0, .int .i64 0, .bool false] 34) = W2 from hW2.symm, ← hB0]
  rw [← (show B = B0 + 1 by rw [hB, hB0])]
  have hBs := Lib.hid hB
  clear hW1 hW2 hsz1 hsz2 hB hB0
  go_upto_region 5 with (first
    | (go_at_call 101; refine hday.mono ?_; rintro e w1 ⟨rfl, rfl⟩)
    | (go_at_call 105; (with_reducible refine hplace'.out.mono ?_); rintro e w3 ⟨rfl, hb3⟩; obtain ⟨hat, hsz, hG, hr⟩ := hrest.out w3 hb3; have hr' := Lib.hid hr; clear hr hb3; obtain ⟨-, y0, y1, y2, y3, y4, y5, y6⟩ := hat)
    | (refine wpList_store_row rfl 34 (.tmp 8) (.tmp 26) rfl w3.heap.size x.cells rfl rfl 34 zeroM.cells (heap_alloc_new w3 _) infoS rfl (M.cells_one x) ?_))
  simp only [show zeroM.cells = #[.int .i64 0, .int .i64 0, .int .i64 0, .int .i64 0, .int .i64 0, .int .i64 0, .bool false] from rfl] at hG hr'
  generalize w3.heap.size = G at hG hr' hsz ⊢
  generalize (w3.alloc (.cells #[.int .i64 0, .int .i64 0, .int .i64 0, .int .i64 0, .int .i64 0, .int .i64 0, .bool false] 34)).setRow G x.cells = W4 at hG hr' ⊢
  clear hlk hplace' hday c1 x0 x1 x2 x3 x4 x5 x6 y0 y1 y2 y3 y4 y5 y6 hrest hG
  by_cases h1 : n = 1
  · subst h1
    have hend := Lib.hid (hr'.out.1 rfl)
    clear hr' hpI hp
    go_upto_region 8 with (go_at_call 106; (with_reducible refine hend.out.mono ?_); rintro e w5 ⟨rfl, hF⟩)
    obtain ⟨hG5, hB5, hR5⟩ := (hcr.out _ _).1 hF
    obtain ⟨-, z0, z1, z2, z3, z4, z5, z6⟩ := hG5.at
    simp only [Nat.zero_add] at z0 z1 z2 z3 z4 z5 z6
    go_wp2_with (refine wpList_store_row rfl 34 (.tmp 4) (.tmp 41) rfl B x.cells rfl rfl 34 zeroM.cells hB5 infoS rfl (M.cells_one x) ?_)
    obtain ⟨-, s0, s1, s2, s3, s4, s5, s6⟩ := (hB5.row x).at
    simp only [Nat.zero_add] at s0 s1 s2 s3 s4 s5 s6
    exact bodyPost_ret (v := x.val) (by simp [results, Tryz.results100, go_sem, s0, s1, s2, s3, s4, s5, s6, M.val]) rfl ⟨rfl, hR5⟩
  · have hz : ¬ ((n : Int) = 1) := by omega
    obtain ⟨c4, hw⟩ := hr'.out.2 h1
    have hw' := Lib.hid hw
    have c5 : W4.drew.cell? ⟨db, 1, none⟩ = some (.map (some lb)) := c4
    clear hr' hw hpI hp c4
    go_upto_region 7 with (fail)
    go_region_held3 (fun w' => w'.cell? ⟨db, 1, none⟩ = some (.map (some lb)))
      (first | exact c5 | exact c6 | exact c7)
      (first | (go_at_call 107; (with_reducible refine hw'.out.mono ?_); rintro e w6 ⟨off', cap', rfl, h6⟩; obtain ⟨c6, w7, hrun, c7, hF⟩ := h6.out))
    obtain ⟨hG5, hB5, hR5⟩ := (hcr.out _ _).1 hF
    obtain ⟨-, z0, z1, z2, z3, z4, z5, z6⟩ := hG5.at
    simp only [Nat.zero_add] at z0 z1 z2 z3 z4 z5 z6
    go_wp2_with (refine wpList_store_row rfl 34 (.tmp 4) (.tmp 41) rfl B x.cells rfl rfl 34 zeroM.cells hB5 infoS rfl (M.cells_one x) ?_)
    obtain ⟨-, s0, s1, s2, s3, s4, s5, s6⟩ := (hB5.row x).at
    simp only [Nat.zero_add] at s0 s1 s2 s3 s4 s5 s6
    exact bodyPost_ret (v := x.val) (by simp [results, Tryz.results100, go_sem, s0, s1, s2, s3, s4, s5, s6, M.val]) rfl ⟨rfl, hR5⟩
end Go.Proofs.YtjlbkdghlijoeaaGreat
namespace Go.Proofs.YtjlbkdghlijoeaaGreat
open Go.ChangeShapes Go.WideShapes Go.ChangeAt Go.Shelf Go.RowKit Go.Lib Go.Sort Go.Deep Go.Maps
set_option linter.unusedVariables false

theorem sendRowH : (130 : TypeId) < Tryz.prog.types.size := of_decide_eq_true (by kernel_rfl)
theorem sendWideH : (match Tryz.prog.underlying 130 with | some (.array _ _) | some (.struct _) => true | _ => false) = true := by rw [Tryz.underlying130]
set_option maxRecDepth 100000 in
theorem sendLawH : Keyed Tryz.prog 130 := Keyed.of_law (deep_law_laid laidOut (m := 2) (by omega) sendRowH (by kernel_rfl) sendWideH)
theorem cellsSendH : Tryz.prog.cellsOf 130 = 2 := by kernel_rfl
theorem keyLits_sendH (d : Nat) {f u : Int} (hf : (Lit.int .i64 f).wf = true) (hu : (Lit.int .i64 u).wf = true) : Tryz.prog.keyLits (d + 2) 130 [.int .i64 f, .int .i64 u] = some [.int .i64 f, .int .i64 u] := by
  simp [Program.keyLits, Tryz.underlying130, Tryz.underlying3, cellsSendH, cellsInt, hf, hu]
theorem keyOf_sendH {f u : Int} (hf : (Lit.int .i64 f).wf = true) (hu : (Lit.int .i64 u).wf = true) : keyOf Tryz.prog 130 (sendV f u) = some (sendL f u) := by
  have hk : Tryz.prog.keyType 130 = true := by kernel_rfl
  have hfm : (sendV f u).formed Tryz.prog 130 = true := by simp [sendV, Value.formed, Tryz.underlying130, cellsSendH]
  unfold keyOf
  rw [Tryz.underlying130]
  simp only [hk, hfm, Bool.and_self, if_true]
  rw [keyTypes]
  have e : (sendV f u).cells.toList = [.int .i64 f, .int .i64 u] := rfl
  rw [e, show (192 + 1 : Nat) = (192 - 1) + 2 from rfl, keyLits_sendH _ hf hu]
  rfl
/-- Block mb is the map of the sendings of T. -/
def SendsAt (w : World) (mb n : Nat) (T : List M) : Prop :=
  ∃ D : DataW Unit, w.ownsMap Tryz.prog 130 unitElem mb n D ∧ ∀ f u, (Lit.int .i64 f).wf = true → (Lit.int .i64 u).wf = true → has D (sendL f u) = hasS T f u
theorem SendsAt.made (w : World) : SendsAt (w.alloc (.map #[] 0)) w.heap.size 0 [] := ⟨_, World.ownsMap_made _ _ _ _, fun _ _ _ _ => rfl⟩
theorem SendsAt.mono {w : World} {mb n n' : Nat} {T : List M} (h : SendsAt w mb n T) (hn : n ≤ n') : SendsAt w mb n' T := by
  obtain ⟨D, h1, h2⟩ := h
  exact ⟨D, h1.mono hn, h2⟩
theorem SendsAt.congr {w : World} {mb n : Nat} {T T' : List M} (h : SendsAt w mb n T) (hT : ∀ f u, hasS T f u = hasS T' f u) : SendsAt w mb n T' := by
  obtain ⟨D, h1, h2⟩ := h
  exact ⟨D, h1, fun f u hf hu => (h2 f u hf hu).trans (hT f u)⟩
theorem SendsAt.lt {w : World} {mb n : Nat} {T : List M} (h : SendsAt w mb n T) : mb < w.heap.size := by
  obtain ⟨D, h1, _⟩ := h
  exact h1.lt
theorem SendsAt.block {w w' : World} {mb n : Nat} {T : List M} (h : SendsAt w mb n T) (hb : w'.heap[mb]? = w.heap[mb]?) : SendsAt w' mb n T := by
  obtain ⟨D, ⟨es, clock, h0, r⟩, h2⟩ := h
  exact ⟨D, ⟨es, clock, hb.trans h0, r⟩, h2⟩
theorem SendsAt.kept {S : Nat → Prop} {w w' : World} {mb n : Nat} {T : List M} (h : SendsAt w mb n T) (hk : KeptOff S w w') (hn : ¬ S mb) : SendsAt w' mb n T := h.block (hk.block mb h.lt hn)
/-- Behind a store. -/
theorem sends_put {w : World} {mb n : Nat} {T : List M} {D : DataW Unit} (hI : IsMap D) (m : M) (hm : m.fits) (h2 : ∀ f u, (Lit.int .i64 f).wf = true → (Lit.int .i64 u).wf = true → has D (sendL f u) = hasS T f u)
    (h1 : w.ownsMap Tryz.prog 130 unitElem mb n (D.put (sendL m.k.f m.u) (.agg []))) : SendsAt w mb n (T ++ [m]) := by
  refine ⟨_, h1, fun f u hf hu => ?_⟩
  by_cases e : f = m.k.f ∧ u = m.u
  · obtain ⟨rfl, rfl⟩ := e
    rw [has_put_same hI (sendLawH.key (keyOf_sendH hf hu))]
    simp [hasS]
  · rw [has_put_other (sendL_ne hm.1.2.1 hm.2.2.2 hf hu e), h2 f u hf hu]
    have : ¬ (m.k.f = f ∧ m.u = u) := fun h => e ⟨h.1.symm, h.2.symm⟩
    simp only [hasS, List.any_append, List.any_cons, List.any_nil, Bool.or_false]
    have e2 : (decide (m.k.f = f) && decide (m.u = u)) = false := by
      by_cases a : m.k.f = f <;> by_cases b : m.u = u <;> simp_all
    rw [e2, Bool.or_false]
/-- Behind a delete. -/
theorem sends_del {w : World} {mb n : Nat} {T T' : List M} {D : DataW Unit} (m : M) (hm : m.fits) (h2 : ∀ f u, (Lit.int .i64 f).wf = true → (Lit.int .i64 u).wf = true → has D (sendL f u) = hasS T f u)
    (h1 : w.ownsMap Tryz.prog 130 unitElem mb n (D.del (sendL m.k.f m.u))) (hT : ∀ f u, hasS T' f u = (hasS T f u && !(decide (f = m.k.f) && decide (u = m.u)))) : SendsAt w mb n T' := by
  refine ⟨_, h1, fun f u hf hu => ?_⟩
  rw [hT]
  by_cases e : f = m.k.f ∧ u = m.u
  · obtain ⟨rfl, rfl⟩ := e
    rw [has_del_same]
    simp
  · rw [has_del_other (sendL_ne hm.1.2.1 hm.2.2.2 hf hu e), h2 f u hf hu]
    have : (decide (f = m.k.f) && decide (u = m.u)) = false := by
      by_cases a : f = m.k.f <;> by_cases b : u = m.u <;> simp_all
    rw [this]
    simp
end Go.Proofs.YtjlbkdghlijoeaaGreat
namespace Go.Proofs.YtjlbkdghlijoeaaGreat
open Go.Sort
set_option linter.unusedVariables false

end Go.Proofs.YtjlbkdghlijoeaaGreat
