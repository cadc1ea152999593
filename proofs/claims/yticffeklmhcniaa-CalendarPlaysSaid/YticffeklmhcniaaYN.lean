/-
  Days: a message cut out.
-/
import Derived.Test.YticffeklmhcniaaYM
namespace Go.Proofs.Yticffeklmhcniaa
open Go.ChangeShapes Go.WideShapes Go.ChangeAt Go.Shelf Go.RowKit Go.Lib Go.Sort Go.Deep Go.Maps
set_option linter.unusedVariables false

/-- What a cut leaves. -/
def CutRes (w : World) (db : Nat) (W : Int) (lb : Nat) (ov : Value) (ds : List Int) (L : Int → List M) (fv : Int → Value) (x : M) (w' : World) : Prop :=
  ∃ ov' ds' L' fv', DaysOf w' db W lb ov' ds' L' fv' ∧ (x :: ds'.flatMap L').Perm (ds.flatMap L) ∧ KeptOff (DOwn db lb ov ds fv) w w' ∧ ∀ k, DOwn db lb ov' ds' fv' k → DOwn db lb ov ds fv k
section
variable {w : World} {db lb : Nat} {W : Int} {ov : Value} {ds : List Int} {L : Int → List M} {fv : Int → Value} {x : M}
theorem CutRes.put (h : DaysOf w db W lb ov ds L fv) {w' : World} (hc : CutRes w db W lb ov ds L fv x w') {B : Nat} (hB : w.heap.size ≤ B) (cs : Array Value) : CutRes w db W lb ov ds L fv x (w'.setRow B cs) := by
  obtain ⟨ov', ds', L', fv', hD, hp, hk, ho⟩ := hc
  have k2 := KeptOff.row w' B cs
  refine ⟨ov', ds', L', fv', hD.kept k2 (fun k hk' e => ?_), hp, hk.then_new k2 (fun k hk' e => by omega), ho⟩
  have := h.own_lt (ho k hk')
  omega
/-- From a world that is as it was below. -/
theorem CutRes.from (h : DaysOf w db W lb ov ds L fv) {w1 w' : World} (hb : Below w.heap.size w w1) (hc : CutRes w1 db W lb ov ds L fv x w') : CutRes w db W lb ov ds L fv x w' := by
  obtain ⟨ov', ds', L', fv', hD, hp, hk, ho⟩ := hc
  exact ⟨ov', ds', L', fv', hD, hp, (KeptOff.of_below hb).trans hk, ho⟩
/-- The last of its day. -/
theorem cut_end (h : DaysOf w db W lb ov ds L fv) {i : Nat} (hi : i < ds.length) (hL : L ds[i] = [x]) {w' : World} (hE : EndRes w db W lb ov ds L fv i w') : CutRes w db W lb ov ds L fv x w' := by
  obtain ⟨ov', hD, hk, ho⟩ := hE
  have hp := perm_out hi rfl L
  rw [hL] at hp
  refine ⟨ov', ds.eraseIdx i, L, fv, hD, hp, hk.mono (fun k _ e => ?_), ?_⟩
  · rcases e with e | e | e
    · exact .inl e
    · exact .inr (.inl e)
    · exact .inr (.inr (.inl e))
  · rintro k (e | e | e | ⟨y, hy, e⟩)
    · exact .inl e
    · exact .inr (.inl e)
    · exact .inr (.inr (.inl (ho k e)))
    · exact .inr (.inr (.inr ⟨y, ((mem_out h.days.1 hi rfl y).1 hy).2, e⟩))
/-- One of some: the list's store, behind the list's without. -/
theorem cut_step (h : DaysOf w db W lb ov ds L fv) {d : Int} (hd : d ∈ ds) {p : Nat} (hp : p < (L d).length) (hx : (L d)[p] = x) (h2 : 2 ≤ (L d).length) {w1 : World} {g off cap : Nat} (hv : (fv d).ownBlock = some g) (hr : RowM w1 g off cap ((L d).eraseIdx p)) (hk : KeptOff (fun k => k = g) w w1) :
    ∃ w2, (Instr.mapUpdate 75 (.map (some lb)) (.int .i64 d) (.slice (some ⟨g, off, none⟩) ((L d).length - 1) cap)).run Try.prog w1 = .ok () w2 ∧ KeptOff (fun k => k = lb) w1 w2 ∧ CutRes w db W lb ov ds L fv x w2 := by
  have hg := h.fv_db hd hv
  have hwf := h.wf hd
  have hdsl : ds.length ≤ 16384 := by have := days_len (fun x hx => (h.days.2 x hx).1) (ds := ds) (L := L); have := h.small; omega
  have hl1 := h.lists.kept hk (Ne.symm hg.2.1)
  obtain ⟨w2, hrun, hl2, hk2⟩ := hl1.store hwf (.slice (some ⟨g, off, none⟩) ((L d).length - 1) cap) (by omega) ds (by rw [if_pos hd]) (fun y => ⟨.inr, fun e => e.elim (fun e => e ▸ hd) id⟩)
  have hil : ((L d).eraseIdx p).length = (L d).length - 1 := List.length_eraseIdx_of_lt hp
  have hAt : AtM w2 (.slice (some ⟨g, off, none⟩) ((L d).length - 1) cap) ((L d).eraseIdx p) := by
    have hr2 : RowM w2 g off cap ((L d).eraseIdx p) := RowIn.kept hr hk2 hg.2.1
    unfold RowM at hr2
    unfold AtM
    rw [hil] at hr2 ⊢
    exact .inr ⟨g, off, cap, rfl, hr2⟩
  have hpe : (x :: (L d).eraseIdx p).Perm (L d) := by have := erase_perm hp; rwa [hx] at this
  have hperm : (x :: ds.flatMap (putDay L d ((L d).eraseIdx p))).Perm (ds.flatMap L) := flat_turn (rising_nodup h.days.1) hd (X := [x]) (Y := []) hpe
  have hne : (L d).eraseIdx p ≠ [] := fun e => by rw [e] at hil; simp at hil; omega
  have hnv : ∀ y ∈ ds, y ≠ d → ∀ k, (fv y).ownBlock = some k → k ≠ g ∧ k ≠ lb := fun y hy hn k e => ⟨fun e2 => h.apart y hy d hd hn k e (e2 ▸ hv), (h.fv_db hy e).2.1⟩
  refine ⟨w2, hrun, hk2, ov, ds, putDay L d ((L d).eraseIdx p), fun y => if y = d then .slice (some ⟨g, off, none⟩) ((L d).length - 1) cap else fv y, ?_, hperm, ?_, ?_⟩
  · have hU := (List.pairwise_cons.1 (h.unlike.perm hperm.symm)).2
    refine { row := ?_, lists := hl2, order := ?_, days := ⟨h.days.1, fun y hy => ?_⟩, each := fun y hy => ?_, apart := fun y hy z hz hn k hky => ?_, width := h.width, wide := h.wide, unlike := hU, fits := fun y hy => h.fits y (hperm.mem_iff.1 (List.mem_cons_of_mem _ hy)), small := ?_ }
    · exact ((hk2.block db (Nat.lt_of_lt_of_le h.lt hk.size) h.db_lb).trans (hk.block db h.lt (Ne.symm hg.1))).trans h.row
    · exact (RowAt.kept h.order hk (fun k e e2 => hg.2.2 (e2 ▸ e))).kept hk2 (fun k e => (h.ov_db e).2)
    · by_cases e : y = d
      · subst e
        rw [putDay_same]
        exact ⟨hne, (h.days.2 _ hd).2.1.sublist (List.eraseIdx_sublist ..), fun z hz => (h.days.2 _ hd).2.2 z (hpe.mem_iff.1 (List.mem_cons_of_mem _ hz))⟩
      · rw [putDay_other L _ e]
        exact h.days.2 y hy
    · by_cases e : y = d
      · subst e
        rw [putDay_same]
        simpa using hAt
      · rw [putDay_other L _ e]
        simp only [if_neg e]
        exact (RowAt.kept (h.each y hy) hk (fun k e' => (hnv y hy e k e').1)).kept hk2 (fun k e' => (hnv y hy e k e').2)
    · by_cases ey : y = d
      · by_cases ez : z = d
        · exact absurd (ey.trans ez.symm) hn
        · simp only [if_pos ey] at hky
          simp only [if_neg ez]
          simp [Value.ownBlock] at hky
          subst hky
          exact fun e => (hnv z hz ez _ e).1 rfl
      · simp only [if_neg ey] at hky
        by_cases ez : z = d
        · simp only [if_pos ez]
          intro e
          simp [Value.ownBlock] at e
          exact (hnv y hy ey k hky).1 e.symm
        · simp only [if_neg ez]
          exact h.apart y hy z hz hn k hky
    · have := hperm.length_eq
      rw [List.length_cons] at this
      have := h.small
      omega
  · exact (hk.mono (fun k _ e => .inr (.inr (.inr ⟨d, hd, e ▸ hv⟩)))).trans (hk2.mono (fun k _ e => .inr (.inl e)))
  · rintro k (e | e | e | ⟨y, hy, e⟩)
    · exact .inl e
    · exact .inr (.inl e)
    · exact .inr (.inr (.inl e))
    · by_cases ey : y = d
      · simp only [if_pos ey] at e
        simp [Value.ownBlock] at e
        subst e
        exact .inr (.inr (.inr ⟨d, hd, hv⟩))
      · simp only [if_neg ey] at e
        exact .inr (.inr (.inr ⟨y, hy, e⟩))
end
/-- What holds behind the cut of the days, ahead of the result's store. -/
def CutFin (w : World) (db : Nat) (W : Int) (lb : Nat) (ov : Value) (ds : List Int) (L : Int → List M) (fv : Int → Value) (x : M) (B G : Nat) (w' : World) : Prop :=
  BoxM w' G x ∧ BoxM w' B zeroM ∧ CutRes w db W lb ov ds L fv x (w'.setRow B x.cells)
/-- The rest of cut, at the world behind the message's box. -/
def CutRest (w : World) (db : Nat) (W : Int) (lb : Nat) (ov : Value) (ds : List Int) (L : Int → List M) (fv : Int → Value) (x : M) (B G : Nat) (d : Int) (g off cap p : Nat) (w4 : World) : Prop :=
  ((L d).length = 1 → Calls Try.prog 55 #[.pointer (some ⟨db, 0, none⟩), .int .i64 d] w4 fun e w5 => e = .returned (.tuple #[]) ∧ CutFin w db W lb ov ds L fv x B G w5) ∧
  ((L d).length ≠ 1 → w4.cell? ⟨db, 1, none⟩ = some (.map (some lb)) ∧ Calls Try.prog 56 #[.slice (some ⟨g, off, none⟩) (L d).length cap, .int .i64 p] w4.drew fun e w6 => ∃ off' cap' : Nat, e = .returned (.slice (some ⟨g, off', none⟩) ((L d).length - 1) cap') ∧
    Hid (w6.cell? ⟨db, 1, none⟩ = some (.map (some lb)) ∧ ∃ w7, (Instr.mapUpdate 75 (.map (some lb)) (.int .i64 d) (.slice (some ⟨g, off', none⟩) ((L d).length - 1) cap')).run Try.prog w6 = .ok () w7 ∧ w7.cell? ⟨db, 1, none⟩ = some (.map (some lb)) ∧ CutFin w db W lb ov ds L fv x B G w7))
theorem cut_rest {w : World} {db lb : Nat} {W : Int} {ov : Value} {ds : List Int} {L : Int → List M} {fv : Int → Value} {x : M} {B G : Nat} {d : Int} {g off cap p : Nat} {w4 : World} (h : DaysOf w db W lb ov ds L fv) (hd : d ∈ ds) (hp : p < (L d).length) (hx : (L d)[p] = x)
    (hv : fv d = .slice (some ⟨g, off, none⟩) (L d).length cap) (hR : RowM w g off cap (L d)) (hb : Below w.heap.size w w4) (hB : BoxM w4 B zeroM) (hG : BoxM w4 G x) (hBw : w.heap.size ≤ B) (hGw : w.heap.size ≤ G) :
    CutRest w db W lb ov ds L fv x B G d g off cap p w4 := by
  have h4 := h.below hb
  have hlen : (L d).length ≤ 16384 := by have := day_len hd (L := L); have := h.small; omega
  have hvg : (fv d).ownBlock = some g := by rw [hv]; rfl
  refine ⟨fun h1 => ?_, fun h1 => ⟨h4.c1, ?_⟩⟩
  · obtain ⟨i, hi, hdi⟩ := List.getElem_of_mem hd
    have hL1 : L ds[i] = [x] := by
      rw [hdi]
      generalize L d = l at *
      match l, h1 with
      | [y], _ =>
        have hp0 : p = 0 := by simp at hp; exact hp
        subst hp0
        simp at hx
        rw [hx]
    refine (end_any h4 hi hdi).mono ?_
    rintro e w5 ⟨he, hE⟩
    have hC := cut_end h4 hi hL1 hE
    obtain ⟨ov', hD, hk, ho⟩ := hE
    have hout : ∀ k, w.heap.size ≤ k → ¬ (k = db ∨ k = lb ∨ ov.ownBlock = some k) := by
      rintro k hk (e | e | e)
      · have := h.lt; omega
      · have := h.lists.lt; omega
      · have := RowAt.lt h.order k e; omega
    exact ⟨he, hG.kept hk (hout G hGw), hB.kept hk (hout B hBw), (CutRes.from h hb hC).put h hBw _⟩
  · have hb5 : Below w.heap.size w w4.drew := hb.drew
    have h5 := h.below hb5
    have hR5 : RowM w4.drew g off cap (L d) := RowIn.block hR (hb5.block g (RowIn.lt hR))
    refine (withoutM_any hR5 p hp (by omega)).mono ?_
    rintro e w6 ⟨off', cap', he, hr, hk⟩
    obtain ⟨w7, hrun, hk7, hC⟩ := cut_step h5 hd hp hx (by omega) hvg hr hk
    have hgl := h5.fv_db hd hvg
    have hg := RowIn.lt hR
    have hll := h.lists.lt
    have hr6 : w6.heap[db]? = some (.cells #[.int .i64 W, .map (some lb), ov] 78 (0, 0)) := (hk.block db h5.lt (Ne.symm hgl.1)).trans h5.row
    have hr7 : w7.heap[db]? = some (.cells #[.int .i64 W, .map (some lb), ov] 78 (0, 0)) := (hk7.block db (Nat.lt_of_lt_of_le h5.lt hk.size) h5.db_lb).trans hr6
    have hGd : BoxM w4.drew G x := hG
    have hBd : BoxM w4.drew B zeroM := hB
    exact ⟨off', cap', he, by simp [World.cell?, hr6], w7, hrun, by simp [World.cell?, hr7], (hGd.kept hk (by omega)).kept hk7 (by omega), (hBd.kept hk (by omega)).kept hk7 (by omega), (CutRes.from h hb5 hC).put h hBw _⟩
end Go.Proofs.Yticffeklmhcniaa
