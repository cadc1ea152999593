/-
  Days: a day ended.
-/
import Derived.Test.YticffeklmhcniaaYL
namespace Go.Proofs.Yticffeklmhcniaa
open Go.ChangeShapes Go.WideShapes Go.ChangeAt Go.Shelf Go.RowKit Go.Lib Go.Sort Go.Deep Go.Maps
set_option linter.unusedVariables false

theorem add_any {w : World} {db lb : Nat} {W : Int} {ov : Value} {ds : List Int} {L : Int → List M} {fv : Int → Value} (h : DaysOf w db W lb ov ds L fv) (m : M) (hm : m.fits) (hs : hasS (ds.flatMap L) m.k.f m.u = false) (hT : (ds.flatMap L).length < 16384) :
    Calls Try.prog 29 #[.pointer (some ⟨db, 0, none⟩), m.val] w fun e w' => e = .returned (.tuple #[]) ∧ AddRes w db W lb ov ds L fv m w' := by
  by_cases hd : dayOf W m.k.t ∈ ds
  · exact add_old h m hm hs hT hd
  · exact add_new h m hm hs hT hd

theorem place_day {ds : List Int} (h : ds.Pairwise (· < ·)) {d : Int} {i : Nat} (hi : i < ds.length) (hd : ds[i] = d) {p : Nat} (hp : PlaceI ds d p) : p = i := by
  obtain ⟨h1, h2, h3⟩ := hp
  have e : ∀ j (hj : j < ds.length), ds.getD j 0 = ds[j] := fun j hj => by simp [List.getD_eq_getElem?_getD, hj]
  rcases Nat.lt_trichotomy p i with h4 | h4 | h4
  · have h5 := h3 p (Nat.le_refl _) (by omega)
    have h6 := rising_mono h p i h4 hi
    rw [e i hi, hd] at h6
    omega
  · exact h4
  · have h5 := h2 i h4
    rw [e i hi, hd] at h5
    omega
theorem split_at {ds : List Int} {d : Int} {i : Nat} (hi : i < ds.length) (hd : ds[i] = d) : ds = ds.take i ++ d :: ds.drop (i + 1) := by
  have := (List.take_append_drop i ds).symm
  rw [List.drop_eq_getElem_cons hi, hd] at this
  exact this
theorem mem_out {ds : List Int} (h : ds.Pairwise (· < ·)) {d : Int} {i : Nat} (hi : i < ds.length) (hd : ds[i] = d) (x : Int) : x ∈ ds.eraseIdx i ↔ x ≠ d ∧ x ∈ ds := by
  have e := split_at hi hd
  rw [List.eraseIdx_eq_take_drop_succ]
  generalize ds.take i = A at e ⊢
  generalize ds.drop (i + 1) = B at e ⊢
  subst e
  have h' := List.pairwise_append.1 h
  have hB := List.pairwise_cons.1 h'.2.1
  rw [List.mem_append, List.mem_append, List.mem_cons]
  constructor
  · rintro (hx | hx)
    · have := h'.2.2 x hx d (List.mem_cons_self ..)
      exact ⟨by omega, .inl hx⟩
    · have := hB.1 x hx
      exact ⟨by omega, .inr (.inr hx)⟩
  · rintro ⟨hn, hx | hx | hx⟩
    · exact .inl hx
    · exact absurd hx hn
    · exact .inr hx
theorem perm_out {ds : List Int} {d : Int} {i : Nat} (hi : i < ds.length) (hd : ds[i] = d) (L : Int → List M) : (L d ++ (ds.eraseIdx i).flatMap L).Perm (ds.flatMap L) := by
  have e := split_at hi hd
  rw [List.eraseIdx_eq_take_drop_succ]
  generalize ds.take i = A at e ⊢
  generalize ds.drop (i + 1) = B at e ⊢
  subst e
  rw [List.flatMap_append, List.flatMap_append, List.flatMap_cons, ← List.append_assoc, ← List.append_assoc]
  exact List.Perm.append_right _ List.perm_append_comm

section
variable {w : World} {ops : Array Oper} {rest : List Oper} {o : Oper} {a : Act} {Q : Exit → Act → World → Prop}
theorem wpList_delete_lists (hg : o.guard = none) (m x : Operand) (hop : o.op = Op.call { callee := Callee.builtin Builtin.delete, args := #[m, x], argTypes := #[75, 2] }) {lb : Nat} {ds : List Int} {fv : Int → Value} {d : Int}
    (hm : a.eval m = .map (some lb)) (hx : a.eval x = .int .i64 d) (h : ListsAt w lb ds fv) (hw : (Lit.int .i64 d).wf = true) (hd : d ∈ ds) (ds' : List Int) (hds : ds'.length + 1 = ds.length) (hmm : ∀ x, x ∈ ds' ↔ x ≠ d ∧ x ∈ ds)
    (hK : ∀ w1, Hid (ListsAt w1 lb ds' fv) → Hid (KeptOff (fun k => k = lb) w w1) → wpList Try.prog ops Q rest (a.put o.dst (.tuple #[])) w1) : wpList Try.prog ops Q (o :: rest) a w := by
  refine wpList_plain hg fun K' hK' => ?_
  obtain ⟨w', hrun, r1, r2⟩ := h.drop hw hd ds' hds hmm o.type
  unfold Oper.wp
  simp [execOp, hop, resolve, invoke, builtin, hm, hx, hrun, Result.andThen]
  exact hK' _ _ (hK w' r1 r2)
theorem wpList_delete_keys (hg : o.guard = none) (mo x : Operand) (hop : o.op = Op.call { callee := Callee.builtin Builtin.delete, args := #[mo, x], argTypes := #[53, 66] }) {mb : Nat} {T : List M} (m : M)
    (hmo : a.eval mo = .map (some mb)) (hx : a.eval x = .agg #[.int .i64 m.k.f, .int .i64 m.u]) (h : KeysAt w mb T) (hm : m.fits) (hfit : ∀ x ∈ T, x.fits) {T' : List M} (hp : (m :: T').Perm T) (hU : Unlike T)
    (hK : ∀ w1, Hid (KeysAt w1 mb T') → Hid (KeptOff (fun k => k = mb) w w1) → wpList Try.prog ops Q rest (a.put o.dst (.tuple #[])) w1) : wpList Try.prog ops Q (o :: rest) a w := by
  refine wpList_plain hg fun K' hK' => ?_
  obtain ⟨w', hrun, r1, r2⟩ := h.drop m hm hfit hp hU o.type
  unfold Oper.wp
  simp [execOp, hop, resolve, invoke, builtin, hmo, hx, hrun, Result.andThen]
  exact hK' _ _ (hK w' r1 r2)
end

/-- What the end of a day leaves. -/
def EndRes (w : World) (db : Nat) (W : Int) (lb : Nat) (ov : Value) (ds : List Int) (L : Int → List M) (fv : Int → Value) (i : Nat) (w' : World) : Prop :=
  ∃ ov', DaysOf w' db W lb ov' (ds.eraseIdx i) L fv ∧ KeptOff (fun k => k = db ∨ k = lb ∨ ov.ownBlock = some k) w w' ∧ ∀ k, ov'.ownBlock = some k → ov.ownBlock = some k
set_option maxHeartbeats 4000000 in
set_option maxRecDepth 100000 in
theorem end_any {w : World} {db lb : Nat} {W : Int} {ov : Value} {ds : List Int} {L : Int → List M} {fv : Int → Value} (h : DaysOf w db W lb ov ds L fv) {d : Int} {i : Nat} (hi : i < ds.length) (hd : ds[i] = d) :
    Calls Try.prog 55 #[.pointer (some ⟨db, 0, none⟩), .int .i64 d] w fun e w' => e = .returned (.tuple #[]) ∧ EndRes w db W lb ov ds L fv i w' := by
  have mixed := mixed
  have hdm : d ∈ ds := hd ▸ List.getElem_mem hi
  have hwf := h.wf hdm
  have hdsl : ds.length ≤ 16384 := by have := days_len (fun x hx => (h.days.2 x hx).1) (ds := ds) (L := L); have := h.small; omega
  have hds' : (ds.eraseIdx i).length + 1 = ds.length := by rw [List.length_eraseIdx_of_lt hi]; omega
  have hmm := mem_out h.days.1 hi hd
  obtain ⟨g, off, cap, hov, hR⟩ := AtI.form h.order (by omega)
  have hog : ov.ownBlock = some g := by rw [hov]; rfl
  -- behind the delete
  have hstep : Hid (∀ w1, ListsAt w1 lb (ds.eraseIdx i) fv → KeptOff (fun k => k = lb) w w1 → w1.cell? ⟨db, 2, none⟩ = some (.slice (some ⟨g, off, none⟩) ds.length cap) ∧
      Calls Try.prog 39 #[.slice (some ⟨g, off, none⟩) ds.length cap, .int .i64 d] w1 fun e w2 => ∃ bb, e = .returned (.tuple #[.int .i64 i, .bool bb]) ∧ w1 = w2 ∧
        Hid (Calls Try.prog 62 #[.slice (some ⟨g, off, none⟩) ds.length cap, .int .i64 i] w1 fun e w3 => ∃ off' cap', e = .returned (.slice (some ⟨g, off', none⟩) (ds.length - 1) cap') ∧
          w3.cell? ⟨db, 2, none⟩ = some (.slice (some ⟨g, off, none⟩) ds.length cap) ∧ w3.frozen? ⟨db, 2, none⟩ = false ∧ Hid (EndRes w db W lb ov ds L fv i (w3.setCell ⟨db, 2, none⟩ (.slice (some ⟨g, off', none⟩) (ds.length - 1) cap'))))) := by
    intro w1 hl1 hk1
    have hr1 : w1.heap[db]? = some (.cells #[.int .i64 W, .map (some lb), ov] 78 (0, 0)) := (hk1.block db h.lt h.db_lb).trans h.row
    have ho1 : AtI w1 ov ds := RowAt.kept h.order hk1 (fun k e => (h.ov_db e).2)
    have hR1 : RowI w1 g off cap ds := RowIn.kept hR hk1 ((h.ov_db hog).2)
    rw [← hov]
    refine ⟨by simp [World.cell?, hr1], (binS_any ho1 h.days.1 d (by omega)).mono ?_⟩
    rintro e w2 ⟨p, bb, he, rfl, hp⟩
    obtain rfl := place_day h.days.1 hi hd hp
    refine ⟨bb, he, rfl, ?_⟩
    rw [hov]
    refine (withoutI_any hR1 p hi (by omega)).mono ?_
    rintro e w3 ⟨off', cap', he3, hR3, hk3⟩
    have hgdb := (h.ov_db hog).1
    have hr3 : w3.heap[db]? = some (.cells #[.int .i64 W, .map (some lb), ov] 78 (0, 0)) := (hk3.block db (Nat.lt_of_lt_of_le h.lt hk1.size) (Ne.symm hgdb)).trans hr1
    have k4 := KeptOff.set w3 ⟨db, 2, none⟩ (.slice (some ⟨g, off', none⟩) (ds.length - 1) cap')
    refine ⟨off', cap', he3, by rw [← hov]; simp [World.cell?, hr3], by simp [World.frozen?, hr3], .slice (some ⟨g, off', none⟩) (ds.length - 1) cap', ?_, ?_, ?_⟩
    · have hperm := perm_out hi hd L
      have hsub : ∀ x ∈ ds.eraseIdx p, x ∈ ds := fun x hx => ((hmm x).1 hx).2
      have hUn := h.unlike.perm hperm.symm
      refine { row := days_set hr3 _, lists := (hl1.kept hk3 (Ne.symm (h.ov_db hog).2)).kept k4 (Ne.symm h.db_lb), order := ?_, days := ⟨h.days.1.sublist (List.eraseIdx_sublist ..), fun x hx => h.days.2 x (hsub x hx)⟩, each := fun x hx => ?_, apart := fun x hx y hy => h.apart x (hsub x hx) y (hsub y hy), width := h.width, wide := h.wide, unlike := (List.pairwise_append.1 hUn).2.1, fits := fun x hx => h.fits x (hperm.mem_iff.1 (List.mem_append_right _ hx)), small := ?_ }
      · have hr2 : RowI (w3.setCell ⟨db, 2, none⟩ (.slice (some ⟨g, off', none⟩) (ds.length - 1) cap')) g off' cap' (ds.eraseIdx p) := RowIn.kept hR3 k4 hgdb
        unfold RowI at hr2
        unfold AtI
        rw [List.length_eraseIdx_of_lt hi] at hr2 ⊢
        exact .inr ⟨g, off', cap', rfl, hr2⟩
      · have hx' := hsub x hx
        have hof := fun k e => h.fv_db hx' (k := k) e
        refine ((RowAt.kept (h.each x hx') hk1 (fun k e => (hof k e).2.1)).kept hk3 (fun k e e2 => (hof k e).2.2 (e2 ▸ hog))).kept k4 (fun k e => (hof k e).1)
      · have := hperm.length_eq
        rw [List.length_append] at this
        have := h.small
        omega
    · exact ((hk1.mono (fun k _ e => .inr (.inl e))).trans (hk3.mono (fun k _ e => .inr (.inr (by subst e; first | exact hog | rfl))))).trans (k4.mono (fun k _ e => .inl e))
    · intro k e
      simp [Value.ownBlock] at e
      rw [← e]
      first | exact hog | rfl
  have c1 := h.c1
  have hl := h.lists
  generalize EndRes w db W lb ov ds L fv i = R at hstep ⊢
  clear h hR hog hov hdsl
  go_enter Try.func55, Try.ntmps55
  go_upto_region 1 with ((at_delete; refine wpList_delete_lists rfl _ _ rfl rfl rfl hl hwf hdm (ds.eraseIdx i) hds' hmm ?_; intro w1 hl1 hk1; obtain ⟨c2, hbin⟩ := hstep.out w1 hl1.out hk1.out))
  have hbin' := Lib.hid hbin
  clear hbin hl hl1 hk1 hstep c1 hwf hdm hds' hmm hd
  generalize ds.length = n at *
  go_wp2_with (first
    | (go_at_call 39; (with_reducible refine hbin'.out.mono ?_); rintro e w2 ⟨bb, rfl, rfl, hw⟩)
    | (go_at_call 62; (with_reducible refine hw.out.mono ?_); rintro e w3 ⟨off', cap', rfl, c3, f3, hR⟩))
  first | go_end0 | refine bodyPost_ret (results_none rfl _ _ _) rfl ?_
  exact ⟨rfl, hR.out⟩
end Go.Proofs.Yticffeklmhcniaa
