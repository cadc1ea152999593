/-
  Days: a message put on its day.
-/
import Derived.Test.YticffeklmhcniaaYI
namespace Go.Proofs.Yticffeklmhcniaa
open Go.ChangeShapes Go.WideShapes Go.ChangeAt Go.Shelf Go.RowKit Go.Lib Go.Sort Go.Deep Go.Maps
set_option linter.unusedVariables false

/-- Days, ahead of the store of a list at the day d: their order has d already. -/
structure PutPre (w : World) (db : Nat) (W : Int) (lb : Nat) (ov : Value) (ds ds' : List Int) (L : Int → List M) (fv : Int → Value) (d : Int) (v : Value) (l : List M) (m : M) : Prop where
  row : w.heap[db]? = some (.cells #[.int .i64 W, .map (some lb), ov] 78 (0, 0))
  lists : ListsAt w lb ds fv
  order : AtI w ov ds'
  rise : ds'.Pairwise (· < ·)
  mem : ∀ x, x ∈ ds' ↔ x = d ∨ x ∈ ds
  len : ds'.length = if d ∈ ds then ds.length else ds.length + 1
  each : ∀ x ∈ ds, x ≠ d → AtM w (fv x) (L x)
  at' : AtM w v l
  off : ∀ x ∈ ds, x ≠ d → ∀ k, v.ownBlock = some k → (fv x).ownBlock ≠ some k
  apart : ∀ x ∈ ds, ∀ y ∈ ds, x ≠ d → y ≠ d → x ≠ y → ∀ k, (fv x).ownBlock = some k → (fv y).ownBlock ≠ some k
  days : ∀ x ∈ ds, x ≠ d → L x ≠ [] ∧ InOrder ltM (L x) ∧ ∀ m ∈ L x, dayOf W m.k.t = x
  lo : InOrder ltM l
  ld : ∀ x ∈ l, dayOf W x.k.t = d
  md : dayOf W m.k.t = d
  mf : m.fits
  width : 1 ≤ W
  wide : (Lit.int .i64 W).wf = true
  unlike : Unlike (ds.flatMap L)
  fits : ∀ m ∈ ds.flatMap L, m.fits
  small : (ds.flatMap L).length < 16384
  dsl : ds.length ≤ 16384
  new : hasS (ds.flatMap L) m.k.f m.u = false
  ll : l.length ≤ 16384
  perm : ∀ l' : List M, l'.Perm (m :: l) → (ds'.flatMap (putDay L d l')).Perm (m :: ds.flatMap L)
section
variable {w w' : World} {db lb : Nat} {W : Int} {ov : Value} {ds ds' : List Int} {L : Int → List M} {fv : Int → Value} {d : Int} {v : Value} {l : List M} {m : M}
theorem PutPre.kept {S : Nat → Prop} (h : PutPre w db W lb ov ds ds' L fv d v l m) (hk : KeptOff S w w') (h1 : ¬ S db) (h2 : ¬ S lb) (h3 : ∀ k, ov.ownBlock = some k → ¬ S k) (h4 : ∀ x ∈ ds, x ≠ d → ∀ k, (fv x).ownBlock = some k → ¬ S k) (h5 : ∀ k, v.ownBlock = some k → ¬ S k) : PutPre w' db W lb ov ds ds' L fv d v l m :=
  { h with row := (hk.block db (Array.getElem?_eq_some_iff.1 h.row).1 h1).trans h.row, lists := h.lists.kept hk h2, order := RowAt.kept h.order hk h3, each := fun x hx hn => RowAt.kept (h.each x hx hn) hk (h4 x hx hn), at' := RowAt.kept h.at' hk h5 }
theorem PutPre.below (h : PutPre w db W lb ov ds ds' L fv d v l m) (hb : Below w.heap.size w w') : PutPre w' db W lb ov ds ds' L fv d v l m :=
  h.kept (S := fun _ => False) (.of_below hb) (fun e => e) (fun e => e) (fun _ _ e => e) (fun _ _ _ _ _ e => e) (fun _ _ e => e)
/-- What an add leaves. -/
def AddRes (w : World) (db : Nat) (W : Int) (lb : Nat) (ov : Value) (ds : List Int) (L : Int → List M) (fv : Int → Value) (m : M) (w' : World) : Prop :=
  ∃ ov' ds' L' fv', DaysOf w' db W lb ov' ds' L' fv' ∧ (ds'.flatMap L').Perm (m :: ds.flatMap L) ∧ KeptOff (DOwn db lb ov ds fv) w w' ∧ ∀ k, DOwn db lb ov' ds' fv' k → DOwn db lb ov ds fv k ∨ w.heap.size ≤ k
/-- The list's store, behind the list's with. -/
theorem put_step (h : PutPre w db W lb ov ds ds' L fv d v l m) {p : Nat} (hp : PlaceOf l m p) {w1 : World} {g off cap : Nat} (hr : RowM w1 g off cap (l.take p ++ m :: l.drop p)) (hk : KeptOff (fun k => v.ownBlock = some k) w w1) (hg : v.ownBlock = some g ∨ w.heap.size ≤ g) :
    ∃ w2, (Instr.mapUpdate 75 (.map (some lb)) (.int .i64 d) (.slice (some ⟨g, off, none⟩) (l.length + 1) cap)).run Try.prog w1 = .ok () w2 ∧ KeptOff (fun k => k = lb) w1 w2 ∧
      ∃ L' fv', DaysOf w2 db W lb ov ds' L' fv' ∧ (ds'.flatMap L').Perm (m :: ds.flatMap L) ∧ ∀ k, (∃ x ∈ ds', (fv' x).ownBlock = some k) → k = g ∨ ∃ x ∈ ds, x ≠ d ∧ (fv x).ownBlock = some k := by
  have hdb : db < w.heap.size := (Array.getElem?_eq_some_iff.1 h.row).1
  -- what v's block is not
  have hvn : ∀ k, v.ownBlock = some k → k ≠ db ∧ k ≠ lb ∧ ov.ownBlock ≠ some k := fun k hk => by
    obtain ⟨cur, t1⟩ := h.at'.tag hk
    obtain ⟨es, c, t2⟩ := h.lists.tag
    refine ⟨?_, ?_, fun e => ?_⟩
    · rintro rfl; rw [h.row] at t1; cases t1
    · rintro rfl; rw [t2] at t1; cases t1
    · obtain ⟨cur', t3⟩ := h.order.tag e
      rw [t1] at t3; cases t3
  have hxl : ∀ x ∈ ds, x ≠ d → ∀ k, (fv x).ownBlock = some k → k ≠ lb ∧ k ≠ g ∧ v.ownBlock ≠ some k := fun x hx hn k hk => by
    obtain ⟨cur, t1⟩ := (h.each x hx hn).tag hk
    obtain ⟨es, c, t2⟩ := h.lists.tag
    have hlt := RowAt.lt (h.each x hx hn) k hk
    refine ⟨?_, ?_, fun e => h.off x hx hn k e hk⟩
    · rintro rfl; rw [t2] at t1; cases t1
    · rintro rfl
      rcases hg with e | e
      · exact h.off x hx hn _ e hk
      · omega
  have hol : ∀ k, ov.ownBlock = some k → k ≠ lb ∧ v.ownBlock ≠ some k := fun k hk => by
    obtain ⟨cur, t1⟩ := h.order.tag hk
    obtain ⟨es, c, t2⟩ := h.lists.tag
    refine ⟨?_, fun e => (hvn k e).2.2 hk⟩
    rintro rfl; rw [t2] at t1; cases t1
  have hdl : db ≠ lb := by
    obtain ⟨es, c, t2⟩ := h.lists.tag
    rintro rfl; rw [h.row] at t2; cases t2
  have hwf : (Lit.int .i64 d).wf = true := by rw [← h.md]; exact day_wf h.width h.mf.1.1
  have hl1 := h.lists.kept hk (fun e => (hvn lb e).2.1 rfl)
  have hdsl := h.dsl
  obtain ⟨w2, hrun, hl2, hk2⟩ := hl1.store hwf (.slice (some ⟨g, off, none⟩) (l.length + 1) cap) (by omega) ds' h.len h.mem
  have hgl : g ≠ lb := by
    have t1 := hr
    obtain ⟨cur, t1, _⟩ := t1
    obtain ⟨es, c, t2⟩ := hl1.tag
    rintro rfl; rw [t2] at t1; cases t1
  have hperm := h.perm _ (perm_ins l m p)
  have hil : (l.take p ++ m :: l.drop p).length = l.length + 1 := (perm_ins l m p).length_eq
  have hAt : AtM w2 (.slice (some ⟨g, off, none⟩) (l.length + 1) cap) (l.take p ++ m :: l.drop p) := by
    have hr2 : RowM w2 g off cap (l.take p ++ m :: l.drop p) := RowIn.kept hr hk2 hgl
    unfold RowM at hr2
    unfold AtM
    rw [hil] at hr2 ⊢
    exact .inr ⟨g, off, cap, rfl, hr2⟩
  refine ⟨w2, hrun, hk2, putDay L d (l.take p ++ m :: l.drop p), fun x => if x = d then .slice (some ⟨g, off, none⟩) (l.length + 1) cap else fv x, ?_, hperm, ?_⟩
  · refine { row := ?_, lists := hl2, order := ?_, days := ⟨h.rise, fun x hx => ?_⟩, each := fun x hx => ?_, apart := fun x hx y hy hne k hkx => ?_, width := h.width, wide := h.wide, unlike := ?_, fits := fun x hx => ?_, small := ?_ }
    · exact ((hk2.block db (Nat.lt_of_lt_of_le hdb hk.size) hdl).trans (hk.block db hdb (fun e => (hvn db e).1 rfl))).trans h.row
    · exact (RowAt.kept h.order hk (fun k e => (hol k e).2)).kept hk2 (fun k e => (hol k e).1)
    · by_cases e : x = d
      · subst e
        rw [putDay_same]
        refine ⟨by simp, order_ins h.lo m hp, fun y hy => ?_⟩
        rcases List.mem_cons.1 ((perm_ins l m p).mem_iff.1 hy) with rfl | hy
        · exact h.md
        · exact h.ld y hy
      · rw [putDay_other L _ e]
        exact h.days x (((h.mem x).1 hx).resolve_left e) e
    · by_cases e : x = d
      · subst e
        rw [putDay_same]
        simpa using hAt
      · rw [putDay_other L _ e]
        have hx' := ((h.mem x).1 hx).resolve_left e
        simp only [if_neg e]
        exact (RowAt.kept (h.each x hx' e) hk (fun k hk' => (hxl x hx' e k hk').2.2)).kept hk2 (fun k hk' => (hxl x hx' e k hk').1)
    · by_cases ex : x = d
      · by_cases ey : y = d
        · exact absurd (ex.trans ey.symm) hne
        · have hy' := ((h.mem y).1 hy).resolve_left ey
          simp only [if_pos ex] at hkx
          simp only [if_neg ey]
          simp [Value.ownBlock] at hkx
          subst hkx
          exact fun e => (hxl y hy' ey _ e).2.1 rfl
      · have hx' := ((h.mem x).1 hx).resolve_left ex
        simp only [if_neg ex] at hkx
        by_cases ey : y = d
        · simp only [if_pos ey]
          intro e
          simp [Value.ownBlock] at e
          exact (hxl x hx' ex k hkx).2.1 e.symm
        · have hy' := ((h.mem y).1 hy).resolve_left ey
          simp only [if_neg ey]
          exact h.apart x hx' y hy' ex ey hne k hkx
    · refine Unlike.perm ?_ hperm.symm
      exact List.pairwise_cons.2 ⟨fun a ha e => hasS_no h.new a ha ⟨e.1.symm, e.2.symm⟩, h.unlike⟩
    · rcases List.mem_cons.1 (hperm.mem_iff.1 hx) with rfl | hx
      · exact h.mf
      · exact h.fits x hx
    · rw [hperm.length_eq, List.length_cons]; have := h.small; omega
  · rintro k ⟨x, hx, hkx⟩
    by_cases e : x = d
    · simp only [if_pos e] at hkx
      simp [Value.ownBlock] at hkx
      exact .inl hkx.symm
    · simp only [if_neg e] at hkx
      exact .inr ⟨x, ((h.mem x).1 hx).resolve_left e, e, hkx⟩
end
end Go.Proofs.Yticffeklmhcniaa
