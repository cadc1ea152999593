/-
  The days in memory; their first message.
  Days: a message put on its day.
  Days: the program's add.
  Days: the program's add on a new day, and on any.
-/
import Derived.Test.YtjlbkdghlijoeaaGreatLDG
import Derived.Test.YtjlbkdghlijoeaaGreatYH
namespace Go.Proofs.YtjlbkdghlijoeaaGreat
open Go.ChangeShapes Go.WideShapes Go.ChangeAt Go.Shelf Go.RowKit Go.Lib Go.Sort Go.Deep Go.Maps
set_option linter.unusedVariables false

/-- Block db holds days: their width, the map of their lists, their order. -/
structure DaysOf (w : World) (db : Nat) (W : Int) (lb : Nat) (ov : Value) (ds : List Int) (L : Int → List M) (fv : Int → Value) : Prop where
  row : w.heap[db]? = some (.cells #[.int .i64 W, .map (some lb), ov] 101 (0, 0))
  lists : ListsAt w lb ds fv
  order : AtI w ov ds
  days : DayList W ds L
  each : ∀ d ∈ ds, AtM w (fv d) (L d)
  apart : ∀ d ∈ ds, ∀ d' ∈ ds, d ≠ d' → ∀ k, (fv d).ownBlock = some k → (fv d').ownBlock ≠ some k
  width : 1 ≤ W
  wide : (Lit.int .i64 W).wf = true
  unlike : Unlike (ds.flatMap L)
  fits : ∀ m ∈ ds.flatMap L, m.fits
  small : (ds.flatMap L).length ≤ 16384
/-- The blocks that days own. -/
def DOwn (db lb : Nat) (ov : Value) (ds : List Int) (fv : Int → Value) (k : Nat) : Prop := k = db ∨ k = lb ∨ ov.ownBlock = some k ∨ ∃ d ∈ ds, (fv d).ownBlock = some k
theorem AtM.tag {w : World} {v : Value} {l : List M} (h : AtM w v l) {k : Nat} (hk : v.ownBlock = some k) : ∃ cur, w.heap[k]? = some (.cells cur 34 (0, 0)) := by
  rcases h with ⟨rfl, _⟩ | ⟨g, off, cap, rfl, cur, h, _⟩
  · cases hk
  · simp [Value.ownBlock] at hk
    subst hk
    exact ⟨cur, h⟩
theorem AtI.tag {w : World} {v : Value} {l : List Int} (h : AtI w v l) {k : Nat} (hk : v.ownBlock = some k) : ∃ cur, w.heap[k]? = some (.cells cur 2 (0, 0)) := by
  rcases h with ⟨rfl, _⟩ | ⟨g, off, cap, rfl, cur, h, _⟩
  · cases hk
  · simp [Value.ownBlock] at hk
    subst hk
    exact ⟨cur, h⟩
theorem ListsAt.tag {w : World} {lb : Nat} {ds : List Int} {fv : Int → Value} (h : ListsAt w lb ds fv) : ∃ es c, w.heap[lb]? = some (.map es c) := by
  obtain ⟨D, ⟨es, c, h, _⟩, _⟩ := h
  exact ⟨es, c, h⟩
section
variable {w w' : World} {db lb : Nat} {W : Int} {ov : Value} {ds : List Int} {L : Int → List M} {fv : Int → Value}
theorem DaysOf.lt (h : DaysOf w db W lb ov ds L fv) : db < w.heap.size := (Array.getElem?_eq_some_iff.1 h.row).1
theorem DaysOf.c0 (h : DaysOf w db W lb ov ds L fv) : w.cell? ⟨db, 0, none⟩ = some (.int .i64 W) := by simp [World.cell?, h.row]
theorem DaysOf.c1 (h : DaysOf w db W lb ov ds L fv) : w.cell? ⟨db, 1, none⟩ = some (.map (some lb)) := by simp [World.cell?, h.row]
theorem DaysOf.c2 (h : DaysOf w db W lb ov ds L fv) : w.cell? ⟨db, 2, none⟩ = some ov := by simp [World.cell?, h.row]
theorem DaysOf.fz (h : DaysOf w db W lb ov ds L fv) (o : Nat) : w.frozen? ⟨db, o, none⟩ = false := by simp [World.frozen?, h.row]
theorem DaysOf.db_lb (h : DaysOf w db W lb ov ds L fv) : db ≠ lb := by
  obtain ⟨es, c, h1⟩ := h.lists.tag
  rintro rfl
  rw [h.row] at h1
  cases h1
theorem DaysOf.ov_db (h : DaysOf w db W lb ov ds L fv) {k : Nat} (hk : ov.ownBlock = some k) : k ≠ db ∧ k ≠ lb := by
  obtain ⟨cur, h1⟩ := h.order.tag hk
  obtain ⟨es, c, h2⟩ := h.lists.tag
  refine ⟨?_, ?_⟩
  · rintro rfl
    rw [h.row] at h1
    cases h1
  · rintro rfl
    rw [h2] at h1
    cases h1
theorem DaysOf.fv_db (h : DaysOf w db W lb ov ds L fv) {d : Int} (hd : d ∈ ds) {k : Nat} (hk : (fv d).ownBlock = some k) : k ≠ db ∧ k ≠ lb ∧ ov.ownBlock ≠ some k := by
  obtain ⟨cur, h1⟩ := (h.each d hd).tag hk
  obtain ⟨es, c, h2⟩ := h.lists.tag
  refine ⟨?_, ?_, fun e => ?_⟩
  · rintro rfl
    rw [h.row] at h1
    cases h1
  · rintro rfl
    rw [h2] at h1
    cases h1
  · obtain ⟨cur', h3⟩ := h.order.tag e
    rw [h1] at h3
    cases h3
theorem DaysOf.own_lt (h : DaysOf w db W lb ov ds L fv) {k : Nat} (hk : DOwn db lb ov ds fv k) : k < w.heap.size := by
  rcases hk with rfl | rfl | hk | ⟨d, hd, hk⟩
  · exact h.lt
  · exact h.lists.lt
  · exact RowAt.lt h.order k hk
  · exact RowAt.lt (h.each d hd) k hk
theorem DaysOf.kept {S : Nat → Prop} (h : DaysOf w db W lb ov ds L fv) (hk : KeptOff S w w') (hn : ∀ k, DOwn db lb ov ds fv k → ¬ S k) : DaysOf w' db W lb ov ds L fv where
  row := (hk.block db h.lt (hn db (.inl rfl))).trans h.row
  lists := h.lists.kept hk (hn lb (.inr (.inl rfl)))
  order := RowAt.kept h.order hk (fun k e => hn k (.inr (.inr (.inl e))))
  days := h.days
  each := fun d hd => RowAt.kept (h.each d hd) hk (fun k e => hn k (.inr (.inr (.inr ⟨d, hd, e⟩))))
  apart := h.apart
  width := h.width
  wide := h.wide
  unlike := h.unlike
  fits := h.fits
  small := h.small
theorem DaysOf.below (h : DaysOf w db W lb ov ds L fv) (hb : Below w.heap.size w w') : DaysOf w' db W lb ov ds L fv := h.kept (S := fun _ => False) (.of_below hb) (fun _ _ e => e)
theorem DaysOf.wf (h : DaysOf w db W lb ov ds L fv) {d : Int} (hd : d ∈ ds) : (Lit.int .i64 d).wf = true := by
  obtain ⟨h1, h2⟩ := h.days
  obtain ⟨m, hm⟩ := List.exists_mem_of_ne_nil _ (h2 d hd).1
  have e := (h2 d hd).2.2 m hm
  have hf := wf_range (h.fits m (day_sub hd hm)).1.1
  have hr := day_range h.width hf.1 hf.2
  unfold dayOf at e
  rw [e] at hr
  simp [Lit.wf, IntKind.min, IntKind.max, IntKind.signed, IntKind.bits]
  omega
theorem day_wf {W t : Int} (hW : 1 ≤ W) (ht : (Lit.int .i64 t).wf = true) : (Lit.int .i64 (dayOf W t)).wf = true := by
  have hf := wf_range ht
  have hr := day_range hW hf.1 hf.2
  unfold dayOf
  simp [Lit.wf, IntKind.min, IntKind.max, IntKind.signed, IntKind.bits]
  omega

set_option maxHeartbeats 4000000 in
set_option maxRecDepth 100000 in
theorem dfirst_any (h : DaysOf w db W lb ov ds L fv) {m : M} {T : List M} (hT : ds.flatMap L = m :: T) :
    Calls Tryz.prog 97 #[.pointer (some ⟨db, 0, none⟩)] w fun e w' => e = .returned m.val ∧ Below w.heap.size w w' := by
  have mixed := mixed
  obtain ⟨d0, dr, hds⟩ : ∃ d0 dr, ds = d0 :: dr := by
    cases ds with
    | nil => simp at hT
    | cons d0 dr => exact ⟨d0, dr, rfl⟩
  have hd0 : d0 ∈ ds := by rw [hds]; exact List.mem_cons_self ..
  obtain ⟨l, hl⟩ : ∃ l, L d0 = m :: l := by
    have hne := (h.days.2 d0 hd0).1
    rw [hds, List.flatMap_cons] at hT
    cases hc : L d0 with
    | nil => exact absurd hc hne
    | cons x l =>
      rw [hc] at hT
      exact ⟨l, by simp at hT; rw [hT.1]⟩
  obtain ⟨W1, hW1⟩ : ∃ W1, W1 = w.alloc (.cells zeroM.cells 34) := ⟨_, rfl⟩
  have hb0 : Hid (Below w.heap.size w W1) := by rw [hW1]; exact (Below.refl _ w).alloc (Nat.le_refl _) _
  have hB0 : Hid (BoxM W1 w.heap.size zeroM) := by rw [hW1]; exact BoxM.mk w zeroM
  have h1 := h.below hb0.out
  obtain ⟨g, off, cap, hov, hR⟩ := AtI.form h1.order (by rw [hds]; simp)
  have hc0 := hR.cellI 0 (by rw [hds]; simp)
  obtain ⟨g2, off2, cap2, hfv, hR2⟩ := AtM.form (h1.each d0 hd0) (by rw [hl]; simp)
  have hm0 := hR2.at 0 (by rw [hl]; simp)
  have e0 : (L d0).getD 0 default = m := by rw [hl]; rfl
  have e1 : ds.getD 0 0 = d0 := by rw [hds]; rfl
  rw [e0] at hm0
  rw [e1, Nat.add_zero] at hc0
  have hwf := h1.wf hd0
  have hlk0 := fun q : WB => (h1.lists.below' (wide_below W1 q)).look hd0 hwf
  obtain ⟨hgl, x0, x1, x2, x3, x4, x5, x6⟩ := hm0
  simp only [Nat.zero_mul, Nat.add_zero] at x0 x1 x2 x3 x4 x5 x6
  have hlen1 : (0 : Int) < (ds.length : Int) := by rw [hds]; simp
  have hlen2 : (0 : Int) < ((L d0).length : Int) := by rw [hl]; simp
  have hln1 : 0 < ds.length := by omega
  have hln2 : 0 < (L d0).length := by omega
  have c1 := fun q => wide_cell (w := W1) q h1.lt h1.c1
  have c2 := fun q => wide_cell (w := W1) q h1.lt h1.c2
  rw [hov] at c2
  rw [hfv] at hlk0
  have hRl : g < W1.heap.size := RowIn.lt hR
  have o0 := fun q => wide_cell (w := W1) (a := ⟨g, off, none⟩) q hRl hc0
  have y0 := fun q => wide_cell (w := W1) q hgl x0
  have y1 := fun q => wide_cell (w := W1) q hgl x1
  have y2 := fun q => wide_cell (w := W1) q hgl x2
  have y3 := fun q => wide_cell (w := W1) q hgl x3
  have y4 := fun q => wide_cell (w := W1) q hgl x4
  have y5 := fun q => wide_cell (w := W1) q hgl x5
  have y6 := fun q => wide_cell (w := W1) q hgl x6
  generalize ds.length = n1 at hlen1 hln1 c2
  generalize (L d0).length = n2 at hlen2 hln2 hlk0
  clear hRl x0 x1 x2 x3 x4 x5 x6 hc0 hgl h1 hR hR2 e0 e1 hd0 hl hds hov hfv hT hwf h
  go_enter Tryz.func97, Tryz.ntmps97
  go_upto_region 1 with (fail)
  rw [show w.alloc (.cells #[.int .i64 0, .int .i64 0, .int .i64 0, .int .i64 0, .int .i64 0, .int .i64 0, .bool false] 34) = W1 from hW1.symm]
  clear hW1
  refine wp_region_wide_tail 13 (by kernel_rfl) (by kernel_rfl) ?_
  simp only [List.take_succ_cons, List.take_zero, List.drop_succ_cons, List.drop_zero]
  repeat (quiet_step (fail))
  refine wpQuiet_nil ?_
  refine wide_all fun W3 hb3 => ?_
  clear c1 c2 o0 y0 y1 y2 y3 y4 y5 y6 hlk0
  have hB3 := hB0.out.below hb3
  go_wp2_with (refine wpList_store_row rfl 34 (.tmp 2) (.tmp 15) rfl w.heap.size m.cells rfl rfl 34 zeroM.cells hB3 infoS rfl (M.cells_one m) ?_)
  obtain ⟨-, s0, s1, s2, s3, s4, s5, s6⟩ := (hB3.row m).at
  simp only [Nat.zero_add] at s0 s1 s2 s3 s4 s5 s6
  refine bodyPost_ret (v := m.val) (by simp [results, Tryz.results97, go_sem, s0, s1, s2, s3, s4, s5, s6, M.val]) rfl ⟨rfl, ?_⟩
  exact below_setRow (hb0.out.trans (hb3.mono hb0.out.size)) (Nat.le_refl _) _
end
end Go.Proofs.YtjlbkdghlijoeaaGreat
namespace Go.Proofs.YtjlbkdghlijoeaaGreat
open Go.ChangeShapes Go.WideShapes Go.ChangeAt Go.Shelf Go.RowKit Go.Lib Go.Sort Go.Deep Go.Maps
set_option linter.unusedVariables false

/-- Days, ahead of the store of a list at the day d: their order has d already. -/
structure PutPre (w : World) (db : Nat) (W : Int) (lb : Nat) (ov : Value) (ds ds' : List Int) (L : Int → List M) (fv : Int → Value) (d : Int) (v : Value) (l : List M) (m : M) : Prop where
  row : w.heap[db]? = some (.cells #[.int .i64 W, .map (some lb), ov] 101 (0, 0))
  lists : ListsAt w lb ds fv
  order : AtI w ov ds'
  rise : ds'.Pairwise (· < ·)
  mem : ∀ x, x ∈ ds' ↔ x = d ∨ x ∈ ds
  len : ds'.length = if d ∈ ds then ds.length else ds.length + 1
  each : ∀ x ∈ ds, x ≠ d → AtM w (fv x) (L x)
  at' : AtM w v l
  off : ∀ x ∈ ds, x ≠ d → ∀ k, v.ownBlock = some k → (fv x).ownBlock ≠ some k
  apart : ∀ x ∈ ds, ∀ y ∈ ds, x ≠ d → y ≠ d → x ≠ y → ∀ k, (fv x).ownBlock = some k → (fv y).ownBlock ≠ some k
  days : ∀ x ∈ ds, x ≠ d → L x ≠ [] ∧ InOrder ltM (L x) ∧ ∀ m ∈ L x, dayOf W m.k.t = x
  lo : InOrder ltM l
  ld : ∀ x ∈ l, dayOf W x.k.t = d
  md : dayOf W m.k.t = d
  mf : m.fits
  width : 1 ≤ W
  wide : (Lit.int .i64 W).wf = true
  unlike : Unlike (ds.flatMap L)
  fits : ∀ m ∈ ds.flatMap L, m.fits
  small : (ds.flatMap L).length < 16384
  dsl : ds.length ≤ 16384
  new : hasS (ds.flatMap L) m.k.f m.u = false
  ll : l.length ≤ 16384
  perm : ∀ l' : List M, l'.Perm (m :: l) → (ds'.flatMap (putDay L d l')).Perm (m :: ds.flatMap L)
section
variable {w w' : World} {db lb : Nat} {W : Int} {ov : Value} {ds ds' : List Int} {L : Int → List M} {fv : Int → Value} {d : Int} {v : Value} {l : List M} {m : M}
theorem PutPre.kept {S : Nat → Prop} (h : PutPre w db W lb ov ds ds' L fv d v l m) (hk : KeptOff S w w') (h1 : ¬ S db) (h2 : ¬ S lb) (h3 : ∀ k, ov.ownBlock = some k → ¬ S k) (h4 : ∀ x ∈ ds, x ≠ d → ∀ k, (fv x).ownBlock = some k → ¬ S k) (h5 : ∀ k, v.ownBlock = some k → ¬ S k) : PutPre w' db W lb ov ds ds' L fv d v l m :=
  { h with row := (hk.block db (Array.getElem?_eq_some_iff.1 h.row).1 h1).trans h.row, lists := h.lists.kept hk h2, order := RowAt.kept h.order hk h3, each := fun x hx hn => RowAt.kept (h.each x hx hn) hk (h4 x hx hn), at' := RowAt.kept h.at' hk h5 }
theorem PutPre.below (h : PutPre w db W lb ov ds ds' L fv d v l m) (hb : Below w.heap.size w w') : PutPre w' db W lb ov ds ds' L fv d v l m :=
  h.kept (S := fun _ => False) (.of_below hb) (fun e => e) (fun e => e) (fun _ _ e => e) (fun _ _ _ _ _ e => e) (fun _ _ e => e)
/-- What an add leaves. -/
def AddRes (w : World) (db : Nat) (W : Int) (lb : Nat) (ov : Value) (ds : List Int) (L : Int → List M) (fv : Int → Value) (m : M) (w' : World) : Prop :=
  ∃ ov' ds' L' fv', DaysOf w' db W lb ov' ds' L' fv' ∧ (ds'.flatMap L').Perm (m :: ds.flatMap L) ∧ KeptOff (DOwn db lb ov ds fv) w w' ∧ ∀ k, DOwn db lb ov' ds' fv' k → DOwn db lb ov ds fv k ∨ w.heap.size ≤ k
/-- The list's store, behind the list's with. -/
theorem put_step (h : PutPre w db W lb ov ds ds' L fv d v l m) {p : Nat} (hp : PlaceOf l m p) {w1 : World} {g off cap : Nat} (hr : RowM w1 g off cap (l.take p ++ m :: l.drop p)) (hk : KeptOff (fun k => v.ownBlock = some k) w w1) (hg : v.ownBlock = some g ∨ w.heap.size ≤ g) :
    ∃ w2, (Instr.mapUpdate 98 (.map (some lb)) (.int .i64 d) (.slice (some ⟨g, off, none⟩) (l.length + 1) cap)).run Tryz.prog w1 = .ok () w2 ∧ KeptOff (fun k => k = lb) w1 w2 ∧
      ∃ L' fv', DaysOf w2 db W lb ov ds' L' fv' ∧ (ds'.flatMap L').Perm (m :: ds.flatMap L) ∧ ∀ k, (∃ x ∈ ds', (fv' x).ownBlock = some k) → k = g ∨ ∃ x ∈ ds, x ≠ d ∧ (fv x).ownBlock = some k := by
  have hdb : db < w.heap.size := (Array.getElem?_eq_some_iff.1 h.row).1
  -- what v's block is not
  have hvn : ∀ k, v.ownBlock = some k → k ≠ db ∧ k ≠ lb ∧ ov.ownBlock ≠ some k := fun k hk => by
    obtain ⟨cur, t1⟩ := h.at'.tag hk
    obtain ⟨es, c, t2⟩ := h.lists.tag
    refine ⟨?_, ?_, fun e => ?_⟩
    · rintro rfl; rw [h.row] at t1; cases t1
    · rintro rfl; rw [t2] at t1; cases t1
    · obtain ⟨cur', t3⟩ := h.order.tag e
      rw [t1] at t3; cases t3
  have hxl : ∀ x ∈ ds, x ≠ d → ∀ k, (fv x).ownBlock = some k → k ≠ lb ∧ k ≠ g ∧ v.ownBlock ≠ some k := fun x hx hn k hk => by
    obtain ⟨cur, t1⟩ := (h.each x hx hn).tag hk
    obtain ⟨es, c, t2⟩ := h.lists.tag
    have hlt := RowAt.lt (h.each x hx hn) k hk
    refine ⟨?_, ?_, fun e => h.off x hx hn k e hk⟩
    · rintro rfl; rw [t2] at t1; cases t1
    · rintro rfl
      rcases hg with e | e
      · exact h.off x hx hn _ e hk
      · omega
  have hol : ∀ k, ov.ownBlock = some k → k ≠ lb ∧ v.ownBlock ≠ some k := fun k hk => by
    obtain ⟨cur, t1⟩ := h.order.tag hk
    obtain ⟨es, c, t2⟩ := h.lists.tag
    refine ⟨?_, fun e => (hvn k e).2.2 hk⟩
    rintro rfl; rw [t2] at t1; cases t1
  have hdl : db ≠ lb := by
    obtain ⟨es, c, t2⟩ := h.lists.tag
    rintro rfl; rw [h.row] at t2; cases t2
  have hwf : (Lit.int .i64 d).wf = true := by rw [← h.md]; exact day_wf h.width h.mf.1.1
  have hl1 := h.lists.kept hk (fun e => (hvn lb e).2.1 rfl)
  have hdsl := h.dsl
  obtain ⟨w2, hrun, hl2, hk2⟩ := hl1.store hwf (.slice (some ⟨g, off, none⟩) (l.length + 1) cap) (by omega) ds' h.len h.mem
  have hgl : g ≠ lb := by
    have t1 := hr
    obtain ⟨cur, t1, _⟩ := t1
    obtain ⟨es, c, t2⟩ := hl1.tag
    rintro rfl; rw [t2] at t1; cases t1
  have hperm := h.perm _ (perm_ins l m p)
  have hil : (l.take p ++ m :: l.drop p).length = l.length + 1 := (perm_ins l m p).length_eq
  have hAt : AtM w2 (.slice (some ⟨g, off, none⟩) (l.length + 1) cap) (l.take p ++ m :: l.drop p) := by
    have hr2 : RowM w2 g off cap (l.take p ++ m :: l.drop p) := RowIn.kept hr hk2 hgl
    unfold RowM at hr2
    unfold AtM
    rw [hil] at hr2 ⊢
    exact .inr ⟨g, off, cap, rfl, hr2⟩
  refine ⟨w2, hrun, hk2, putDay L d (l.take p ++ m :: l.drop p), fun x => if x = d then .slice (some ⟨g, off, none⟩) (l.length + 1) cap else fv x, ?_, hperm, ?_⟩
  · refine { row := ?_, lists := hl2, order := ?_, days := ⟨h.rise, fun x hx => ?_⟩, each := fun x hx => ?_, apart := fun x hx y hy hne k hkx => ?_, width := h.width, wide := h.wide, unlike := ?_, fits := fun x hx => ?_, small := ?_ }
    · exact ((hk2.block db (Nat.lt_of_lt_of_le hdb hk.size) hdl).trans (hk.block db hdb (fun e => (hvn db e).1 rfl))).trans h.row
    · exact (RowAt.kept h.order hk (fun k e => (hol k e).2)).kept hk2 (fun k e => (hol k e).1)
    · by_cases e : x = d
      · subst e
        rw [putDay_same]
        refine ⟨by simp, order_ins h.lo m hp, fun y hy => ?_⟩
        rcases List.mem_cons.1 ((perm_ins l m p).mem_iff.1 hy) with rfl | hy
        · exact h.md
        · exact h.ld y hy
      · rw [putDay_other L _ e]
        exact h.days x (((h.mem x).1 hx).resolve_left e) e
    · by_cases e : x = d
      · subst e
        rw [putDay_same]
        simpa using hAt
      · rw [putDay_other L _ e]
        have hx' := ((h.mem x).1 hx).resolve_left e
        simp only [if_neg e]
        exact (RowAt.kept (h.each x hx' e) hk (fun k hk' => (hxl x hx' e k hk').2.2)).kept hk2 (fun k hk' => (hxl x hx' e k hk').1)
    · by_cases ex : x = d
      · by_cases ey : y = d
        · exact absurd (ex.trans ey.symm) hne
        · have hy' := ((h.mem y).1 hy).resolve_left ey
          simp only [if_pos ex] at hkx
          simp only [if_neg ey]
          simp [Value.ownBlock] at hkx
          subst hkx
          exact fun e => (hxl y hy' ey _ e).2.1 rfl
      · have hx' := ((h.mem x).1 hx).resolve_left ex
        simp only [if_neg ex] at hkx
        by_cases ey : y = d
        · simp only [if_pos ey]
          intro e
          simp [Value.ownBlock] at e
          exact (hxl x hx' ex k hkx).2.1 e.symm
        · have hy' := ((h.mem y).1 hy).resolve_left ey
          simp only [if_neg ey]
          exact h.apart x hx' y hy' ex ey hne k hkx
    · refine Unlike.perm ?_ hperm.symm
      exact List.pairwise_cons.2 ⟨fun a ha e => hasS_no h.new a ha ⟨e.1.symm, e.2.symm⟩, h.unlike⟩
    · rcases List.mem_cons.1 (hperm.mem_iff.1 hx) with rfl | hx
      · exact h.mf
      · exact h.fits x hx
    · rw [hperm.length_eq, List.length_cons]; have := h.small; omega
  · rintro k ⟨x, hx, hkx⟩
    by_cases e : x = d
    · simp only [if_pos e] at hkx
      simp [Value.ownBlock] at hkx
      exact .inl hkx.symm
    · simp only [if_neg e] at hkx
      exact .inr ⟨x, ((h.mem x).1 hx).resolve_left e, e, hkx⟩
end
end Go.Proofs.YtjlbkdghlijoeaaGreat
namespace Go.Proofs.YtjlbkdghlijoeaaGreat
open Go.ChangeShapes Go.WideShapes Go.ChangeAt Go.Shelf Go.RowKit Go.Lib Go.Sort Go.Deep Go.Maps
set_option linter.unusedVariables false

/-- The map of the lists can be read, and a message in its box. -/
def SBox (db lb B : Nat) (m : M) (w' : World) : Prop := w'.cell? ⟨db, 1, none⟩ = some (.map (some lb)) ∧ (w'.cell? ⟨B, 0, none⟩ = some (.int .i64 m.k.t) ∧ w'.cell? ⟨B, 1, none⟩ = some (.int .i64 m.k.f) ∧ w'.cell? ⟨B, 2, none⟩ = some (.int .i64 m.k.s) ∧ w'.cell? ⟨B, 3, none⟩ = some (.int .i64 m.to) ∧ w'.cell? ⟨B, 4, none⟩ = some (.int .i64 m.v) ∧ w'.cell? ⟨B, 5, none⟩ = some (.int .i64 m.u) ∧ w'.cell? ⟨B, 6, none⟩ = some (.bool m.anti))
theorem SBox.mk {w : World} {db lb B : Nat} {m : M} {W : Int} {ov : Value} (h : w.heap[db]? = some (.cells #[.int .i64 W, .map (some lb), ov] 101 (0, 0))) (hB : BoxM w B m) : SBox db lb B m w := by
  obtain ⟨-, x0, x1, x2, x3, x4, x5, x6⟩ := hB.at
  simp only [Nat.zero_add] at x0 x1 x2 x3 x4 x5 x6
  exact ⟨by simp [World.cell?, h], x0, x1, x2, x3, x4, x5, x6⟩
theorem days_set {w : World} {db lb : Nat} {W : Int} {ov : Value} (h : w.heap[db]? = some (.cells #[.int .i64 W, .map (some lb), ov] 101 (0, 0))) (u : Value) :
    (w.setCell ⟨db, 2, none⟩ u).heap[db]? = some (.cells #[.int .i64 W, .map (some lb), u] 101 (0, 0)) := by
  simp [World.setCell, Array.getElem?_modify, h]
/-- The last region of add, in steps. -/
def AddSteps (db lb B : Nat) (d : Int) (m : M) (v : Value) (l : List M) (R : World → Prop) (w : World) : Prop :=
  Calls Tryz.prog 105 #[v, m.val] w fun e w6 => ∃ p : Nat, e = .returned (.int .i64 p) ∧ Hid (SBox db lb B m w6 ∧
    Calls Tryz.prog 104 #[v, .int .i64 p, m.val] w6 fun e w7 => ∃ g off cap : Nat, e = .returned (.slice (some ⟨g, off, none⟩) (l.length + 1) cap) ∧ Hid (SBox db lb B m w7 ∧
      ∃ w8, (Instr.mapUpdate 98 (.map (some lb)) (.int .i64 d) (.slice (some ⟨g, off, none⟩) (l.length + 1) cap)).run Tryz.prog w7 = .ok () w8 ∧ SBox db lb B m w8 ∧ R w8))
section
variable {w w5 : World} {db lb : Nat} {W : Int} {ov : Value} {ds ds' : List Int} {L : Int → List M} {fv : Int → Value} {d : Int} {v : Value} {l : List M} {m : M} {B : Nat}
theorem add_steps (h : PutPre w5 db W lb ov ds ds' L fv d v l m) (hB : BoxM w5 B m) (hBv : v.ownBlock ≠ some B) {R : World → Prop}
    (hR : ∀ w8 L' fv', DaysOf w8 db W lb ov ds' L' fv' → (ds'.flatMap L').Perm (m :: ds.flatMap L) → KeptOff (fun k => k = lb ∨ v.ownBlock = some k) w5 w8 → (∀ k, (∃ x ∈ ds', (fv' x).ownBlock = some k) → (v.ownBlock = some k ∨ w5.heap.size ≤ k) ∨ ∃ x ∈ ds, x ≠ d ∧ (fv x).ownBlock = some k) → R w8) :
    AddSteps db lb B d m v l R w5 := by
  have hdb : db < w5.heap.size := (Array.getElem?_eq_some_iff.1 h.row).1
  have hll := h.ll
  refine (placeIn_any h.at' h.lo m (by omega)).mono ?_
  rintro e w6 ⟨p, he, hb6, hp⟩
  have h6 := h.below hb6
  have hB6 := hB.below hb6
  refine ⟨p, he, SBox.mk h6.row hB6, (withM_any h6.at' p hp.1 m (by omega)).mono ?_⟩
  rintro e w7 ⟨g, off, cap, he7, hr, hk, hg⟩
  obtain ⟨w8, hrun, hk8, L', fv', hD, hperm, hown⟩ := put_step h6 hp hr hk hg
  have hB7 := hB6.kept hk hBv
  have hB8 : BoxM w8 B m := hB7.kept hk8 (fun e => by
    obtain ⟨es, c, t2⟩ := h.lists.tag
    rw [e] at hB
    unfold BoxM at hB
    rw [t2] at hB
    cases hB)
  have hrow7 : w7.heap[db]? = some (.cells #[.int .i64 W, .map (some lb), ov] 101 (0, 0)) := by
    rw [hk.block db (Nat.lt_of_lt_of_le hdb hb6.size) (fun e => ?_)]
    · exact h6.row
    · obtain ⟨cur, t1⟩ := h6.at'.tag e
      rw [h6.row] at t1
      cases t1
  refine ⟨g, off, cap, he7, SBox.mk hrow7 hB7, w8, hrun, SBox.mk hD.row hB8, hR w8 L' fv' hD hperm ?_ ?_⟩
  · have k1 : KeptOff (fun k => k = lb ∨ v.ownBlock = some k) w5 w6 := .of_below hb6
    exact (k1.trans (hk.mono (fun k _ e => .inr e))).trans (hk8.mono (fun k _ e => .inl e))
  · rintro k hk'
    rcases hown k hk' with rfl | h1
    · rcases hg with e | e
      · exact .inl (.inl e)
      · exact .inl (.inr (Nat.le_trans hb6.size e))
    · exact .inr h1

end
/-- The world behind a draw is as it was, as far as it is looked at. -/
theorem PutPre.drew' {w5 : World} {db lb : Nat} {W : Int} {ov : Value} {ds ds' : List Int} {L : Int → List M} {fv : Int → Value} {d : Int} {v : Value} {l : List M} {m : M} (h : PutPre w5 db W lb ov ds ds' L fv d v l m) : PutPre w5.drew db W lb ov ds ds' L fv d v l m := h.below (Below.refl _ w5).drew

set_option maxHeartbeats 4000000 in
set_option maxRecDepth 100000 in
theorem add_old {w : World} {db lb : Nat} {W : Int} {ov : Value} {ds : List Int} {L : Int → List M} {fv : Int → Value} (h : DaysOf w db W lb ov ds L fv) (m : M) (hm : m.fits) (hs : hasS (ds.flatMap L) m.k.f m.u = false) (hT : (ds.flatMap L).length < 16384) (hd : dayOf W m.k.t ∈ ds) :
    Calls Tryz.prog 99 #[.pointer (some ⟨db, 0, none⟩), m.val] w fun e w' => e = .returned (.tuple #[]) ∧ AddRes w db W lb ov ds L fv m w' := by
  have mixed := mixed
  obtain ⟨B, hB⟩ : ∃ B, B = w.heap.size := ⟨_, rfl⟩
  obtain ⟨W0, hW0⟩ : ∃ W0, W0 = w.alloc (.cells m.cells 34) := ⟨_, rfl⟩
  have hb0 : Hid (Below w.heap.size w W0) := by rw [hW0]; exact (Below.refl _ w).alloc (Nat.le_refl _) _
  have hBx : Hid (BoxM W0 B m) := by rw [hW0, hB]; exact BoxM.mk w m
  have h1 := h.below hb0.out
  have hvB : (fv (dayOf W m.k.t)).ownBlock ≠ some B := fun e => by have := RowAt.lt (h.each _ hd) B e; omega
  have hdsl : ds.length ≤ 16384 := by have := days_len (fun x hx => (h.days.2 x hx).1) (ds := ds) (L := L); omega
  have hll : (L (dayOf W m.k.t)).length ≤ 16384 := by have := day_len hd (L := L); omega
  have hpre : Hid (PutPre W0.drew db W lb ov ds ds L fv (dayOf W m.k.t) (fv (dayOf W m.k.t)) (L (dayOf W m.k.t)) m) := PutPre.drew' { row := h1.row, lists := h1.lists, order := h1.order, rise := h1.days.1, mem := fun x => ⟨.inr, fun hx => hx.elim (fun e => e ▸ hd) id⟩, len := by rw [if_pos hd], each := fun x hx _ => h1.each x hx, at' := h1.each _ hd, off := fun x hx hn k hk => h1.apart _ hd x hx (Ne.symm hn) k hk, apart := fun x hx y hy _ _ hne => h1.apart x hx y hy hne, days := fun x hx _ => h1.days.2 x hx, lo := (h1.days.2 _ hd).2.1, ld := (h1.days.2 _ hd).2.2, md := rfl, mf := hm, width := h1.width, wide := h1.wide, unlike := h1.unlike, fits := h1.fits, small := hT, dsl := hdsl, new := hs, ll := hll, perm := fun l' hp => flat_turn (rising_nodup h1.days.1) hd (X := []) (Y := [m]) hp }
  have hstp : Hid (AddSteps db lb B (dayOf W m.k.t) m (fv (dayOf W m.k.t)) (L (dayOf W m.k.t)) (AddRes w db W lb ov ds L fv m) W0.drew) := by
    refine add_steps hpre.out (hBx.out.below (Below.refl _ W0).drew) hvB ?_
    intro w8 L' fv' hD hperm hk hown
    have hk' : KeptOff (fun k => k = lb ∨ (fv (dayOf W m.k.t)).ownBlock = some k) w w8 := (KeptOff.of_below hb0.out).trans hk.undrew
    refine ⟨ov, ds, L', fv', hD, hperm, hk'.mono (fun k _ e => ?_), ?_⟩
    · rcases e with rfl | e
      · exact .inr (.inl rfl)
      · exact .inr (.inr (.inr ⟨_, hd, e⟩))
    · rintro k (rfl | rfl | e | e)
      · exact .inl (.inl rfl)
      · exact .inl (.inr (.inl rfl))
      · exact .inl (.inr (.inr (.inl e)))
      · rcases hown k e with (e | e) | ⟨x, hx, _, e⟩
        · exact .inl (.inr (.inr (.inr ⟨_, hd, e⟩)))
        · exact .inr (Nat.le_trans hb0.out.size e)
        · exact .inl (.inr (.inr (.inr ⟨x, hx, e⟩)))
  have hday := dayOf_any h1.c0 h1.width h1.wide hm.1.1
  have hwf := day_wf h1.width hm.1.1
  have hlk := h1.lists.look hd hwf
  obtain ⟨a, cap, hv, -⟩ := RowAt.shape (h1.each _ hd)
  have hne : (L (dayOf W m.k.t)).length ≠ 0 := fun e => (h1.days.2 _ hd).1 (List.eq_nil_of_length_eq_zero e)
  have c1 := h1.c1
  have hS0 : SBox db lb B m W0.drew := SBox.mk hpre.out.row (hBx.out.below (Below.refl _ W0).drew)
  rw [hv] at hlk hstp
  generalize (L (dayOf W m.k.t)) = l at *
  generalize dayOf W m.k.t = d at *
  obtain ⟨-, x0, x1, x2, x3, x4, x5, x6⟩ := hBx.out.at
  simp only [Nat.zero_add] at x0 x1 x2 x3 x4 x5 x6
  have hneI : ¬ ((l.length : Int) = 0) := by omega
  unfold AddSteps at hstp
  have hplace := hstp.out
  simp only [M.val] at hplace ⊢
  generalize AddRes w db W lb ov ds L fv m = R at hplace ⊢
  clear hpre hstp h1 hs hT hdsl hll h hv hvB hwf hd hm hb0
  generalize hn : l.length = n at *
  clear hn
  go_enter Tryz.func99, Tryz.ntmps99
  go_upto_region 1 with (fail)
  rw [show w.alloc (.cells #[.int .i64 m.k.t, .int .i64 m.k.f, .int .i64 m.k.s, .int .i64 m.to, .int .i64 m.v, .int .i64 m.u, .bool m.anti] 34) = W0 from hW0.symm, ← hB]
  clear hW0 hB
  go_upto_region 6 with (go_at_call 101; refine hday.mono ?_; rintro e w1 ⟨rfl, rfl⟩)
  have hplace' := Lib.hid hplace
  clear hplace hday hlk
  go_region_held3 (fun w' => w'.cell? ⟨db, 1, none⟩ = some (.map (some lb)) ∧ (w'.cell? ⟨B, 0, none⟩ = some (.int .i64 m.k.t) ∧ w'.cell? ⟨B, 1, none⟩ = some (.int .i64 m.k.f) ∧ w'.cell? ⟨B, 2, none⟩ = some (.int .i64 m.k.s) ∧ w'.cell? ⟨B, 3, none⟩ = some (.int .i64 m.to) ∧ w'.cell? ⟨B, 4, none⟩ = some (.int .i64 m.v) ∧ w'.cell? ⟨B, 5, none⟩ = some (.int .i64 m.u) ∧ w'.cell? ⟨B, 6, none⟩ = some (.bool m.anti)))
    (first | exact hS0 | exact hS6 | exact hS7 | exact hS8)
    (first
      | (go_at_call 105; (with_reducible refine hplace'.out.mono ?_); rintro e w6 ⟨p, rfl, h6⟩; obtain ⟨hS6, hwith⟩ := h6.out; have hwith' := Lib.hid hwith; clear hwith h6)
      | (go_at_call 104; (with_reducible refine hwith'.out.mono ?_); rintro e w7 ⟨g, off, cap7, rfl, h7⟩; obtain ⟨hS7, w8, hrun8, hS8, hR8⟩ := h7.out; have hR8' := Lib.hid hR8; clear hR8 h7))
  go_wp2
  first | go_end0 | refine bodyPost_ret (results_none rfl _ _ _) rfl ?_
  exact ⟨rfl, hR8'.out⟩
end Go.Proofs.YtjlbkdghlijoeaaGreat
namespace Go.Proofs.YtjlbkdghlijoeaaGreat
open Go.ChangeShapes Go.WideShapes Go.ChangeAt Go.Shelf Go.RowKit Go.Lib Go.Sort Go.Deep Go.Maps
set_option linter.unusedVariables false

set_option maxHeartbeats 4000000 in
set_option maxRecDepth 100000 in
theorem add_new {w : World} {db lb : Nat} {W : Int} {ov : Value} {ds : List Int} {L : Int → List M} {fv : Int → Value} (h : DaysOf w db W lb ov ds L fv) (m : M) (hm : m.fits) (hs : hasS (ds.flatMap L) m.k.f m.u = false) (hT : (ds.flatMap L).length < 16384) (hd : dayOf W m.k.t ∉ ds) :
    Calls Tryz.prog 99 #[.pointer (some ⟨db, 0, none⟩), m.val] w fun e w' => e = .returned (.tuple #[]) ∧ AddRes w db W lb ov ds L fv m w' := by
  have mixed := mixed
  obtain ⟨B, hB⟩ : ∃ B, B = w.heap.size := ⟨_, rfl⟩
  obtain ⟨W0, hW0⟩ : ∃ W0, W0 = w.alloc (.cells m.cells 34) := ⟨_, rfl⟩
  have hb0 : Hid (Below w.heap.size w W0) := by rw [hW0]; exact (Below.refl _ w).alloc (Nat.le_refl _) _
  have hBx : Hid (BoxM W0 B m) := by rw [hW0, hB]; exact BoxM.mk w m
  have h1 := h.below hb0.out
  have hdsl : ds.length ≤ 16384 := by have := days_len (fun x hx => (h.days.2 x hx).1) (ds := ds) (L := L); omega
  have hday := dayOf_any h1.c0 h1.width h1.wide hm.1.1
  have hwf := day_wf h1.width hm.1.1
  have hlk := h1.lists.look_no hd hwf
  have hoB : ov.ownBlock ≠ some B := fun e => by have := RowAt.lt h.order B e; omega
  obtain ⟨d, hdd⟩ : ∃ d, d = dayOf W m.k.t := ⟨_, rfl⟩
  rw [← hdd] at hd hday hwf hlk
  have hbin := binS_any h1.order h1.days.1 d (by omega)
  have hstep : Hid (∀ p, PlaceI ds d p → Calls Tryz.prog 103 #[ov, .int .i64 p, .int .i64 d] W0 fun e w1 => ∃ g off cap : Nat, e = .returned (.slice (some ⟨g, off, none⟩) (ds.length + 1) cap) ∧ Hid (w1.cell? ⟨db, 2, none⟩ = some ov ∧ w1.frozen? ⟨db, 2, none⟩ = false ∧
      SBox db lb B m (w1.setCell ⟨db, 2, none⟩ (.slice (some ⟨g, off, none⟩) (ds.length + 1) cap)).drew ∧ AddSteps db lb B d m (.slice none 0 0) [] (AddRes w db W lb ov ds L fv m) (w1.setCell ⟨db, 2, none⟩ (.slice (some ⟨g, off, none⟩) (ds.length + 1) cap)).drew)) := by
    intro p hp
    refine (withI_any h1.order p hp.1 d (by omega)).mono ?_
    rintro e w1 ⟨g, off, cap, he, hr, hk, hg⟩
    refine ⟨g, off, cap, he, ?_⟩
    have hn : ∀ k, DOwn db lb ov ds fv k → k = db ∨ k = lb ∨ (∃ x ∈ ds, (fv x).ownBlock = some k) → ov.ownBlock ≠ some k := by
      rintro k - (rfl | rfl | ⟨x, hx, e⟩) e2
      · exact (h1.ov_db e2).1 rfl
      · exact (h1.ov_db e2).2 rfl
      · exact (h1.fv_db hx e).2.2 e2
    have hrow1 : w1.heap[db]? = some (.cells #[.int .i64 W, .map (some lb), ov] 101 (0, 0)) := (hk.block db h1.lt (fun e => (h1.ov_db e).1 rfl)).trans h1.row
    have k2 := KeptOff.set w1 ⟨db, 2, none⟩ (.slice (some ⟨g, off, none⟩) (ds.length + 1) cap)
    have hgdb : g ≠ db := by
      obtain ⟨cur, t1, _⟩ := hr
      rintro rfl
      rw [hrow1] at t1
      cases t1
    have hil : (ds.take p ++ d :: ds.drop p).length = ds.length + 1 := (perm_ins ds d p).length_eq
    have hor : AtI (w1.setCell ⟨db, 2, none⟩ (.slice (some ⟨g, off, none⟩) (ds.length + 1) cap)) (.slice (some ⟨g, off, none⟩) (ds.length + 1) cap) (ds.take p ++ d :: ds.drop p) := by
      have hr2 : RowI (w1.setCell ⟨db, 2, none⟩ (.slice (some ⟨g, off, none⟩) (ds.length + 1) cap)) g off cap (ds.take p ++ d :: ds.drop p) := RowIn.kept hr k2 hgdb
      unfold RowI at hr2
      unfold AtI
      rw [hil] at hr2 ⊢
      exact .inr ⟨g, off, cap, rfl, hr2⟩
    have hB5 : BoxM (w1.setCell ⟨db, 2, none⟩ (.slice (some ⟨g, off, none⟩) (ds.length + 1) cap)) B m := (hBx.out.kept hk hoB).kept k2 (fun e => by have := h.lt; simp at e; omega)
    have hpre : PutPre (w1.setCell ⟨db, 2, none⟩ (.slice (some ⟨g, off, none⟩) (ds.length + 1) cap)) db W lb (.slice (some ⟨g, off, none⟩) (ds.length + 1) cap) ds (ds.take p ++ d :: ds.drop p) L fv d (.slice none 0 0) [] m :=
      { row := days_set hrow1 _, lists := (h1.lists.kept hk (fun e => (h1.ov_db e).2 rfl)).kept k2 (fun e => h1.db_lb e.symm), order := hor, rise := rising_ins h1.days.1 hd hp, mem := fun x => mem_ins p, len := by rw [if_neg hd]; exact hil,
        each := fun x hx _ => (RowAt.kept (h1.each x hx) hk (fun k e => fun e2 => (h1.fv_db hx e).2.2 e2)).kept k2 (fun k e => (h1.fv_db hx e).1), at' := RowAt.nil _ _ _, off := fun x hx hn k hk => (by cases hk), apart := fun x hx y hy _ _ hne => h1.apart x hx y hy hne, days := fun x hx _ => h1.days.2 x hx,
        lo := List.Pairwise.nil, ld := fun x hx => (by cases hx), md := hdd.symm, mf := hm, width := h1.width, wide := h1.wide, unlike := h1.unlike, fits := h1.fits, small := hT, dsl := hdsl, new := hs, ll := by simp,
        perm := fun l' hp' => by
          obtain rfl := List.perm_singleton.1 hp'
          exact flat_more hd p [m] }
    refine ⟨by simp [World.cell?, hrow1], by simp [World.frozen?, hrow1], SBox.mk (hpre.drew').row (hB5.below (Below.refl _ _).drew), add_steps hpre.drew' (hB5.below (Below.refl _ _).drew) (by simp [Value.ownBlock]) ?_⟩
    intro w8 L' fv' hD hperm hk8 hown
    have hk8' := hk8.undrew
    have hall : KeptOff (DOwn db lb ov ds fv) w w8 := (((KeptOff.of_below hb0.out).trans (hk.mono (fun k _ e => .inr (.inr (.inl e))))).trans (k2.mono (fun k _ e => .inl e))).trans (hk8'.mono (fun k _ e => e.elim (fun e => .inr (.inl e)) (fun e => by cases e)))
    refine ⟨_, _, L', fv', hD, hperm, hall, ?_⟩
    rintro k (rfl | rfl | e | e)
    · exact .inl (.inl rfl)
    · exact .inl (.inr (.inl rfl))
    · simp [Value.ownBlock] at e
      subst e
      rcases hg with e | e
      · exact .inl (.inr (.inr (.inl e)))
      · exact .inr (Nat.le_trans hb0.out.size e)
    · rcases hown k e with (e | e) | ⟨x, hx, _, e⟩
      · cases e
      · exact .inr (Nat.le_trans hb0.out.size (Nat.le_trans hk.size (Nat.le_trans k2.size e)))
      · exact .inl (.inr (.inr (.inr ⟨x, hx, e⟩)))
  have c1 := h1.c1
  have c2 := h1.c2
  obtain ⟨-, x0, x1, x2, x3, x4, x5, x6⟩ := hBx.out.at
  simp only [Nat.zero_add] at x0 x1 x2 x3 x4 x5 x6
  rw [← hdd] at *
  unfold AddSteps at hstep
  simp only [M.val] at hstep ⊢
  generalize AddRes w db W lb ov ds L fv m = R at hstep ⊢
  clear hs hT hdsl h hwf hd hm hb0 hoB h1
  have hdd' := Lib.hid hdd
  clear hdd
  have hl0 : ([] : List M).length = 0 := rfl
  simp only [hl0] at hstep
  have hbin' := Lib.hid hbin
  clear hbin hl0
  go_enter Tryz.func99, Tryz.ntmps99
  go_upto_region 1 with (fail)
  rw [show w.alloc (.cells #[.int .i64 m.k.t, .int .i64 m.k.f, .int .i64 m.k.s, .int .i64 m.to, .int .i64 m.v, .int .i64 m.u, .bool m.anti] 34) = W0 from hW0.symm, ← hB]
  clear hW0 hB
  go_upto_region 6 with (first
    | (go_at_call 101; refine hday.mono ?_; rintro e w1 ⟨rfl, rfl⟩)
    | (go_at_call 102; refine hbin'.out.mono ?_; rintro e w2 ⟨p, bb, rfl, rfl, hp⟩; have hst := Lib.hid (hstep.out p hp))
    | (go_at_call 103; refine hst.out.mono ?_; rintro e w3 ⟨gg, oo, cc, rfl, h3⟩; obtain ⟨c3, f3, hS0, hplace⟩ := h3.out))
  clear c1 c2 c3 f3 x0 x1 x2 x3 x4 x5 x6 hst h3 hstep
  generalize w3.setCell ⟨db, 2, none⟩ (.slice (some ⟨gg, oo, none⟩) (ds.length + 1) cc) = W5 at *
  have hplace' := Lib.hid hplace
  clear hplace hday hlk
  go_region_held3 (fun w' => w'.cell? ⟨db, 1, none⟩ = some (.map (some lb)) ∧ (w'.cell? ⟨B, 0, none⟩ = some (.int .i64 m.k.t) ∧ w'.cell? ⟨B, 1, none⟩ = some (.int .i64 m.k.f) ∧ w'.cell? ⟨B, 2, none⟩ = some (.int .i64 m.k.s) ∧ w'.cell? ⟨B, 3, none⟩ = some (.int .i64 m.to) ∧ w'.cell? ⟨B, 4, none⟩ = some (.int .i64 m.v) ∧ w'.cell? ⟨B, 5, none⟩ = some (.int .i64 m.u) ∧ w'.cell? ⟨B, 6, none⟩ = some (.bool m.anti)))
    (first | exact hS0 | exact hS6 | exact hS7 | exact hS8)
    (first
      | (go_at_call 105; (with_reducible refine hplace'.out.mono ?_); rintro e w6 ⟨p6, rfl, h6⟩; obtain ⟨hS6, hwith⟩ := h6.out; have hwith' := Lib.hid hwith; clear hwith h6)
      | (go_at_call 104; (with_reducible refine hwith'.out.mono ?_); rintro e w7 ⟨g, off, cap7, rfl, h7⟩; obtain ⟨hS7, w8, hrun8, hS8, hR8⟩ := h7.out; have hR8' := Lib.hid hR8; clear hR8 h7))
  go_wp2
  first | go_end0 | refine bodyPost_ret (results_none rfl _ _ _) rfl ?_
  exact ⟨rfl, hR8'.out⟩
end Go.Proofs.YtjlbkdghlijoeaaGreat
