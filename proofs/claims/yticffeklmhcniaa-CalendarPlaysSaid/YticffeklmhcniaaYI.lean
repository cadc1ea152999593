/-
  The days in memory; their first message.
-/
import Derived.Test.YticffeklmhcniaaYH
namespace Go.Proofs.Yticffeklmhcniaa
open Go.ChangeShapes Go.WideShapes Go.ChangeAt Go.Shelf Go.RowKit Go.Lib Go.Sort Go.Deep Go.Maps
set_option linter.unusedVariables false

def zeroM : M := ⟨⟨0, 0, 0⟩, 0, 0, 0, false⟩
/-- Block db holds days: their width, the map of their lists, their order. -/
structure DaysOf (w : World) (db : Nat) (W : Int) (lb : Nat) (ov : Value) (ds : List Int) (L : Int → List M) (fv : Int → Value) : Prop where
  row : w.heap[db]? = some (.cells #[.int .i64 W, .map (some lb), ov] 78 (0, 0))
  lists : ListsAt w lb ds fv
  order : AtI w ov ds
  days : DayList W ds L
  each : ∀ d ∈ ds, AtM w (fv d) (L d)
  apart : ∀ d ∈ ds, ∀ d' ∈ ds, d ≠ d' → ∀ k, (fv d).ownBlock = some k → (fv d').ownBlock ≠ some k
  width : 1 ≤ W
  wide : (Lit.int .i64 W).wf = true
  unlike : Unlike (ds.flatMap L)
  fits : ∀ m ∈ ds.flatMap L, m.fits
  small : (ds.flatMap L).length ≤ 16384
/-- The blocks that days own. -/
def DOwn (db lb : Nat) (ov : Value) (ds : List Int) (fv : Int → Value) (k : Nat) : Prop := k = db ∨ k = lb ∨ ov.ownBlock = some k ∨ ∃ d ∈ ds, (fv d).ownBlock = some k
theorem AtM.tag {w : World} {v : Value} {l : List M} (h : AtM w v l) {k : Nat} (hk : v.ownBlock = some k) : ∃ cur, w.heap[k]? = some (.cells cur 34 (0, 0)) := by
  rcases h with ⟨rfl, _⟩ | ⟨g, off, cap, rfl, cur, h, _⟩
  · cases hk
  · simp [Value.ownBlock] at hk
    subst hk
    exact ⟨cur, h⟩
theorem AtI.tag {w : World} {v : Value} {l : List Int} (h : AtI w v l) {k : Nat} (hk : v.ownBlock = some k) : ∃ cur, w.heap[k]? = some (.cells cur 2 (0, 0)) := by
  rcases h with ⟨rfl, _⟩ | ⟨g, off, cap, rfl, cur, h, _⟩
  · cases hk
  · simp [Value.ownBlock] at hk
    subst hk
    exact ⟨cur, h⟩
theorem ListsAt.tag {w : World} {lb : Nat} {ds : List Int} {fv : Int → Value} (h : ListsAt w lb ds fv) : ∃ es c, w.heap[lb]? = some (.map es c) := by
  obtain ⟨D, ⟨es, c, h, _⟩, _⟩ := h
  exact ⟨es, c, h⟩
section
variable {w w' : World} {db lb : Nat} {W : Int} {ov : Value} {ds : List Int} {L : Int → List M} {fv : Int → Value}
theorem DaysOf.lt (h : DaysOf w db W lb ov ds L fv) : db < w.heap.size := (Array.getElem?_eq_some_iff.1 h.row).1
theorem DaysOf.c0 (h : DaysOf w db W lb ov ds L fv) : w.cell? ⟨db, 0, none⟩ = some (.int .i64 W) := by simp [World.cell?, h.row]
theorem DaysOf.c1 (h : DaysOf w db W lb ov ds L fv) : w.cell? ⟨db, 1, none⟩ = some (.map (some lb)) := by simp [World.cell?, h.row]
theorem DaysOf.c2 (h : DaysOf w db W lb ov ds L fv) : w.cell? ⟨db, 2, none⟩ = some ov := by simp [World.cell?, h.row]
theorem DaysOf.fz (h : DaysOf w db W lb ov ds L fv) (o : Nat) : w.frozen? ⟨db, o, none⟩ = false := by simp [World.frozen?, h.row]
theorem DaysOf.db_lb (h : DaysOf w db W lb ov ds L fv) : db ≠ lb := by
  obtain ⟨es, c, h1⟩ := h.lists.tag
  rintro rfl
  rw [h.row] at h1
  cases h1
theorem DaysOf.ov_db (h : DaysOf w db W lb ov ds L fv) {k : Nat} (hk : ov.ownBlock = some k) : k ≠ db ∧ k ≠ lb := by
  obtain ⟨cur, h1⟩ := h.order.tag hk
  obtain ⟨es, c, h2⟩ := h.lists.tag
  refine ⟨?_, ?_⟩
  · rintro rfl
    rw [h.row] at h1
    cases h1
  · rintro rfl
    rw [h2] at h1
    cases h1
theorem DaysOf.fv_db (h : DaysOf w db W lb ov ds L fv) {d : Int} (hd : d ∈ ds) {k : Nat} (hk : (fv d).ownBlock = some k) : k ≠ db ∧ k ≠ lb ∧ ov.ownBlock ≠ some k := by
  obtain ⟨cur, h1⟩ := (h.each d hd).tag hk
  obtain ⟨es, c, h2⟩ := h.lists.tag
  refine ⟨?_, ?_, fun e => ?_⟩
  · rintro rfl
    rw [h.row] at h1
    cases h1
  · rintro rfl
    rw [h2] at h1
    cases h1
  · obtain ⟨cur', h3⟩ := h.order.tag e
    rw [h1] at h3
    cases h3
theorem DaysOf.own_lt (h : DaysOf w db W lb ov ds L fv) {k : Nat} (hk : DOwn db lb ov ds fv k) : k < w.heap.size := by
  rcases hk with rfl | rfl | hk | ⟨d, hd, hk⟩
  · exact h.lt
  · exact h.lists.lt
  · exact RowAt.lt h.order k hk
  · exact RowAt.lt (h.each d hd) k hk
theorem DaysOf.kept {S : Nat → Prop} (h : DaysOf w db W lb ov ds L fv) (hk : KeptOff S w w') (hn : ∀ k, DOwn db lb ov ds fv k → ¬ S k) : DaysOf w' db W lb ov ds L fv where
  row := (hk.block db h.lt (hn db (.inl rfl))).trans h.row
  lists := h.lists.kept hk (hn lb (.inr (.inl rfl)))
  order := RowAt.kept h.order hk (fun k e => hn k (.inr (.inr (.inl e))))
  days := h.days
  each := fun d hd => RowAt.kept (h.each d hd) hk (fun k e => hn k (.inr (.inr (.inr ⟨d, hd, e⟩))))
  apart := h.apart
  width := h.width
  wide := h.wide
  unlike := h.unlike
  fits := h.fits
  small := h.small
theorem DaysOf.below (h : DaysOf w db W lb ov ds L fv) (hb : Below w.heap.size w w') : DaysOf w' db W lb ov ds L fv := h.kept (S := fun _ => False) (.of_below hb) (fun _ _ e => e)
theorem DaysOf.wf (h : DaysOf w db W lb ov ds L fv) {d : Int} (hd : d ∈ ds) : (Lit.int .i64 d).wf = true := by
  obtain ⟨h1, h2⟩ := h.days
  obtain ⟨m, hm⟩ := List.exists_mem_of_ne_nil _ (h2 d hd).1
  have e := (h2 d hd).2.2 m hm
  have hf := wf_range (h.fits m (day_sub hd hm)).1.1
  have hr := day_range h.width hf.1 hf.2
  unfold dayOf at e
  rw [e] at hr
  simp [Lit.wf, IntKind.min, IntKind.max, IntKind.signed, IntKind.bits]
  omega
theorem day_wf {W t : Int} (hW : 1 ≤ W) (ht : (Lit.int .i64 t).wf = true) : (Lit.int .i64 (dayOf W t)).wf = true := by
  have hf := wf_range ht
  have hr := day_range hW hf.1 hf.2
  unfold dayOf
  simp [Lit.wf, IntKind.min, IntKind.max, IntKind.signed, IntKind.bits]
  omega

set_option maxHeartbeats 4000000 in
set_option maxRecDepth 100000 in
theorem dfirst_any (h : DaysOf w db W lb ov ds L fv) {m : M} {T : List M} (hT : ds.flatMap L = m :: T) :
    Calls Try.prog 35 #[.pointer (some ⟨db, 0, none⟩)] w fun e w' => e = .returned m.val ∧ Below w.heap.size w w' := by
  have mixed := mixed
  obtain ⟨d0, dr, hds⟩ : ∃ d0 dr, ds = d0 :: dr := by
    cases ds with
    | nil => simp at hT
    | cons d0 dr => exact ⟨d0, dr, rfl⟩
  have hd0 : d0 ∈ ds := by rw [hds]; exact List.mem_cons_self ..
  obtain ⟨l, hl⟩ : ∃ l, L d0 = m :: l := by
    have hne := (h.days.2 d0 hd0).1
    rw [hds, List.flatMap_cons] at hT
    cases hc : L d0 with
    | nil => exact absurd hc hne
    | cons x l =>
      rw [hc] at hT
      exact ⟨l, by simp at hT; rw [hT.1]⟩
  obtain ⟨W1, hW1⟩ : ∃ W1, W1 = w.alloc (.cells zeroM.cells 34) := ⟨_, rfl⟩
  have hb0 : Hid (Below w.heap.size w W1) := by rw [hW1]; exact (Below.refl _ w).alloc (Nat.le_refl _) _
  have hB0 : Hid (BoxM W1 w.heap.size zeroM) := by rw [hW1]; exact BoxM.mk w zeroM
  have h1 := h.below hb0.out
  obtain ⟨g, off, cap, hov, hR⟩ := AtI.form h1.order (by rw [hds]; simp)
  have hc0 := hR.cellI 0 (by rw [hds]; simp)
  obtain ⟨g2, off2, cap2, hfv, hR2⟩ := AtM.form (h1.each d0 hd0) (by rw [hl]; simp)
  have hm0 := hR2.at 0 (by rw [hl]; simp)
  have e0 : (L d0).getD 0 default = m := by rw [hl]; rfl
  have e1 : ds.getD 0 0 = d0 := by rw [hds]; rfl
  rw [e0] at hm0
  rw [e1, Nat.add_zero] at hc0
  have hwf := h1.wf hd0
  have hlk0 := fun q : WB => (h1.lists.below' (wide_below W1 q)).look hd0 hwf
  obtain ⟨hgl, x0, x1, x2, x3, x4, x5, x6⟩ := hm0
  simp only [Nat.zero_mul, Nat.add_zero] at x0 x1 x2 x3 x4 x5 x6
  have hlen1 : (0 : Int) < (ds.length : Int) := by rw [hds]; simp
  have hlen2 : (0 : Int) < ((L d0).length : Int) := by rw [hl]; simp
  have hln1 : 0 < ds.length := by omega
  have hln2 : 0 < (L d0).length := by omega
  have c1 := fun q => wide_cell (w := W1) q h1.lt h1.c1
  have c2 := fun q => wide_cell (w := W1) q h1.lt h1.c2
  rw [hov] at c2
  rw [hfv] at hlk0
  have hRl : g < W1.heap.size := RowIn.lt hR
  have o0 := fun q => wide_cell (w := W1) (a := ⟨g, off, none⟩) q hRl hc0
  have y0 := fun q => wide_cell (w := W1) q hgl x0
  have y1 := fun q => wide_cell (w := W1) q hgl x1
  have y2 := fun q => wide_cell (w := W1) q hgl x2
  have y3 := fun q => wide_cell (w := W1) q hgl x3
  have y4 := fun q => wide_cell (w := W1) q hgl x4
  have y5 := fun q => wide_cell (w := W1) q hgl x5
  have y6 := fun q => wide_cell (w := W1) q hgl x6
  generalize ds.length = n1 at hlen1 hln1 c2
  generalize (L d0).length = n2 at hlen2 hln2 hlk0
  clear hRl x0 x1 x2 x3 x4 x5 x6 hc0 hgl h1 hR hR2 e0 e1 hd0 hl hds hov hfv hT hwf h
  go_enter Try.func35, Try.ntmps35
  go_upto_region 1 with (fail)
  rw [show w.alloc (.cells #[.int .i64 0, .int .i64 0, .int .i64 0, .int .i64 0, .int .i64 0, .int .i64 0, .bool false] 34) = W1 from hW1.symm]
  clear hW1
  refine wp_region_wide_tail 13 (by kernel_rfl) (by kernel_rfl) ?_
  simp only [List.take_succ_cons, List.take_zero, List.drop_succ_cons, List.drop_zero]
  repeat (quiet_step (fail))
  refine wpQuiet_nil ?_
  refine wide_all fun W3 hb3 => ?_
  clear c1 c2 o0 y0 y1 y2 y3 y4 y5 y6 hlk0
  have hB3 := hB0.out.below hb3
  go_wp2_with (refine wpList_store_row rfl 34 (.tmp 2) (.tmp 15) rfl w.heap.size m.cells rfl rfl 34 zeroM.cells hB3 infoS rfl (M.cells_one m) ?_)
  obtain ⟨-, s0, s1, s2, s3, s4, s5, s6⟩ := (hB3.row m).at
  simp only [Nat.zero_add] at s0 s1 s2 s3 s4 s5 s6
  refine bodyPost_ret (v := m.val) (by simp [results, Try.results35, go_sem, s0, s1, s2, s3, s4, s5, s6, M.val]) rfl ⟨rfl, ?_⟩
  exact below_setRow (hb0.out.trans (hb3.mono hb0.out.size)) (Nat.le_refl _) _
end
end Go.Proofs.Yticffeklmhcniaa
