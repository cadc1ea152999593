/-
  A calendar: what it holds, in order; made, has, refusal, Len, All; a calendar that nobody made.
-/
import Derived.Test.YticffeklmhcniaaYP
namespace Go.Proofs.Yticffeklmhcniaa
open Go.ChangeShapes Go.WideShapes Go.ChangeAt Go.Shelf Go.RowKit Go.Lib Go.Sort Go.Deep Go.Maps
set_option linter.unusedVariables false

/-- A calendar's two cells. -/
def CalRow (w : World) (hb db mb : Nat) : Prop := w.heap[hb]? = some (.cells #[.pointer (some ⟨db, 0, none⟩), .map (some mb)] 55 (0, 0))
theorem CalRow.c0 {w : World} {hb db mb : Nat} (h : CalRow w hb db mb) : w.cell? ⟨hb, 0, none⟩ = some (.pointer (some ⟨db, 0, none⟩)) := by unfold CalRow at h; simp [World.cell?, h]
theorem CalRow.c1 {w : World} {hb db mb : Nat} (h : CalRow w hb db mb) : w.cell? ⟨hb, 1, none⟩ = some (.map (some mb)) := by unfold CalRow at h; simp [World.cell?, h]
theorem CalRow.lt {w : World} {hb db mb : Nat} (h : CalRow w hb db mb) : hb < w.heap.size := (Array.getElem?_eq_some_iff.1 h).1
/-- A calendar in memory. -/
structure CalOf (w : World) (hb db mb : Nat) (W : Int) (lb : Nat) (ov : Value) (ds : List Int) (L : Int → List M) (fv : Int → Value) : Prop where
  row : CalRow w hb db mb
  days : DaysOf w db W lb ov ds L fv
  keys : KeysAt w mb (ds.flatMap L)
  apart : mb ≠ lb
/-- The blocks that a calendar owns. -/
def COwn (hb db mb lb : Nat) (ov : Value) (ds : List Int) (fv : Int → Value) (k : Nat) : Prop := k = hb ∨ k = mb ∨ DOwn db lb ov ds fv k
/-- A calendar that holds the messages of T, in their order; its blocks are among those of S. -/
def CalAt (w : World) (hb : Nat) (S : Nat → Prop) (T : List M) : Prop :=
  ∃ db mb W lb ov ds L fv, CalOf w hb db mb W lb ov ds L fv ∧ T = ds.flatMap L ∧ (∀ k, COwn hb db mb lb ov ds fv k → S k) ∧ ∀ k, S k → k < w.heap.size
/-- What a step of a calendar turns. -/
def CStep (w w' : World) (S S' : Nat → Prop) : Prop := KeptOff S w w' ∧ ∀ k, S' k → S k ∨ w.heap.size ≤ k
section
variable {w w' : World} {hb db mb lb : Nat} {W : Int} {ov : Value} {ds : List Int} {L : Int → List M} {fv : Int → Value} {S S' : Nat → Prop} {T : List M}
theorem KeysAt.tag (h : KeysAt w mb T) : ∃ es c, w.heap[mb]? = some (.map es c) := by
  obtain ⟨D, ⟨es, c, h, _⟩, _⟩ := h
  exact ⟨es, c, h⟩
/-- Neither the calendar's own cells nor its keys are a block of its days. -/
theorem CalOf.off (h : CalOf w hb db mb W lb ov ds L fv) {k : Nat} (hk : DOwn db lb ov ds fv k) : k ≠ hb ∧ k ≠ mb := by
  have hr := h.row
  unfold CalRow at hr
  obtain ⟨es, c, hm⟩ := h.keys.tag
  rcases hk with rfl | rfl | e | ⟨d, hd, e⟩
  · have h1 := h.days.row
    exact ⟨fun e => (by rw [e, hr] at h1; cases h1), fun e => (by rw [e, hm] at h1; cases h1)⟩
  · obtain ⟨es', c', h1⟩ := h.days.lists.tag
    exact ⟨fun e => (by rw [e, hr] at h1; cases h1), fun e => h.apart e.symm⟩
  · obtain ⟨cur, h1⟩ := h.days.order.tag e
    exact ⟨fun e => (by rw [e, hr] at h1; cases h1), fun e => (by rw [e, hm] at h1; cases h1)⟩
  · obtain ⟨cur, h1⟩ := (h.days.each d hd).tag e
    exact ⟨fun e => (by rw [e, hr] at h1; cases h1), fun e => (by rw [e, hm] at h1; cases h1)⟩
theorem CalOf.hb_mb (h : CalOf w hb db mb W lb ov ds L fv) : hb ≠ mb := fun e => by
  have hr := h.row
  unfold CalRow at hr
  obtain ⟨es, c, hm⟩ := h.keys.tag
  rw [e, hm] at hr
  cases hr
theorem CalOf.own_lt (h : CalOf w hb db mb W lb ov ds L fv) {k : Nat} (hk : COwn hb db mb lb ov ds fv k) : k < w.heap.size := by
  rcases hk with rfl | rfl | hk
  · exact h.row.lt
  · exact h.keys.lt
  · exact h.days.own_lt hk
theorem CalOf.kept (h : CalOf w hb db mb W lb ov ds L fv) (hk : KeptOff S w w') (hn : ∀ k, COwn hb db mb lb ov ds fv k → ¬ S k) : CalOf w' hb db mb W lb ov ds L fv :=
  ⟨(hk.block hb h.row.lt (hn hb (.inl rfl))).trans h.row, h.days.kept hk (fun k e => hn k (.inr (.inr e))), h.keys.kept hk (hn mb (.inr (.inl rfl))), h.apart⟩
theorem CalOf.below (h : CalOf w hb db mb W lb ov ds L fv) (hb' : Below w.heap.size w w') : CalOf w' hb db mb W lb ov ds L fv := h.kept (S := fun _ => False) (.of_below hb') (fun _ _ e => e)
theorem CalAt.kept {X : Nat → Prop} (h : CalAt w hb S T) (hk : KeptOff X w w') (hn : ∀ k, S k → ¬ X k) : CalAt w' hb S T := by
  obtain ⟨db, mb, W, lb, ov, ds, L, fv, h1, h2, h3, h4⟩ := h
  exact ⟨db, mb, W, lb, ov, ds, L, fv, h1.kept hk (fun k e => hn k (h3 k e)), h2, h3, fun k e => Nat.lt_of_lt_of_le (h4 k e) hk.size⟩
theorem CalAt.below (h : CalAt w hb S T) (hb' : Below w.heap.size w w') : CalAt w' hb S T := h.kept (X := fun _ => False) (.of_below hb') (fun _ _ e => e)
theorem CalAt.lt (h : CalAt w hb S T) {k : Nat} (hk : S k) : k < w.heap.size := by obtain ⟨db, mb, W, lb, ov, ds, L, fv, h1, h2, h3, h4⟩ := h; exact h4 k hk
theorem CalAt.own (h : CalAt w hb S T) : S hb := by obtain ⟨db, mb, W, lb, ov, ds, L, fv, h1, h2, h3, h4⟩ := h; exact h3 hb (.inl rfl)
theorem CalAt.o (h : CalAt w hb S T) : InOrder ltM T := by obtain ⟨db, mb, W, lb, ov, ds, L, fv, h1, rfl, h3, h4⟩ := h; exact days_order h1.days.width h1.days.days
theorem CalAt.u (h : CalAt w hb S T) : Unlike T := by obtain ⟨db, mb, W, lb, ov, ds, L, fv, h1, rfl, h3, h4⟩ := h; exact h1.days.unlike
theorem CalAt.fits (h : CalAt w hb S T) : ∀ m ∈ T, m.fits := by obtain ⟨db, mb, W, lb, ov, ds, L, fv, h1, rfl, h3, h4⟩ := h; exact h1.days.fits
theorem CalAt.small (h : CalAt w hb S T) : T.length ≤ 16384 := by obtain ⟨db, mb, W, lb, ov, ds, L, fv, h1, rfl, h3, h4⟩ := h; exact h1.days.small
theorem CStep.of_below (h : Below w.heap.size w w') : CStep w w' S S := ⟨.of_below h, fun _ h => .inl h⟩
theorem CStep.trans {S'' : Nat → Prop} {w'' : World} (h : CStep w w' S S') (h' : CStep w' w'' S' S'') : CStep w w'' S S'' :=
  ⟨h.1.then_new h'.1 (fun k hk e => (h.2 k e).resolve_right (by omega)), fun k hk => by
    rcases h'.2 k hk with e | e
    · exact h.2 k e
    · exact .inr (Nat.le_trans h.1.size e)⟩
end

theorem made_ok {w : World} {hb db mb : Nat} (h : CalRow w hb db mb) : Calls Try.prog 25 #[.pointer (some ⟨hb, 0, none⟩)] w fun e w' => e = .returned (.bool true) ∧ w = w' := by
  have c0 := h.c0
  clear h
  go_enter Try.func25, Try.ntmps25
  go_wp2
  go_ret
  exact ⟨rfl, rfl⟩
theorem made_nil (w : World) : Calls Try.prog 25 #[.pointer none] w fun e w' => e = .returned (.bool false) ∧ w = w' := by
  go_enter Try.func25, Try.ntmps25
  go_wp2
  go_ret
  exact ⟨rfl, rfl⟩
theorem made_zero {w : World} {hb : Nat} (c0 : w.cell? ⟨hb, 0, none⟩ = some (.pointer none)) : Calls Try.prog 25 #[.pointer (some ⟨hb, 0, none⟩)] w fun e w' => e = .returned (.bool false) ∧ w = w' := by
  go_enter Try.func25, Try.ntmps25
  go_wp2
  go_ret
  exact ⟨rfl, rfl⟩
theorem sending_any (m : M) (w : World) : Calls Try.prog 28 #[m.val] w fun e w' => e = .returned (sendV m.k.f m.u) ∧ Read w w' := by
  obtain ⟨⟨t, f, s⟩, tt, v, u, an⟩ := m
  simp only [M.val, sendV]
  go_enter Try.func28, Try.ntmps28
  go_wp2
  refine bodyPost_ret (v := .agg #[.int .i64 f, .int .i64 u]) (by simp [results, Try.results28, go_sem]) rfl ⟨rfl, ?_⟩
  exact Read.two _ _ _

theorem has_cells (k : K) : k.val = .agg #[.int .i64 k.t, .int .i64 k.f, .int .i64 k.s] := rfl
set_option maxHeartbeats 1000000 in
theorem has_any {w : World} {hb db mb : Nat} {T : List M} (h : CalRow w hb db mb) (hs : KeysAt w mb T) {f u : Int} (hf : (Lit.int .i64 f).wf = true) (hu : (Lit.int .i64 u).wf = true) :
    Calls Try.prog 27 #[.pointer (some ⟨hb, 0, none⟩), .agg #[.int .i64 f, .int .i64 u]] w fun e w' => e = .returned (.bool (hasS T f u)) ∧ Below w.heap.size w w' := by
  have mixed := mixed
  obtain ⟨W, hW⟩ : ∃ W, W = w.alloc (.cells #[.int .i64 f, .int .i64 u] 66) := ⟨_, rfl⟩
  have hbw : Hid (Below w.heap.size w W) := by rw [hW]; exact (Below.refl _ w).alloc (Nat.le_refl _) _
  have h1 : CalRow W hb db mb := (hbw.out.block hb h.lt).trans h
  have hs1 := hs.below' hbw.out
  have b0 : W.cell? ⟨w.heap.size, 0, none⟩ = some (.int .i64 f) := by rw [hW]; simp
  have b1 : W.cell? ⟨w.heap.size, 1, none⟩ = some (.int .i64 u) := by rw [hW]; simp
  have hwl : w.heap.size < W.heap.size := World.block_lt_of_cell? W _ b0
  obtain ⟨k, hk⟩ := KeysAt.look_ok T mb hf hu
  have hS : ∀ w', Below W.heap.size W w' → w'.cell? ⟨hb, 1, none⟩ = some (.map (some mb)) ∧ w'.cell? ⟨w.heap.size, 0, none⟩ = some (.int .i64 f) ∧ w'.cell? ⟨w.heap.size, 1, none⟩ = some (.int .i64 u) ∧
      (Instr.lookup 53 (.map (some mb)) (.agg #[.int .i64 f, .int .i64 u]) true).run Try.prog w' = .ok (.tuple #[.agg #[.int .i64 k.t, .int .i64 k.f, .int .i64 k.s], .bool (hasS T f u)]) w' := fun w' hb' =>
    ⟨(hb'.cell (p := ⟨hb, 1, none⟩) h1.lt).trans h1.c1, (hb'.cell (p := ⟨w.heap.size, 0, none⟩) hwl).trans b0, (hb'.cell (p := ⟨w.heap.size, 1, none⟩) hwl).trans b1, hk w' (hs1.below' hb')⟩
  have hBd : Below W.heap.size W W.drew := (Below.refl _ W).drew
  clear h hs h1 hs1 b0 b1 hwl hk hf hu
  generalize hasS T f u = r at hS ⊢
  go_enter Try.func27, Try.ntmps27
  go_upto_region 1 with (fail)
  rw [← hW]
  clear hW
  go_region_held3 (fun w' => w'.cell? ⟨hb, 1, none⟩ = some (.map (some mb)) ∧ w'.cell? ⟨w.heap.size, 0, none⟩ = some (.int .i64 f) ∧ w'.cell? ⟨w.heap.size, 1, none⟩ = some (.int .i64 u) ∧ (Instr.lookup 53 (.map (some mb)) (.agg #[.int .i64 f, .int .i64 u]) true).run Try.prog w' = .ok (.tuple #[.agg #[.int .i64 k.t, .int .i64 k.f, .int .i64 k.s], .bool r]) w')
    (first | exact hS _ hBd | exact hS _ (hBd.alloc (Nat.le_refl _) _) | exact hS _ (RowKit.Below.setCell (RowKit.Below.setCell (RowKit.Below.setCell (hBd.alloc (Nat.le_refl _) _) (by simp) _) (by simp) _) (by simp) _))
    (fail)
  all_goals
    clear hS
    go_wp2
    go_ret
    refine ⟨rfl, hbw.out.trans (Below.mono ?_ hbw.out.size)⟩
    first | exact RowKit.Below.setCell (RowKit.Below.setCell (RowKit.Below.setCell (hBd.alloc (Nat.le_refl _) _) (by simp) _) (by simp) _) (by simp) _ | exact hBd.alloc (Nat.le_refl _) _
theorem refusal_any {w : World} {hb db mb : Nat} {T : List M} (h : CalRow w hb db mb) (hs : KeysAt w mb T) : Calls Try.prog 33 #[.pointer (some ⟨hb, 0, none⟩)] w fun e w' => e = .returned (.int .i64 (if T = [] then 6 else 0)) ∧ w = w' := by
  have hmd := made_ok h
  have c1 := h.c1
  have hln := fun ty => hs.len ty
  clear h hs
  by_cases hT : T = []
  · rw [if_pos hT]
    subst hT
    simp only [List.length_nil] at hln
    go_enter Try.func33, Try.ntmps33
    go_wp2_with (first | (go_at_call 25; refine hmd.mono ?_; rintro e w' ⟨rfl, rfl⟩))
    go_ret
    exact ⟨rfl, rfl⟩
  · rw [if_neg hT]
    have hk : ¬ (T.length : Int) = 0 := by
      intro e
      exact hT (List.eq_nil_of_length_eq_zero (by omega))
    generalize T.length = k at *
    go_enter Try.func33, Try.ntmps33
    go_wp2_with (first | (go_at_call 25; refine hmd.mono ?_; rintro e w' ⟨rfl, rfl⟩))
    go_ret
    exact ⟨rfl, rfl⟩
theorem hLen_any {w : World} {hb : Nat} {S : Nat → Prop} {T : List M} (h : CalAt w hb S T) : Calls Try.prog 11 #[.pointer (some ⟨hb, 0, none⟩)] w fun e w' => e = .returned (.int .i64 T.length) ∧ w = w' := by
  obtain ⟨db, mb, W, lb, ov, ds, L, fv, h1, rfl, h3, h4⟩ := h
  have hmd := made_ok h1.row
  have c1 := h1.row.c1
  have hln := fun ty => h1.keys.len ty
  clear h1 h3 h4
  generalize (ds.flatMap L).length = k at *
  go_enter Try.func11, Try.ntmps11
  go_wp2_with (first | (go_at_call 25; refine hmd.mono ?_; rintro e w' ⟨rfl, rfl⟩))
  go_ret
  exact ⟨rfl, rfl⟩
set_option maxHeartbeats 1000000 in
theorem hAll_any {w : World} {hb : Nat} {S : Nat → Prop} {T : List M} (h : CalAt w hb S T) : Calls Try.prog 13 #[.pointer (some ⟨hb, 0, none⟩)] w fun e w' => ∃ (a' : Option Addr) (c' : Nat), e = .returned (.slice a' T.length c') ∧
    Hid (Msgs w' a' T.length c' T ∧ Below w.heap.size w w' ∧ FreshA w.heap.size T.length a') := by
  have mixed := mixed
  obtain ⟨db, mb, W, lb, ov, ds, L, fv, h1, rfl, h3, h4⟩ := h
  have hmd := made_ok h1.row
  have hbd : Below w.heap.size w w.drew := (Below.refl _ w).drew
  have h2 := h1.below hbd
  have c0 := h1.row.c0
  have c1 := h1.row.c1
  have d0 : w.drew.cell? ⟨hb, 0, none⟩ = some (.pointer (some ⟨db, 0, none⟩)) := h2.row.c0
  have d1 : w.drew.cell? ⟨hb, 1, none⟩ = some (.map (some mb)) := h2.row.c1
  have hln : ∀ w', Below w.drew.heap.size w.drew w' → (Builtin.len_ #[53] 3 #[.map (some mb)]).run Try.prog w' = .ok (.int .i64 (ds.flatMap L).length) w' := fun w' hb' => (h2.keys.below' hb').len _
  have hln0 := hln _ (Below.refl _ _)
  have hj := Lib.hid (joined_any h2.days)
  clear h1 h2 h3 h4
  generalize ds.flatMap L = T at *
  generalize T.length = k at *
  go_enter Try.func13, Try.ntmps13
  go_upto_region 3 with (first | (go_at_call 25; refine hmd.mono ?_; rintro e w' ⟨rfl, rfl⟩))
  go_region_held3 (fun w' => w'.cell? ⟨hb, 0, none⟩ = some (.pointer (some ⟨db, 0, none⟩)) ∧ w'.cell? ⟨hb, 1, none⟩ = some (.map (some mb)) ∧ (Builtin.len_ #[53] 3 #[.map (some mb)]).run Try.prog w' = .ok (.int .i64 k) w')
    (first | exact ⟨d0, d1, hln0⟩ | exact hc5)
    (first | (go_at_call 26; (with_reducible refine hj.out.mono ?_); rintro e w5 ⟨a', c', rfl, hM⟩; have hc5 := And.intro ((hM.out.2.1.cell (p := ⟨hb, 0, none⟩) (World.block_lt_of_cell? _ _ d0)).trans d0) (And.intro ((hM.out.2.1.cell (p := ⟨hb, 1, none⟩) (World.block_lt_of_cell? _ _ d1)).trans d1) (hln _ hM.out.2.1))))
  go_wp2
  go_ret
  exact ⟨a', c', rfl, hM.out.1, hbd.trans hM.out.2.1, hM.out.2.2⟩

/-- A queue that nobody made. -/
def NotMade (w : World) (q : Value) : Prop := q = .pointer none ∨ ∃ hb, q = .pointer (some ⟨hb, 0, none⟩) ∧ hb < w.heap.size ∧ w.cell? ⟨hb, 0, none⟩ = some (.pointer none)
theorem NotMade.below {w w' : World} {q : Value} (h : NotMade w q) (hb : Below w.heap.size w w') : NotMade w' q := by
  rcases h with rfl | ⟨b, rfl, h1, h2⟩
  · exact .inl rfl
  · exact .inr ⟨b, rfl, Nat.lt_of_lt_of_le h1 hb.size, (hb.cell (p := ⟨b, 0, none⟩) h1).trans h2⟩
theorem made_not {w : World} {q : Value} (h : NotMade w q) : Calls Try.prog 25 #[q] w fun e w' => e = .returned (.bool false) ∧ w = w' := by
  rcases h with rfl | ⟨b, rfl, _, h2⟩
  · exact made_nil w
  · exact made_zero h2
theorem refusal_not {w : World} {q : Value} (h : NotMade w q) : Calls Try.prog 33 #[q] w fun e w' => e = .returned (.int .i64 7) ∧ w = w' := by
  have hm := made_not h
  clear h
  go_enter Try.func33, Try.ntmps33
  go_wp2_with (go_at_call 25; refine hm.mono ?_; rintro e w' ⟨rfl, rfl⟩)
  go_ret
  exact ⟨rfl, rfl⟩
theorem hLen_not {w : World} {q : Value} (h : NotMade w q) : Calls Try.prog 11 #[q] w fun e w' => e = .returned (.int .i64 0) ∧ w = w' := by
  have hm := made_not h
  clear h
  go_enter Try.func11, Try.ntmps11
  go_wp2_with (go_at_call 25; refine hm.mono ?_; rintro e w' ⟨rfl, rfl⟩)
  go_ret
  exact ⟨rfl, rfl⟩
theorem hAll_not {w : World} {q : Value} (h : NotMade w q) : Calls Try.prog 13 #[q] w fun e w' => e = .returned (.slice none 0 0) ∧ w = w' := by
  have hm := made_not h
  clear h
  go_enter Try.func13, Try.ntmps13
  go_wp2_with (go_at_call 25; refine hm.mono ?_; rintro e w' ⟨rfl, rfl⟩)
  go_ret
  exact ⟨rfl, rfl⟩
theorem hPush_not {w : World} {q : Value} (h : NotMade w q) (m : M) : Calls Try.prog 15 #[q, m.val] w fun e w' => e = .returned (.int .i64 7) ∧ Below w.heap.size w w' := by
  have hm := fun o => made_not (h.below ((Below.refl _ w).alloc (Nat.le_refl _) o))
  clear h
  obtain ⟨⟨t, f, s⟩, tt, vv, u, an⟩ := m
  simp only [M.val]
  go_enter Try.func15, Try.ntmps15
  go_wp2_with (go_at_call 25; refine (hm _).mono ?_; rintro e w' ⟨rfl, rfl⟩)
  go_ret
  exact ⟨rfl, (Below.refl _ w).alloc (Nat.le_refl _) _⟩
set_option maxHeartbeats 1000000 in
theorem hFirst_not {w : World} {q : Value} (h : NotMade w q) : Calls Try.prog 19 #[q] w fun e w' => e = .returned (.tuple #[zeroM.val, .int .i64 7]) ∧ Below w.heap.size w w' := by
  have hm := fun o => refusal_not (h.below ((Below.refl _ w).alloc (Nat.le_refl _) o))
  clear h
  go_enter Try.func19, Try.ntmps19
  go_wp2_with (go_at_call 33; refine (hm _).mono ?_; rintro e w' ⟨rfl, rfl⟩)
  refine bodyPost_ret (v := .tuple #[.agg #[.int .i64 0, .int .i64 0, .int .i64 0, .int .i64 0, .int .i64 0, .int .i64 0, .bool false], .int .i64 7]) (by simp [results, Try.results19, go_sem]) rfl ⟨rfl, ?_⟩
  repeat (refine Below.setCell ?_ (by simp) _)
  exact (Below.refl _ w).alloc (Nat.le_refl _) _
set_option maxHeartbeats 1000000 in
theorem hPop_not {w : World} {q : Value} (h : NotMade w q) : Calls Try.prog 17 #[q] w fun e w' => e = .returned (.tuple #[zeroM.val, .int .i64 7]) ∧ Below w.heap.size w w' := by
  have hm := fun o => refusal_not (h.below ((Below.refl _ w).alloc (Nat.le_refl _) o))
  clear h
  go_enter Try.func17, Try.ntmps17
  go_wp2_with (go_at_call 33; refine (hm _).mono ?_; rintro e w' ⟨rfl, rfl⟩)
  refine bodyPost_ret (v := .tuple #[.agg #[.int .i64 0, .int .i64 0, .int .i64 0, .int .i64 0, .int .i64 0, .int .i64 0, .bool false], .int .i64 7]) (by simp [results, Try.results17, go_sem]) rfl ⟨rfl, ?_⟩
  repeat (refine Below.setCell ?_ (by simp) _)
  exact (Below.refl _ w).alloc (Nat.le_refl _) _
set_option maxHeartbeats 1000000 in
theorem hCut_not {w : World} {q : Value} (h : NotMade w q) (f u : Int) : Calls Try.prog 18 #[q, .int .i64 f, .int .i64 u] w fun e w' => e = .returned (.tuple #[zeroM.val, .int .i64 7]) ∧ Below w.heap.size w w' := by
  have hm : ∀ w', Below w.heap.size w w' → Calls Try.prog 25 #[q] w' fun e w'' => e = .returned (.bool false) ∧ w' = w'' := fun w' hb => made_not (h.below hb)
  have hq : ∃ a, q = .pointer a := by rcases h with rfl | ⟨b, rfl, _⟩ <;> exact ⟨_, rfl⟩
  clear h
  obtain ⟨a, rfl⟩ := hq
  go_enter Try.func18, Try.ntmps18
  go_upto_region 2 with (fail)
  have hb2 : Below w.heap.size w ((w.alloc (.cells #[.int .i64 0, .int .i64 0, .int .i64 0, .int .i64 0, .int .i64 0, .int .i64 0, .bool false] 34)).alloc (.cells #[.int .i64 f, .int .i64 u] 66)) := ((Below.refl _ w).alloc (Nat.le_refl _) _).alloc (by simp) _
  have hm1 := hm _ hb2
  have hb2' := Lib.hid hb2
  clear hm hb2
  go_wp2_with (go_at_call 25; refine hm1.mono ?_; rintro e w' ⟨rfl, rfl⟩)
  refine bodyPost_ret (v := .tuple #[.agg #[.int .i64 0, .int .i64 0, .int .i64 0, .int .i64 0, .int .i64 0, .int .i64 0, .bool false], .int .i64 7]) (by simp [results, Try.results18, go_sem]) rfl ⟨rfl, ?_⟩
  repeat (refine Below.setCell ?_ (by simp) _)
  exact hb2'.out
end Go.Proofs.Yticffeklmhcniaa
