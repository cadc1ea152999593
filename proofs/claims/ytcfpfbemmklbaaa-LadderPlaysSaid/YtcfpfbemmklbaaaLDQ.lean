/-
  A ladder: what it holds, in order; made, has, refusal, Len; a ladder that nobody made.
-/
import Derived.Test.YtcfpfbemmklbaaaLDY
import Derived.Test.YtcfpfbemmklbaaaLDH
import Derived.Deep.RegionHeld3
import Derived.StillTailTactics
namespace Go.Proofs.Ytcfpfbemmklbaaa
open Go.ChangeShapes Go.WideShapes Go.ChangeAt Go.Shelf Go.RowKit Go.Lib Go.Sort Go.Deep Go.Maps
set_option linter.unusedVariables false

/-- A ladder's two cells. -/
def LadRow (w : World) (hb rb mb : Nat) : Prop := w.heap[hb]? = some (.cells #[.pointer (some ⟨rb, 0, none⟩), .map (some mb)] 55 (0, 0))
theorem LadRow.c0 {w : World} {hb rb mb : Nat} (h : LadRow w hb rb mb) : w.cell? ⟨hb, 0, none⟩ = some (.pointer (some ⟨rb, 0, none⟩)) := by unfold LadRow at h; simp [World.cell?, h]
theorem LadRow.c1 {w : World} {hb rb mb : Nat} (h : LadRow w hb rb mb) : w.cell? ⟨hb, 1, none⟩ = some (.map (some mb)) := by unfold LadRow at h; simp [World.cell?, h]
theorem LadRow.lt {w : World} {hb rb mb : Nat} (h : LadRow w hb rb mb) : hb < w.heap.size := (Array.getElem?_eq_some_iff.1 h).1
/-- A ladder in memory. -/
structure LadOf (w : World) (hb rb mb : Nat) (most : Int) (bv av : Value) (B : List M) (us : List Up) (T : List M) : Prop where
  row : LadRow w hb rb mb
  rungs : RungsOf w rb most bv B av us
  stairs : Stairs B us
  same : (held B us).Perm T
  o : InOrder ltM T
  u : Unlike T
  fits : ∀ m ∈ T, m.fits
  small : T.length ≤ 16384
  most1 : 1 ≤ most
  keys : KeysAt w mb T
/-- The blocks that a ladder owns. -/
def LOwn (hb rb mb : Nat) (bv av : Value) (us : List Up) (k : Nat) : Prop := k = hb ∨ k = mb ∨ ROwn rb bv av us k
/-- A ladder that holds the messages of T, in their order; its blocks are among those of S. -/
def CalAt (w : World) (hb : Nat) (S : Nat → Prop) (T : List M) : Prop :=
  ∃ rb mb most bv av B us, LadOf w hb rb mb most bv av B us T ∧ (∀ k, LOwn hb rb mb bv av us k → S k) ∧ ∀ k, S k → k < w.heap.size
/-- What a step of a ladder turns. -/
def CStep (w w' : World) (S S' : Nat → Prop) : Prop := KeptOff S w w' ∧ ∀ k, S' k → S k ∨ w.heap.size ≤ k
section
variable {w w' : World} {hb rb mb : Nat} {most : Int} {bv av : Value} {B : List M} {us : List Up} {S S' : Nat → Prop} {T : List M}
theorem RungsOf.tags (h : RungsOf w rb most bv B av us) {k : Nat} (hk : ROwn rb bv av us k) : ∃ cur t, w.heap[k]? = some (.cells cur t (0, 0)) ∧ t ≠ 55 := by
  rcases hk with rfl | e | e | ⟨u, hu, e⟩
  · exact ⟨_, _, h.row, by decide⟩
  · obtain ⟨cur, h1⟩ := RowAt.tag h.bot e
    exact ⟨_, _, h1, by decide⟩
  · obtain ⟨cur, h1⟩ := RowAt.tag h.abv e
    exact ⟨_, _, h1, by decide⟩
  · obtain ⟨cur, h1⟩ := RowAt.tag (h.each u hu) e
    exact ⟨_, _, h1, by decide⟩
/-- Neither the ladder's own cells nor its keys are a block of its rungs. -/
theorem LadOf.off (h : LadOf w hb rb mb most bv av B us T) {k : Nat} (hk : ROwn rb bv av us k) : k ≠ hb ∧ k ≠ mb := by
  have hr := h.row
  unfold LadRow at hr
  obtain ⟨es, c, hm⟩ := h.keys.tag
  obtain ⟨cur, t, h1, ht⟩ := h.rungs.tags hk
  refine ⟨fun e => ?_, fun e => (by rw [e, hm] at h1; cases h1)⟩
  rw [e, hr] at h1
  injection h1 with h1
  injection h1 with _ h1 _
  exact ht h1.symm
theorem LadOf.hb_mb (h : LadOf w hb rb mb most bv av B us T) : hb ≠ mb := fun e => by
  have hr := h.row
  unfold LadRow at hr
  obtain ⟨es, c, hm⟩ := h.keys.tag
  rw [e, hm] at hr
  cases hr
theorem LadOf.own_lt (h : LadOf w hb rb mb most bv av B us T) {k : Nat} (hk : LOwn hb rb mb bv av us k) : k < w.heap.size := by
  rcases hk with rfl | rfl | hk
  · exact h.row.lt
  · exact h.keys.lt
  · exact h.rungs.own_lt hk
theorem LadOf.kept (h : LadOf w hb rb mb most bv av B us T) (hk : KeptOff S w w') (hn : ∀ k, LOwn hb rb mb bv av us k → ¬ S k) : LadOf w' hb rb mb most bv av B us T :=
  { h with row := (hk.block hb h.row.lt (hn hb (.inl rfl))).trans h.row, rungs := h.rungs.kept hk (fun k e => hn k (.inr (.inr e))), keys := h.keys.kept hk (hn mb (.inr (.inl rfl))) }
theorem LadOf.below (h : LadOf w hb rb mb most bv av B us T) (hb' : Below w.heap.size w w') : LadOf w' hb rb mb most bv av B us T := h.kept (S := fun _ => False) (.of_below hb') (fun _ _ e => e)
theorem LadOf.hlen (h : LadOf w hb rb mb most bv av B us T) : (held B us).length = T.length := h.same.length_eq
theorem LadOf.hU (h : LadOf w hb rb mb most bv av B us T) : Unlike (held B us) := h.u.perm h.same.symm
theorem CalAt.kept {X : Nat → Prop} (h : CalAt w hb S T) (hk : KeptOff X w w') (hn : ∀ k, S k → ¬ X k) : CalAt w' hb S T := by
  obtain ⟨rb, mb, most, bv, av, B, us, h1, h3, h4⟩ := h
  exact ⟨rb, mb, most, bv, av, B, us, h1.kept hk (fun k e => hn k (h3 k e)), h3, fun k e => Nat.lt_of_lt_of_le (h4 k e) hk.size⟩
theorem CalAt.below (h : CalAt w hb S T) (hb' : Below w.heap.size w w') : CalAt w' hb S T := h.kept (X := fun _ => False) (.of_below hb') (fun _ _ e => e)
theorem CalAt.lt (h : CalAt w hb S T) {k : Nat} (hk : S k) : k < w.heap.size := by obtain ⟨rb, mb, most, bv, av, B, us, h1, h3, h4⟩ := h; exact h4 k hk
theorem CalAt.own (h : CalAt w hb S T) : S hb := by obtain ⟨rb, mb, most, bv, av, B, us, h1, h3, h4⟩ := h; exact h3 hb (.inl rfl)
theorem CalAt.o (h : CalAt w hb S T) : InOrder ltM T := by obtain ⟨rb, mb, most, bv, av, B, us, h1, h3, h4⟩ := h; exact h1.o
theorem CalAt.u (h : CalAt w hb S T) : Unlike T := by obtain ⟨rb, mb, most, bv, av, B, us, h1, h3, h4⟩ := h; exact h1.u
theorem CalAt.fits (h : CalAt w hb S T) : ∀ m ∈ T, m.fits := by obtain ⟨rb, mb, most, bv, av, B, us, h1, h3, h4⟩ := h; exact h1.fits
theorem CalAt.small (h : CalAt w hb S T) : T.length ≤ 16384 := by obtain ⟨rb, mb, most, bv, av, B, us, h1, h3, h4⟩ := h; exact h1.small
theorem CStep.of_below (h : Below w.heap.size w w') : CStep w w' S S := ⟨.of_below h, fun _ h => .inl h⟩
theorem CStep.trans {S'' : Nat → Prop} {w'' : World} (h : CStep w w' S S') (h' : CStep w' w'' S' S'') : CStep w w'' S S'' :=
  ⟨h.1.then_new h'.1 (fun k hk e => (h.2 k e).resolve_right (by omega)), fun k hk => by
    rcases h'.2 k hk with e | e
    · exact h.2 k e
    · exact .inr (Nat.le_trans h.1.size e)⟩
end

theorem made_ok {w : World} {hb rb mb : Nat} (h : LadRow w hb rb mb) : Calls Try.prog 25 #[.pointer (some ⟨hb, 0, none⟩)] w fun e w' => e = .returned (.bool true) ∧ w = w' := by
  have c0 := h.c0
  clear h
  go_enter Try.func25, Try.ntmps25
  go_wp2
  go_ret
  exact ⟨rfl, rfl⟩
theorem made_nil (w : World) : Calls Try.prog 25 #[.pointer none] w fun e w' => e = .returned (.bool false) ∧ w = w' := by
  go_enter Try.func25, Try.ntmps25
  go_wp2
  go_ret
  exact ⟨rfl, rfl⟩
theorem made_zero {w : World} {hb : Nat} (c0 : w.cell? ⟨hb, 0, none⟩ = some (.pointer none)) : Calls Try.prog 25 #[.pointer (some ⟨hb, 0, none⟩)] w fun e w' => e = .returned (.bool false) ∧ w = w' := by
  go_enter Try.func25, Try.ntmps25
  go_wp2
  go_ret
  exact ⟨rfl, rfl⟩
theorem KeysAt.alloc {w : World} {mb : Nat} {T : List M} (h : KeysAt w mb T) (o : Obj) : KeysAt (w.alloc o) mb T := h.block (Below.heap_alloc w o mb h.lt)
set_option maxHeartbeats 1000000 in
theorem has_any {w : World} {hb rb mb : Nat} {T : List M} (h : LadRow w hb rb mb) (hs : KeysAt w mb T) {f u : Int} (hf : (Lit.int .i64 f).wf = true) (hu : (Lit.int .i64 u).wf = true) :
    Calls Try.prog 27 #[.pointer (some ⟨hb, 0, none⟩), .agg #[.int .i64 f, .int .i64 u]] w fun e w' => e = .returned (.bool (hasS T f u)) ∧ Read w w' := by
  have mixed := mixed
  obtain ⟨r, hr⟩ : ∃ r, hasS T f u = r := ⟨_, rfl⟩
  have hr' := Lib.hid hr
  rw [hr]
  clear hr
  have hs1 := Lib.hid (KeysAt.alloc hs (.cells #[.int .i64 f, .int .i64 u] 65))
  have h1 : Hid (LadRow (w.alloc (.cells #[.int .i64 f, .int .i64 u] 65)) hb rb mb) := (Below.heap_alloc w _ hb h.lt).trans h
  have b0 : (w.alloc (.cells #[.int .i64 f, .int .i64 u] 65)).cell? ⟨w.heap.size, 0, none⟩ = some (.int .i64 f) := by simp
  have b1 : (w.alloc (.cells #[.int .i64 f, .int .i64 u] 65)).cell? ⟨w.heap.size, 1, none⟩ = some (.int .i64 u) := by simp
  have hrd : Hid (Read w (w.alloc (.cells #[.int .i64 f, .int .i64 u] 65))) := Read.mk _ _
  clear h hs
  go_enter Try.func27, Try.ntmps27
  go_wp2_with fail
  generalize w.alloc (.cells #[.int .i64 f, .int .i64 u] 65) = W at hs1 h1 b0 b1 hrd ⊢
  have c1 := h1.out.c1
  have hsd : KeysAt W.drew mb T := hs1.out.block rfl
  have hl := KeysAt.look_ok hsd hf hu
  have hl2 := fun o => KeysAt.look_ok (KeysAt.alloc hsd o) hf hu
  rw [hr'.out] at hl
  simp only [hr'.out] at hl2
  clear hsd
  go_region_held3 (fun w' => w'.cell? ⟨hb, 1, none⟩ = some (.map (some mb)) ∧ w'.cell? ⟨w.heap.size, 0, none⟩ = some (.int .i64 f) ∧ w'.cell? ⟨w.heap.size, 1, none⟩ = some (.int .i64 u) ∧ (Instr.lookup 53 (.map (some mb)) (.agg #[.int .i64 f, .int .i64 u]) true).run Try.prog w' = .ok (.tuple #[.agg #[], .bool r]) w')
    (first | exact ⟨c1, b0, b1, hl⟩ | exact ⟨Lib.cell?_alloc_some _ c1, Lib.cell?_alloc_some _ b0, Lib.cell?_alloc_some _ b1, hl2 _⟩ | go_keep)
    (fail)
  all_goals
    clear c1 b0 b1 hl hl2
    go_wp2
    go_ret
    exact ⟨rfl, hrd.out.trans ((Read.drew W 1).trans (Read.mk _ _))⟩
theorem refusal_any {w : World} {hb rb mb : Nat} {T : List M} (h : LadRow w hb rb mb) (hs : KeysAt w mb T) : Calls Try.prog 33 #[.pointer (some ⟨hb, 0, none⟩)] w fun e w' => e = .returned (.int .i64 (if T = [] then 6 else 0)) ∧ w = w' := by
  have hmd := made_ok h
  have c1 := h.c1
  have hln := fun ty => hs.len ty
  clear h hs
  by_cases hT : T = []
  · rw [if_pos hT]
    subst hT
    simp only [List.length_nil] at hln
    go_enter Try.func33, Try.ntmps33
    go_wp2_with (first | (go_at_call 25; refine hmd.mono ?_; rintro e w' ⟨rfl, rfl⟩))
    go_ret
    exact ⟨rfl, rfl⟩
  · rw [if_neg hT]
    have hk : ¬ (T.length : Int) = 0 := by
      intro e
      exact hT (List.eq_nil_of_length_eq_zero (by omega))
    generalize T.length = k at *
    go_enter Try.func33, Try.ntmps33
    go_wp2_with (first | (go_at_call 25; refine hmd.mono ?_; rintro e w' ⟨rfl, rfl⟩))
    go_ret
    exact ⟨rfl, rfl⟩
theorem hLen_any {w : World} {hb : Nat} {S : Nat → Prop} {T : List M} (h : CalAt w hb S T) : Calls Try.prog 11 #[.pointer (some ⟨hb, 0, none⟩)] w fun e w' => e = .returned (.int .i64 T.length) ∧ w = w' := by
  obtain ⟨rb, mb, most, bv, av, B, us, h1, h3, h4⟩ := h
  have hmd := made_ok h1.row
  have c1 := h1.row.c1
  have hln := fun ty => h1.keys.len ty
  clear h1 h3 h4
  generalize T.length = k at *
  go_enter Try.func11, Try.ntmps11
  go_wp2_with (first | (go_at_call 25; refine hmd.mono ?_; rintro e w' ⟨rfl, rfl⟩))
  go_ret
  exact ⟨rfl, rfl⟩
/-- A queue that nobody made. -/
def NotMade (w : World) (q : Value) : Prop := q = .pointer none ∨ ∃ hb, q = .pointer (some ⟨hb, 0, none⟩) ∧ hb < w.heap.size ∧ w.cell? ⟨hb, 0, none⟩ = some (.pointer none)
theorem NotMade.below {w w' : World} {q : Value} (h : NotMade w q) (hb : Below w.heap.size w w') : NotMade w' q := by
  rcases h with rfl | ⟨b, rfl, h1, h2⟩
  · exact .inl rfl
  · exact .inr ⟨b, rfl, Nat.lt_of_lt_of_le h1 hb.size, (hb.cell (p := ⟨b, 0, none⟩) h1).trans h2⟩
theorem made_not {w : World} {q : Value} (h : NotMade w q) : Calls Try.prog 25 #[q] w fun e w' => e = .returned (.bool false) ∧ w = w' := by
  rcases h with rfl | ⟨b, rfl, _, h2⟩
  · exact made_nil w
  · exact made_zero h2
theorem refusal_not {w : World} {q : Value} (h : NotMade w q) : Calls Try.prog 33 #[q] w fun e w' => e = .returned (.int .i64 7) ∧ w = w' := by
  have hm := made_not h
  clear h
  go_enter Try.func33, Try.ntmps33
  go_wp2_with (go_at_call 25; refine hm.mono ?_; rintro e w' ⟨rfl, rfl⟩)
  go_ret
  exact ⟨rfl, rfl⟩
theorem hLen_not {w : World} {q : Value} (h : NotMade w q) : Calls Try.prog 11 #[q] w fun e w' => e = .returned (.int .i64 0) ∧ w = w' := by
  have hm := made_not h
  clear h
  go_enter Try.func11, Try.ntmps11
  go_wp2_with (go_at_call 25; refine hm.mono ?_; rintro e w' ⟨rfl, rfl⟩)
  go_ret
  exact ⟨rfl, rfl⟩
theorem hAll_not {w : World} {q : Value} (h : NotMade w q) : Calls Try.prog 13 #[q] w fun e w' => e = .returned (.slice none 0 0) ∧ w = w' := by
  have hm := made_not h
  clear h
  go_enter Try.func13, Try.ntmps13
  go_wp2_with (go_at_call 25; refine hm.mono ?_; rintro e w' ⟨rfl, rfl⟩)
  go_ret
  exact ⟨rfl, rfl⟩
theorem hPush_not {w : World} {q : Value} (h : NotMade w q) (m : M) : Calls Try.prog 15 #[q, m.val] w fun e w' => e = .returned (.int .i64 7) ∧ Below w.heap.size w w' := by
  have hm := fun o => made_not (h.below ((Below.refl _ w).alloc (Nat.le_refl _) o))
  clear h
  obtain ⟨⟨t, f, s⟩, tt, vv, u, an⟩ := m
  simp only [M.val]
  go_enter Try.func15, Try.ntmps15
  go_wp2_with (go_at_call 25; refine (hm _).mono ?_; rintro e w' ⟨rfl, rfl⟩)
  go_ret
  exact ⟨rfl, (Below.refl _ w).alloc (Nat.le_refl _) _⟩
set_option maxHeartbeats 1000000 in
theorem hFirst_not {w : World} {q : Value} (h : NotMade w q) : Calls Try.prog 19 #[q] w fun e w' => e = .returned (.tuple #[zeroM.val, .int .i64 7]) ∧ Below w.heap.size w w' := by
  have hm := fun o => refusal_not (h.below ((Below.refl _ w).alloc (Nat.le_refl _) o))
  clear h
  go_enter Try.func19, Try.ntmps19
  go_wp2_with (go_at_call 33; refine (hm _).mono ?_; rintro e w' ⟨rfl, rfl⟩)
  refine bodyPost_ret (v := .tuple #[.agg #[.int .i64 0, .int .i64 0, .int .i64 0, .int .i64 0, .int .i64 0, .int .i64 0, .bool false], .int .i64 7]) (by simp [results, Try.results19, go_sem]) rfl ⟨rfl, ?_⟩
  repeat (refine Below.setCell ?_ (by simp) _)
  exact (Below.refl _ w).alloc (Nat.le_refl _) _
set_option maxHeartbeats 1000000 in
theorem hPop_not {w : World} {q : Value} (h : NotMade w q) : Calls Try.prog 17 #[q] w fun e w' => e = .returned (.tuple #[zeroM.val, .int .i64 7]) ∧ Below w.heap.size w w' := by
  have hm := fun o => refusal_not (h.below ((Below.refl _ w).alloc (Nat.le_refl _) o))
  clear h
  go_enter Try.func17, Try.ntmps17
  go_wp2_with (go_at_call 33; refine (hm _).mono ?_; rintro e w' ⟨rfl, rfl⟩)
  refine bodyPost_ret (v := .tuple #[.agg #[.int .i64 0, .int .i64 0, .int .i64 0, .int .i64 0, .int .i64 0, .int .i64 0, .bool false], .int .i64 7]) (by simp [results, Try.results17, go_sem]) rfl ⟨rfl, ?_⟩
  repeat (refine Below.setCell ?_ (by simp) _)
  exact (Below.refl _ w).alloc (Nat.le_refl _) _
set_option maxHeartbeats 1000000 in
theorem hCut_not {w : World} {q : Value} (h : NotMade w q) (f u : Int) : Calls Try.prog 18 #[q, .int .i64 f, .int .i64 u] w fun e w' => e = .returned (.tuple #[zeroM.val, .int .i64 7]) ∧ Below w.heap.size w w' := by
  have hm : ∀ w', Below w.heap.size w w' → Calls Try.prog 25 #[q] w' fun e w'' => e = .returned (.bool false) ∧ w' = w'' := fun w' hb => made_not (h.below hb)
  have hq : ∃ a, q = .pointer a := by rcases h with rfl | ⟨b, rfl, _⟩ <;> exact ⟨_, rfl⟩
  clear h
  obtain ⟨a, rfl⟩ := hq
  go_enter Try.func18, Try.ntmps18
  go_upto_region 2 with (fail)
  have hb2 : Below w.heap.size w ((w.alloc (.cells #[.int .i64 0, .int .i64 0, .int .i64 0, .int .i64 0, .int .i64 0, .int .i64 0, .bool false] 34)).alloc (.cells #[.int .i64 f, .int .i64 u] 65)) := ((Below.refl _ w).alloc (Nat.le_refl _) _).alloc (by simp) _
  have hm1 := hm _ hb2
  have hb2' := Lib.hid hb2
  clear hm hb2
  go_wp2_with (go_at_call 25; refine hm1.mono ?_; rintro e w' ⟨rfl, rfl⟩)
  refine bodyPost_ret (v := .tuple #[.agg #[.int .i64 0, .int .i64 0, .int .i64 0, .int .i64 0, .int .i64 0, .int .i64 0, .bool false], .int .i64 7]) (by simp [results, Try.results18, go_sem]) rfl ⟨rfl, ?_⟩
  repeat (refine Below.setCell ?_ (by simp) _)
  exact hb2'.out
end Go.Proofs.Ytcfpfbemmklbaaa
