/-
  A ladder: what it holds, in order; made, has, refusal, Len; a ladder that nobody made.
  A ladder: New, forget, First, Pop.
  A ladder: First, Pop.
-/
import Derived.Test.YtjlbkdghlijoeaaGreatLDY
import Derived.Test.YtjlbkdghlijoeaaGreatYH
import Derived.Deep.RegionHeld3
import Derived.StillTailTactics
namespace Go.Proofs.YtjlbkdghlijoeaaGreat
open Go.ChangeShapes Go.WideShapes Go.ChangeAt Go.Shelf Go.RowKit Go.Lib Go.Sort Go.Deep Go.Maps
set_option linter.unusedVariables false

/-- A ladder's two cells. -/
def LadRow (w : World) (hb rb mb : Nat) : Prop := w.heap[hb]? = some (.cells #[.pointer (some ⟨rb, 0, none⟩), .map (some mb)] 96 (0, 0))
theorem LadRow.c0 {w : World} {hb rb mb : Nat} (h : LadRow w hb rb mb) : w.cell? ⟨hb, 0, none⟩ = some (.pointer (some ⟨rb, 0, none⟩)) := by unfold LadRow at h; simp [World.cell?, h]
theorem LadRow.c1 {w : World} {hb rb mb : Nat} (h : LadRow w hb rb mb) : w.cell? ⟨hb, 1, none⟩ = some (.map (some mb)) := by unfold LadRow at h; simp [World.cell?, h]
theorem LadRow.lt {w : World} {hb rb mb : Nat} (h : LadRow w hb rb mb) : hb < w.heap.size := (Array.getElem?_eq_some_iff.1 h).1
/-- A ladder in memory. -/
structure LadOf (w : World) (hb rb mb : Nat) (most : Int) (bv av : Value) (B : List M) (us : List Up) (T : List M) : Prop where
  row : LadRow w hb rb mb
  rungs : RungsOf w rb most bv B av us
  stairs : Stairs B us
  same : (held B us).Perm T
  o : InOrder ltM T
  u : Unlike T
  fits : ∀ m ∈ T, m.fits
  small : T.length ≤ 16384
  most1 : 1 ≤ most
  keys : KeysAt w mb T
/-- The blocks that a ladder owns. -/
def LOwn (hb rb mb : Nat) (bv av : Value) (us : List Up) (k : Nat) : Prop := k = hb ∨ k = mb ∨ ROwn rb bv av us k
/-- A ladder that holds the messages of T, in their order; its blocks are among those of S. -/
def CalAt (w : World) (hb : Nat) (S : Nat → Prop) (T : List M) : Prop :=
  ∃ rb mb most bv av B us, LadOf w hb rb mb most bv av B us T ∧ (∀ k, LOwn hb rb mb bv av us k → S k) ∧ ∀ k, S k → k < w.heap.size
/-- What a step of a ladder turns. -/
def CStep (w w' : World) (S S' : Nat → Prop) : Prop := KeptOff S w w' ∧ ∀ k, S' k → S k ∨ w.heap.size ≤ k
section
variable {w w' : World} {hb rb mb : Nat} {most : Int} {bv av : Value} {B : List M} {us : List Up} {S S' : Nat → Prop} {T : List M}
theorem RungsOf.tags (h : RungsOf w rb most bv B av us) {k : Nat} (hk : ROwn rb bv av us k) : ∃ cur t, w.heap[k]? = some (.cells cur t (0, 0)) ∧ t ≠ 96 := by
  rcases hk with rfl | e | e | ⟨u, hu, e⟩
  · exact ⟨_, _, h.row, by decide⟩
  · obtain ⟨cur, h1⟩ := RowAt.tag h.bot e
    exact ⟨_, _, h1, by decide⟩
  · obtain ⟨cur, h1⟩ := RowAt.tag h.abv e
    exact ⟨_, _, h1, by decide⟩
  · obtain ⟨cur, h1⟩ := RowAt.tag (h.each u hu) e
    exact ⟨_, _, h1, by decide⟩
/-- Neither the ladder's own cells nor its keys are a block of its rungs. -/
theorem LadOf.off (h : LadOf w hb rb mb most bv av B us T) {k : Nat} (hk : ROwn rb bv av us k) : k ≠ hb ∧ k ≠ mb := by
  have hr := h.row
  unfold LadRow at hr
  obtain ⟨es, c, hm⟩ := h.keys.tag
  obtain ⟨cur, t, h1, ht⟩ := h.rungs.tags hk
  refine ⟨fun e => ?_, fun e => (by rw [e, hm] at h1; cases h1)⟩
  rw [e, hr] at h1
  injection h1 with h1
  injection h1 with _ h1 _
  exact ht h1.symm
theorem LadOf.hb_mb (h : LadOf w hb rb mb most bv av B us T) : hb ≠ mb := fun e => by
  have hr := h.row
  unfold LadRow at hr
  obtain ⟨es, c, hm⟩ := h.keys.tag
  rw [e, hm] at hr
  cases hr
theorem LadOf.own_lt (h : LadOf w hb rb mb most bv av B us T) {k : Nat} (hk : LOwn hb rb mb bv av us k) : k < w.heap.size := by
  rcases hk with rfl | rfl | hk
  · exact h.row.lt
  · exact h.keys.lt
  · exact h.rungs.own_lt hk
theorem LadOf.kept (h : LadOf w hb rb mb most bv av B us T) (hk : KeptOff S w w') (hn : ∀ k, LOwn hb rb mb bv av us k → ¬ S k) : LadOf w' hb rb mb most bv av B us T :=
  { h with row := (hk.block hb h.row.lt (hn hb (.inl rfl))).trans h.row, rungs := h.rungs.kept hk (fun k e => hn k (.inr (.inr e))), keys := h.keys.kept hk (hn mb (.inr (.inl rfl))) }
theorem LadOf.below (h : LadOf w hb rb mb most bv av B us T) (hb' : Below w.heap.size w w') : LadOf w' hb rb mb most bv av B us T := h.kept (S := fun _ => False) (.of_below hb') (fun _ _ e => e)
theorem LadOf.hlen (h : LadOf w hb rb mb most bv av B us T) : (held B us).length = T.length := h.same.length_eq
theorem LadOf.hU (h : LadOf w hb rb mb most bv av B us T) : Unlike (held B us) := h.u.perm h.same.symm
theorem CalAt.kept {X : Nat → Prop} (h : CalAt w hb S T) (hk : KeptOff X w w') (hn : ∀ k, S k → ¬ X k) : CalAt w' hb S T := by
  obtain ⟨rb, mb, most, bv, av, B, us, h1, h3, h4⟩ := h
  exact ⟨rb, mb, most, bv, av, B, us, h1.kept hk (fun k e => hn k (h3 k e)), h3, fun k e => Nat.lt_of_lt_of_le (h4 k e) hk.size⟩
theorem CalAt.below (h : CalAt w hb S T) (hb' : Below w.heap.size w w') : CalAt w' hb S T := h.kept (X := fun _ => False) (.of_below hb') (fun _ _ e => e)
theorem CalAt.lt (h : CalAt w hb S T) {k : Nat} (hk : S k) : k < w.heap.size := by obtain ⟨rb, mb, most, bv, av, B, us, h1, h3, h4⟩ := h; exact h4 k hk
theorem CalAt.own (h : CalAt w hb S T) : S hb := by obtain ⟨rb, mb, most, bv, av, B, us, h1, h3, h4⟩ := h; exact h3 hb (.inl rfl)
theorem CalAt.o (h : CalAt w hb S T) : InOrder ltM T := by obtain ⟨rb, mb, most, bv, av, B, us, h1, h3, h4⟩ := h; exact h1.o
theorem CalAt.u (h : CalAt w hb S T) : Unlike T := by obtain ⟨rb, mb, most, bv, av, B, us, h1, h3, h4⟩ := h; exact h1.u
theorem CalAt.fits (h : CalAt w hb S T) : ∀ m ∈ T, m.fits := by obtain ⟨rb, mb, most, bv, av, B, us, h1, h3, h4⟩ := h; exact h1.fits
theorem CalAt.small (h : CalAt w hb S T) : T.length ≤ 16384 := by obtain ⟨rb, mb, most, bv, av, B, us, h1, h3, h4⟩ := h; exact h1.small
theorem CStep.of_below (h : Below w.heap.size w w') : CStep w w' S S := ⟨.of_below h, fun _ h => .inl h⟩
theorem CStep.trans {S'' : Nat → Prop} {w'' : World} (h : CStep w w' S S') (h' : CStep w' w'' S' S'') : CStep w w'' S S'' :=
  ⟨h.1.then_new h'.1 (fun k hk e => (h.2 k e).resolve_right (by omega)), fun k hk => by
    rcases h'.2 k hk with e | e
    · exact h.2 k e
    · exact .inr (Nat.le_trans h.1.size e)⟩
end

theorem made_ok {w : World} {hb rb mb : Nat} (h : LadRow w hb rb mb) : Calls Tryz.prog 120 #[.pointer (some ⟨hb, 0, none⟩)] w fun e w' => e = .returned (.bool true) ∧ w = w' := by
  have c0 := h.c0
  clear h
  go_enter Tryz.func120, Tryz.ntmps120
  go_wp2
  go_ret
  exact ⟨rfl, rfl⟩
theorem made_nil (w : World) : Calls Tryz.prog 120 #[.pointer none] w fun e w' => e = .returned (.bool false) ∧ w = w' := by
  go_enter Tryz.func120, Tryz.ntmps120
  go_wp2
  go_ret
  exact ⟨rfl, rfl⟩
theorem made_zero {w : World} {hb : Nat} (c0 : w.cell? ⟨hb, 0, none⟩ = some (.pointer none)) : Calls Tryz.prog 120 #[.pointer (some ⟨hb, 0, none⟩)] w fun e w' => e = .returned (.bool false) ∧ w = w' := by
  go_enter Tryz.func120, Tryz.ntmps120
  go_wp2
  go_ret
  exact ⟨rfl, rfl⟩
theorem KeysAt.alloc {w : World} {mb : Nat} {T : List M} (h : KeysAt w mb T) (o : Obj) : KeysAt (w.alloc o) mb T := h.block (Below.heap_alloc w o mb h.lt)
set_option maxHeartbeats 1000000 in
theorem has_any {w : World} {hb rb mb : Nat} {T : List M} (h : LadRow w hb rb mb) (hs : KeysAt w mb T) {f u : Int} (hf : (Lit.int .i64 f).wf = true) (hu : (Lit.int .i64 u).wf = true) :
    Calls Tryz.prog 122 #[.pointer (some ⟨hb, 0, none⟩), .agg #[.int .i64 f, .int .i64 u]] w fun e w' => e = .returned (.bool (hasS T f u)) ∧ Read w w' := by
  have mixed := mixed
  obtain ⟨r, hr⟩ : ∃ r, hasS T f u = r := ⟨_, rfl⟩
  have hr' := Lib.hid hr
  rw [hr]
  clear hr
  have hs1 := Lib.hid (KeysAt.alloc hs (.cells #[.int .i64 f, .int .i64 u] 169))
  have h1 : Hid (LadRow (w.alloc (.cells #[.int .i64 f, .int .i64 u] 169)) hb rb mb) := (Below.heap_alloc w _ hb h.lt).trans h
  have b0 : (w.alloc (.cells #[.int .i64 f, .int .i64 u] 169)).cell? ⟨w.heap.size, 0, none⟩ = some (.int .i64 f) := by simp
  have b1 : (w.alloc (.cells #[.int .i64 f, .int .i64 u] 169)).cell? ⟨w.heap.size, 1, none⟩ = some (.int .i64 u) := by simp
  have hrd : Hid (Read w (w.alloc (.cells #[.int .i64 f, .int .i64 u] 169))) := Read.mk _ _
  clear h hs
  go_enter Tryz.func122, Tryz.ntmps122
  go_wp2_with fail
  generalize w.alloc (.cells #[.int .i64 f, .int .i64 u] 169) = W at hs1 h1 b0 b1 hrd ⊢
  have c1 := h1.out.c1
  have hsd : KeysAt W.drew mb T := hs1.out.block rfl
  have hl := KeysAt.look_ok hsd hf hu
  have hl2 := fun o => KeysAt.look_ok (KeysAt.alloc hsd o) hf hu
  rw [hr'.out] at hl
  simp only [hr'.out] at hl2
  clear hsd
  go_region_held3 (fun w' => w'.cell? ⟨hb, 1, none⟩ = some (.map (some mb)) ∧ w'.cell? ⟨w.heap.size, 0, none⟩ = some (.int .i64 f) ∧ w'.cell? ⟨w.heap.size, 1, none⟩ = some (.int .i64 u) ∧ (Instr.lookup 94 (.map (some mb)) (.agg #[.int .i64 f, .int .i64 u]) true).run Tryz.prog w' = .ok (.tuple #[.agg #[], .bool r]) w')
    (first | exact ⟨c1, b0, b1, hl⟩ | exact ⟨Lib.cell?_alloc_some _ c1, Lib.cell?_alloc_some _ b0, Lib.cell?_alloc_some _ b1, hl2 _⟩ | go_keep)
    (fail)
  all_goals
    clear c1 b0 b1 hl hl2
    go_wp2
    go_ret
    exact ⟨rfl, hrd.out.trans ((Read.drew W 1).trans (Read.mk _ _))⟩
theorem refusal_any {w : World} {hb rb mb : Nat} {T : List M} (h : LadRow w hb rb mb) (hs : KeysAt w mb T) : Calls Tryz.prog 125 #[.pointer (some ⟨hb, 0, none⟩)] w fun e w' => e = .returned (.int .i64 (if T = [] then 6 else 0)) ∧ w = w' := by
  have hmd := made_ok h
  have c1 := h.c1
  have hln := fun ty => hs.len ty
  clear h hs
  by_cases hT : T = []
  · rw [if_pos hT]
    subst hT
    simp only [List.length_nil] at hln
    go_enter Tryz.func125, Tryz.ntmps125
    go_wp2_with (first | (go_at_call 120; refine hmd.mono ?_; rintro e w' ⟨rfl, rfl⟩))
    go_ret
    exact ⟨rfl, rfl⟩
  · rw [if_neg hT]
    have hk : ¬ (T.length : Int) = 0 := by
      intro e
      exact hT (List.eq_nil_of_length_eq_zero (by omega))
    generalize T.length = k at *
    go_enter Tryz.func125, Tryz.ntmps125
    go_wp2_with (first | (go_at_call 120; refine hmd.mono ?_; rintro e w' ⟨rfl, rfl⟩))
    go_ret
    exact ⟨rfl, rfl⟩
theorem hLen_any {w : World} {hb : Nat} {S : Nat → Prop} {T : List M} (h : CalAt w hb S T) : Calls Tryz.prog 116 #[.pointer (some ⟨hb, 0, none⟩)] w fun e w' => e = .returned (.int .i64 T.length) ∧ w = w' := by
  obtain ⟨rb, mb, most, bv, av, B, us, h1, h3, h4⟩ := h
  have hmd := made_ok h1.row
  have c1 := h1.row.c1
  have hln := fun ty => h1.keys.len ty
  clear h1 h3 h4
  generalize T.length = k at *
  go_enter Tryz.func116, Tryz.ntmps116
  go_wp2_with (first | (go_at_call 120; refine hmd.mono ?_; rintro e w' ⟨rfl, rfl⟩))
  go_ret
  exact ⟨rfl, rfl⟩
/-- A queue that nobody made. -/
def NotMade (w : World) (q : Value) : Prop := q = .pointer none ∨ ∃ hb, q = .pointer (some ⟨hb, 0, none⟩) ∧ hb < w.heap.size ∧ w.cell? ⟨hb, 0, none⟩ = some (.pointer none)
theorem NotMade.below {w w' : World} {q : Value} (h : NotMade w q) (hb : Below w.heap.size w w') : NotMade w' q := by
  rcases h with rfl | ⟨b, rfl, h1, h2⟩
  · exact .inl rfl
  · exact .inr ⟨b, rfl, Nat.lt_of_lt_of_le h1 hb.size, (hb.cell (p := ⟨b, 0, none⟩) h1).trans h2⟩
theorem made_not {w : World} {q : Value} (h : NotMade w q) : Calls Tryz.prog 120 #[q] w fun e w' => e = .returned (.bool false) ∧ w = w' := by
  rcases h with rfl | ⟨b, rfl, _, h2⟩
  · exact made_nil w
  · exact made_zero h2
theorem refusal_not {w : World} {q : Value} (h : NotMade w q) : Calls Tryz.prog 125 #[q] w fun e w' => e = .returned (.int .i64 7) ∧ w = w' := by
  have hm := made_not h
  clear h
  go_enter Tryz.func125, Tryz.ntmps125
  go_wp2_with (go_at_call 120; refine hm.mono ?_; rintro e w' ⟨rfl, rfl⟩)
  go_ret
  exact ⟨rfl, rfl⟩
theorem hLen_not {w : World} {q : Value} (h : NotMade w q) : Calls Tryz.prog 116 #[q] w fun e w' => e = .returned (.int .i64 0) ∧ w = w' := by
  have hm := made_not h
  clear h
  go_enter Tryz.func116, Tryz.ntmps116
  go_wp2_with (go_at_call 120; refine hm.mono ?_; rintro e w' ⟨rfl, rfl⟩)
  go_ret
  exact ⟨rfl, rfl⟩
theorem hAll_not {w : World} {q : Value} (h : NotMade w q) : Calls Tryz.prog 113 #[q] w fun e w' => e = .returned (.slice none 0 0) ∧ w = w' := by
  have hm := made_not h
  clear h
  go_enter Tryz.func113, Tryz.ntmps113
  go_wp2_with (go_at_call 120; refine hm.mono ?_; rintro e w' ⟨rfl, rfl⟩)
  go_ret
  exact ⟨rfl, rfl⟩
theorem hPush_not {w : World} {q : Value} (h : NotMade w q) (m : M) : Calls Tryz.prog 118 #[q, m.val] w fun e w' => e = .returned (.int .i64 7) ∧ Below w.heap.size w w' := by
  have hm := fun o => made_not (h.below ((Below.refl _ w).alloc (Nat.le_refl _) o))
  clear h
  obtain ⟨⟨t, f, s⟩, tt, vv, u, an⟩ := m
  simp only [M.val]
  go_enter Tryz.func118, Tryz.ntmps118
  go_wp2_with (go_at_call 120; refine (hm _).mono ?_; rintro e w' ⟨rfl, rfl⟩)
  go_ret
  exact ⟨rfl, (Below.refl _ w).alloc (Nat.le_refl _) _⟩
set_option maxHeartbeats 1000000 in
theorem hFirst_not {w : World} {q : Value} (h : NotMade w q) : Calls Tryz.prog 115 #[q] w fun e w' => e = .returned (.tuple #[zeroM.val, .int .i64 7]) ∧ Below w.heap.size w w' := by
  have hm := fun o => refusal_not (h.below ((Below.refl _ w).alloc (Nat.le_refl _) o))
  clear h
  go_enter Tryz.func115, Tryz.ntmps115
  go_wp2_with (go_at_call 125; refine (hm _).mono ?_; rintro e w' ⟨rfl, rfl⟩)
  refine bodyPost_ret (v := .tuple #[.agg #[.int .i64 0, .int .i64 0, .int .i64 0, .int .i64 0, .int .i64 0, .int .i64 0, .bool false], .int .i64 7]) (by simp [results, Tryz.results115, go_sem]) rfl ⟨rfl, ?_⟩
  repeat (refine Below.setCell ?_ (by simp) _)
  exact (Below.refl _ w).alloc (Nat.le_refl _) _
set_option maxHeartbeats 1000000 in
theorem hPop_not {w : World} {q : Value} (h : NotMade w q) : Calls Tryz.prog 117 #[q] w fun e w' => e = .returned (.tuple #[zeroM.val, .int .i64 7]) ∧ Below w.heap.size w w' := by
  have hm := fun o => refusal_not (h.below ((Below.refl _ w).alloc (Nat.le_refl _) o))
  clear h
  go_enter Tryz.func117, Tryz.ntmps117
  go_wp2_with (go_at_call 125; refine (hm _).mono ?_; rintro e w' ⟨rfl, rfl⟩)
  refine bodyPost_ret (v := .tuple #[.agg #[.int .i64 0, .int .i64 0, .int .i64 0, .int .i64 0, .int .i64 0, .int .i64 0, .bool false], .int .i64 7]) (by simp [results, Tryz.results117, go_sem]) rfl ⟨rfl, ?_⟩
  repeat (refine Below.setCell ?_ (by simp) _)
  exact (Below.refl _ w).alloc (Nat.le_refl _) _
set_option maxHeartbeats 1000000 in
theorem hCut_not {w : World} {q : Value} (h : NotMade w q) (f u : Int) : Calls Tryz.prog 114 #[q, .int .i64 f, .int .i64 u] w fun e w' => e = .returned (.tuple #[zeroM.val, .int .i64 7]) ∧ Below w.heap.size w w' := by
  have hm : ∀ w', Below w.heap.size w w' → Calls Tryz.prog 120 #[q] w' fun e w'' => e = .returned (.bool false) ∧ w' = w'' := fun w' hb => made_not (h.below hb)
  have hq : ∃ a, q = .pointer a := by rcases h with rfl | ⟨b, rfl, _⟩ <;> exact ⟨_, rfl⟩
  clear h
  obtain ⟨a, rfl⟩ := hq
  go_enter Tryz.func114, Tryz.ntmps114
  go_upto_region 2 with (fail)
  have hb2 : Below w.heap.size w ((w.alloc (.cells #[.int .i64 0, .int .i64 0, .int .i64 0, .int .i64 0, .int .i64 0, .int .i64 0, .bool false] 34)).alloc (.cells #[.int .i64 f, .int .i64 u] 169)) := ((Below.refl _ w).alloc (Nat.le_refl _) _).alloc (by simp) _
  have hm1 := hm _ hb2
  have hb2' := Lib.hid hb2
  clear hm hb2
  go_wp2_with (go_at_call 120; refine hm1.mono ?_; rintro e w' ⟨rfl, rfl⟩)
  refine bodyPost_ret (v := .tuple #[.agg #[.int .i64 0, .int .i64 0, .int .i64 0, .int .i64 0, .int .i64 0, .int .i64 0, .bool false], .int .i64 7]) (by simp [results, Tryz.results114, go_sem]) rfl ⟨rfl, ?_⟩
  repeat (refine Below.setCell ?_ (by simp) _)
  exact hb2'.out
end Go.Proofs.YtjlbkdghlijoeaaGreat
namespace Go.Proofs.YtjlbkdghlijoeaaGreat
open Go.ChangeShapes Go.WideShapes Go.ChangeAt Go.Shelf Go.RowKit Go.Lib Go.Sort Go.Deep Go.Maps
set_option linter.unusedVariables false

/-- The blocks of a new ladder. -/
def newS (w : World) : Nat → Prop := fun k => w.heap.size ≤ k ∧ k < w.heap.size + 3
theorem newRungs_any (w : World) (most : Int) : Calls Tryz.prog 36 #[.int .i64 most] w fun e w' => e = .returned (.pointer (some ⟨w.heap.size, 0, none⟩)) ∧ w' = w.alloc (.cells #[.slice none 0 0, .int .i64 most, .slice none 0 0] 108) := by
  go_enter Tryz.func36, Tryz.ntmps36
  go_wp2
  go_ret
  exact ⟨rfl, rfl⟩
set_option maxHeartbeats 1000000 in
theorem hNew_any (w : World) {W : Int} (hW : 1 ≤ W ∧ W ≤ 16384) (hwf : (Lit.int .i64 W).wf = true) : Calls Tryz.prog 31 #[.int .i64 W] w fun e w' => e = .returned (.tuple #[.pointer (some ⟨w.heap.size + 2, 0, none⟩), .int .i64 0]) ∧ Hid (CalAt w' (w.heap.size + 2) (newS w) [] ∧ Below w.heap.size w w') := by
  have hmm := @run_makeMap Tryz.prog
  have hW1 : ¬ W < 1 := by omega
  have hW2 : ¬ 16384 < W := by omega
  obtain ⟨b, hb⟩ : ∃ b, b = w.heap.size := ⟨_, rfl⟩
  obtain ⟨w1, h1⟩ : ∃ w1, w1 = w.alloc (.cells #[.slice none 0 0, .int .i64 W, .slice none 0 0] 108) := ⟨_, rfl⟩
  have z1 : w1.heap.size = b + 1 := by rw [h1, hb]; simp
  obtain ⟨w2, h2⟩ : ∃ w2, w2 = w1.alloc (.map #[] 0) := ⟨_, rfl⟩
  have z2 : w2.heap.size = b + 2 := by rw [h2]; simp [z1]
  obtain ⟨w3, h3⟩ : ∃ w3, w3 = w2.alloc (.cells #[.pointer (some ⟨b, 0, none⟩), .map (some (b + 1))] 96) := ⟨_, rfl⟩
  have z3 : w3.heap.size = b + 3 := by rw [h3]; simp [z2]
  have hB : Below w.heap.size w w3 := by
    rw [h3, h2, h1]
    exact (((Below.refl _ w).alloc (Nat.le_refl _) _).alloc (by simp) _).alloc (by simp; omega) _
  have b13 : Below w1.heap.size w1 w3 := by rw [h3, h2]; exact ((Below.refl _ w1).alloc (Nat.le_refl _) _).alloc (by simp) _
  have b23 : Below w2.heap.size w2 w3 := by rw [h3]; exact (Below.refl _ w2).alloc (Nat.le_refl _) _
  have r3 : w3.heap[b]? = some (.cells #[.slice none 0 0, .int .i64 W, .slice none 0 0] 108 (0, 0)) := by
    rw [b13.block b (by omega), h1, hb]
    exact heap_alloc_new w _
  have k3 : KeysAt w3 (b + 1) [] := by
    have := KeysAt.made w1
    rw [← h2, z1] at this
    exact this.below' b23
  have c3 : LadRow w3 (b + 2) b (b + 1) := by
    unfold LadRow
    rw [h3, ← z2]
    exact heap_alloc_new w2 _
  have hQ : Hid (CalAt w3 (w.heap.size + 2) (newS w) [] ∧ Below w.heap.size w w3) := by
    refine ⟨⟨b, b + 1, W, .slice none 0 0, .slice none 0 0, [], [], { row := by rw [← hb]; exact c3, rungs := ⟨r3, RowAt.nil _ _ _, RowAt.nil _ _ _, fun u h => (by cases h), List.pairwise_singleton _ _⟩, stairs := ⟨List.Pairwise.nil, fun x hx => (by cases hx), Steps.nil, fun _ => rfl⟩, same := List.Perm.refl _, o := List.Pairwise.nil, u := List.Pairwise.nil, fits := fun m h => (by cases h), small := by simp, most1 := hW.1, keys := k3 }, ?_, ?_⟩, hB⟩
    · unfold newS
      rintro k (e | e | e | e | e | ⟨u, hu, e⟩)
      · omega
      · omega
      · omega
      · cases e
      · cases e
      · cases hu
    · unfold newS
      intro k hk
      omega
  rw [h3, h2, h1, hb] at hQ
  clear r3 k3 c3 b13 b23 hB z3 z2 z1 h3 h2 h1 hwf
  have hnr := newRungs_any w W
  go_enter Tryz.func31, Tryz.ntmps31
  go_wp2_with (go_at_call 36; refine hnr.mono ?_; rintro e w1 ⟨rfl, rfl⟩)
  go_ret2
  exact ⟨rfl, hQ.out⟩
theorem hNew_no (w : World) {W : Int} (hW : W < 1 ∨ 16384 < W) : Calls Tryz.prog 31 #[.int .i64 W] w fun e w' => e = .returned (.tuple #[.pointer none, .int .i64 1]) ∧ w = w' := by
  by_cases h1 : W < 1
  · clear hW
    go_enter Tryz.func31, Tryz.ntmps31
    go_wp2
    go_ret2
    exact ⟨rfl, rfl⟩
  · have h2 : 16384 < W := by omega
    clear hW
    go_enter Tryz.func31, Tryz.ntmps31
    go_wp2
    go_ret2
    exact ⟨rfl, rfl⟩
theorem eqErr (a b : Int) (w : World) : Sem.run Tryz.prog (binOp .neq 24 (.int .i64 a) (.int .i64 b)) w = .ok (.bool (!decide (a = b))) w := by
  go_simp
  try (by_cases h : a = b <;> simp [h])

set_option maxHeartbeats 4000000 in
set_option maxRecDepth 100000 in
theorem forget_any {w : World} {hb rb mb : Nat} {T T' : List M} (hr : LadRow w hb rb mb) (hk : KeysAt w mb T) (m : M) (hm : m.fits) (hp : (m :: T').Perm T) (hU : Unlike T) :
    Calls Tryz.prog 123 #[.pointer (some ⟨hb, 0, none⟩), m.val] w fun e w' => e = .returned m.val ∧ Hid (KeysAt w' mb T' ∧ KeptOff (fun k => k = mb) w w') := by
  have mixed := mixed
  obtain ⟨W1, hW1⟩ : ∃ W1, W1 = w.alloc (.cells m.cells 34) := ⟨_, rfl⟩
  obtain ⟨W2, hW2⟩ : ∃ W2, W2 = W1.alloc (.cells zeroM.cells 34) := ⟨_, rfl⟩
  have s1 : W1.heap.size = w.heap.size + 1 := by rw [hW1]; simp
  have hb1 : Below w.heap.size w W1 := by rw [hW1]; exact (Below.refl _ w).alloc (Nat.le_refl _) _
  have hb2 : Below w.heap.size w W2 := by rw [hW2]; exact hb1.alloc hb1.size _
  have hm2 : BoxM W2 w.heap.size m := by rw [hW2, hW1]; exact (BoxM.mk w m).below ((Below.refl _ _).alloc (Nat.le_refl _) _)
  have hz2 : BoxM W2 (w.heap.size + 1) zeroM := by rw [hW2, ← s1]; exact BoxM.mk W1 zeroM
  have hr2 : LadRow W2 hb rb mb := (hb2.block hb hr.lt).trans hr
  have hml := hk.lt
  have hfin : Hid (∀ W3, Below W2.heap.size W2 W3 → KeysAt W3 mb T ∧ ∀ w4, Hid (KeysAt w4 mb T') → Hid (KeptOff (fun k => k = mb) W3 w4) → MsgAt w4 w.heap.size 0 m ∧ Hid (BoxM w4 (w.heap.size + 1) zeroM) ∧ Hid (KeysAt (w4.setRow (w.heap.size + 1) m.cells) mb T' ∧ KeptOff (fun k => k = mb) w (w4.setRow (w.heap.size + 1) m.cells))) := by
    intro W3 hb3
    have hb03 := hb2.trans (hb3.mono hb2.size)
    refine ⟨hk.below' hb03, fun w4 k4 o4 => ?_⟩
    have hm4 := (hm2.below hb3).kept o4.out (by omega)
    have hz4 := (hz2.below hb3).kept o4.out (by omega)
    have k5 := KeptOff.row w4 (w.heap.size + 1) m.cells
    exact ⟨hm4.at, hz4, k4.out.kept k5 (by omega), ((KeptOff.of_below hb03).trans o4.out).then_new k5 (fun k hk e => by omega)⟩
  have hgl := hm2.lt
  obtain ⟨-, y0, y1, y2, y3, y4, y5, y6⟩ := hm2.at
  simp only [Nat.zero_add] at y0 y1 y2 y3 y4 y5 y6
  have x0 := fun q => wide_cell (w := W2) q hgl y0
  have x1 := fun q => wide_cell (w := W2) q hgl y1
  have x2 := fun q => wide_cell (w := W2) q hgl y2
  have x3 := fun q => wide_cell (w := W2) q hgl y3
  have x4 := fun q => wide_cell (w := W2) q hgl y4
  have x5 := fun q => wide_cell (w := W2) q hgl y5
  have x6 := fun q => wide_cell (w := W2) q hgl y6
  have c1 := fun q => wide_cell (w := W2) (a := ⟨hb, 1, none⟩) q hr2.lt hr2.c1
  have hsend := fun q : WB => (sending_any m (wide W2 q)).mono (R' := fun e w' => e = .returned (sendV m.k.f m.u) ∧ Below (wide W2 q).heap.size (wide W2 q) w') (fun e w' h => ⟨h.1, h.2.below⟩)
  simp only [M.val, sendV] at hsend
  have hW2z : Hid ((w.alloc (.cells #[.int .i64 m.k.t, .int .i64 m.k.f, .int .i64 m.k.s, .int .i64 m.to, .int .i64 m.v, .int .i64 m.u, .bool m.anti] 34)).alloc (.cells #[.int .i64 0, .int .i64 0, .int .i64 0, .int .i64 0, .int .i64 0, .int .i64 0, .bool false] 34) = W2) := by
    rw [hW2, hW1]
    rfl
  have hs1 : Hid ((w.alloc (.cells #[.int .i64 m.k.t, .int .i64 m.k.f, .int .i64 m.k.s, .int .i64 m.to, .int .i64 m.v, .int .i64 m.u, .bool m.anti] 34)).heap.size = w.heap.size + 1) := by
    show _ = _
    simp
  have hm' := Lib.hid hm
  have hp' := Lib.hid hp
  have hU' := Lib.hid hU
  clear hW2 hW1 hb1 hb2 s1 hm2 hz2 hr2 hr hk hml y0 y1 y2 y3 y4 y5 y6 hm hp hU hgl
  simp only [M.val]
  go_enter Tryz.func123, Tryz.ntmps123
  go_upto_region 1 with (fail)
  rw [hW2z.out]
  refine wp_region_wide_tail 6 (by kernel_rfl) (by kernel_rfl) ?_
  simp only [List.take_succ_cons, List.take_zero, List.drop_succ_cons, List.drop_zero]
  repeat (quiet_step (exact Calls.wide_of (hsend _)))
  refine wpQuiet_nil ?_
  refine wide_all fun W3 hb3 => ?_
  clear x0 x1 x2 x3 x4 x5 x6 c1 hsend
  obtain ⟨hk3, hst⟩ := hfin.out W3 hb3
  have hst := Lib.hid hst
  clear hfin hb3
  go_upto_region 2 with ((refine wpList_delete_keys rfl _ _ rfl m rfl rfl hk3 hm'.out hp'.out hU'.out ?_; intro w4 k4 o4; have hQ := hst.out w4 k4 o4; clear k4 o4))
  obtain ⟨⟨-, x0, x1, x2, x3, x4, x5, x6⟩, hz4, hR4⟩ := hQ
  simp only [Nat.zero_add] at x0 x1 x2 x3 x4 x5 x6
  clear hst hk3
  go_wp2_with (refine wpList_store_row rfl 34 (.tmp 4) (.tmp 11) rfl (w.heap.size + 1) m.cells rfl rfl 34 zeroM.cells hz4.out infoS rfl (M.cells_one m) ?_)
  obtain ⟨-, s0, s1, s2, s3, s4, s5, s6⟩ := (hz4.out.row m).at
  simp only [Nat.zero_add] at s0 s1 s2 s3 s4 s5 s6
  exact bodyPost_ret (v := m.val) (by simp [results, Tryz.results123, go_sem, s0, s1, s2, s3, s4, s5, s6, M.val]) rfl ⟨rfl, hR4⟩
end Go.Proofs.YtjlbkdghlijoeaaGreat
namespace Go.Proofs.YtjlbkdghlijoeaaGreat
open Go.ChangeShapes Go.WideShapes Go.ChangeAt Go.Shelf Go.RowKit Go.Lib Go.Sort Go.Deep Go.Maps
set_option linter.unusedVariables false

/-- Behind a message taken out of the rungs, and forgotten. -/
theorem LadOf.gone {w w2 : World} {hb rb mb : Nat} {most : Int} {bv av : Value} {B : List M} {us : List Up} {T T' : List M} {m : M} (h : LadOf w hb rb mb most bv av B us T) (hp : (m :: T').Perm T) (hO : InOrder ltM T') (ht : Taken w rb most bv av us (held B us) m w2) :
    LadRow w2 hb rb mb ∧ KeysAt w2 mb T ∧ KeptOff (ROwn rb bv av us) w w2 ∧ ∀ w3, KeysAt w3 mb T' → KeptOff (fun k => k = mb) w2 w3 → ∃ bv' av' B' us', LadOf w3 hb rb mb most bv' av' B' us' T' ∧ KeptOff (LOwn hb rb mb bv av us) w w3 ∧ ∀ k, LOwn hb rb mb bv' av' us' k → LOwn hb rb mb bv av us k ∨ w.heap.size ≤ k := by
  obtain ⟨B', us', bv', av', hr, hS, hp2⟩ := ht
  have hhb : ¬ ROwn rb bv av us hb := fun e => (h.off e).1 rfl
  have hmb : ¬ ROwn rb bv av us mb := fun e => (h.off e).2 rfl
  have r2 : LadRow w2 hb rb mb := (hr.2.1.block hb h.row.lt hhb).trans h.row
  have k2 := h.keys.kept hr.2.1 hmb
  refine ⟨r2, k2, hr.2.1, fun w3 k3 o3 => ⟨bv', av', B', us', ?_, (hr.2.1.mono (fun k _ e => .inr (.inr e))).then_new o3 (fun k _ e => .inr (.inl e)), ?_⟩⟩
  · have hml := h.keys.lt
    have hnm : ∀ k, ROwn rb bv' av' us' k → ¬ k = mb := fun k e e2 => by
      obtain ⟨cur, t, h1, -⟩ := hr.1.tags e
      obtain ⟨es, c, hm⟩ := k2.tag
      rw [e2, hm] at h1
      cases h1
    have hlen := hp.length_eq
    have hsm := h.small
    rw [List.length_cons] at hlen
    exact { row := (o3.block hb r2.lt h.hb_mb).trans r2, rungs := hr.1.kept o3 hnm, stairs := hS, same := List.Perm.cons_inv (hp2.trans (h.same.trans hp.symm)), o := hO, u := h.u.rest hp, fits := fun x hx => h.fits x (hp.mem_iff.1 (List.mem_cons_of_mem _ hx)), small := by omega, most1 := h.most1, keys := k3 }
  · rintro k (e | e | e)
    · exact .inl (.inl e)
    · exact .inl (.inr (.inl e))
    · exact (hr.2.2 k e).imp (fun e => .inr (.inr e)) id
/-- .. and the result's store. -/
theorem CalAt.of_gone {w W0 w3 : World} {hb rb mb : Nat} {most : Int} {bv av bv' av' : Value} {B' : List M} {us us' : List Up} {T' : List M} {S : Nat → Prop} (hS : ∀ k, LOwn hb rb mb bv av us k → S k) (hSl : ∀ k, S k → k < w.heap.size) (hb0 : Below w.heap.size w W0) (hlt : w.heap.size < W0.heap.size)
    (h : LadOf w3 hb rb mb most bv' av' B' us' T') (hk : KeptOff (LOwn hb rb mb bv av us) W0 w3) (ho : ∀ k, LOwn hb rb mb bv' av' us' k → LOwn hb rb mb bv av us k ∨ W0.heap.size ≤ k) (cs : Array Value) :
    ∃ S', CalAt (w3.setRow w.heap.size cs) hb S' T' ∧ CStep w (w3.setRow w.heap.size cs) S S' := by
  have k := KeptOff.row w3 w.heap.size cs
  refine ⟨fun k => S k ∨ (W0.heap.size ≤ k ∧ k < w3.heap.size), ⟨rb, mb, most, bv', av', B', us', h.kept k (fun k hk e => ?_), fun k hk => ?_, fun j hj => ?_⟩, ((KeptOff.of_below hb0).trans (hk.mono (fun k _ e => hS k e))).then_new k (fun k hk e => by omega), fun k e => e.imp id (fun e => by omega)⟩
  · rcases ho k hk with e2 | e2
    · have := hSl k (hS k e2); omega
    · omega
  · exact (ho k hk).imp (fun e => hS k e) (fun e => ⟨e, h.own_lt hk⟩)
  · have h3 := k.size
    have h2 := hk.size
    rcases hj with e | e
    · have := hSl j e; have := hb0.size; omega
    · omega
theorem CalAt.front {w : World} {hb rb mb : Nat} {most : Int} {bv av : Value} {B : List M} {us : List Up} {m : M} {T : List M} (h : LadOf w hb rb mb most bv av B us (m :: T)) : ∃ B', B = m :: B' := h.stairs.first h.same h.o h.u

set_option maxHeartbeats 1000000 in
theorem hFirst_none {w : World} {hb : Nat} {S : Nat → Prop} (h : CalAt w hb S []) :
    Calls Tryz.prog 115 #[.pointer (some ⟨hb, 0, none⟩)] w fun e w' => e = .returned (.tuple #[zeroM.val, .int .i64 6]) ∧ Below w.heap.size w w' := by
  obtain ⟨rb, mb, most, bv, av, B, us, h1, -, -⟩ := h
  have hr := refusal_any (h1.below ((Below.refl _ w).alloc (Nat.le_refl _) (.cells #[.int .i64 0, .int .i64 0, .int .i64 0, .int .i64 0, .int .i64 0, .int .i64 0, .bool false] 34))).row (h1.below ((Below.refl _ w).alloc (Nat.le_refl _) (.cells #[.int .i64 0, .int .i64 0, .int .i64 0, .int .i64 0, .int .i64 0, .int .i64 0, .bool false] 34))).keys
  simp only [if_true] at hr
  clear h1
  go_enter Tryz.func115, Tryz.ntmps115
  go_wp2_with (go_at_call 125; refine hr.mono ?_; rintro e w' ⟨rfl, rfl⟩)
  refine bodyPost_ret (v := .tuple #[.agg #[.int .i64 0, .int .i64 0, .int .i64 0, .int .i64 0, .int .i64 0, .int .i64 0, .bool false], .int .i64 6]) (by simp [results, Tryz.results115, go_sem]) rfl ⟨rfl, ?_⟩
  repeat (refine Below.setCell ?_ (by simp) _)
  exact (Below.refl _ w).alloc (Nat.le_refl _) _

set_option maxHeartbeats 1000000 in
theorem hFirst_some {w : World} {hb : Nat} {S : Nat → Prop} {m : M} {T : List M} (h : CalAt w hb S (m :: T)) :
    Calls Tryz.prog 115 #[.pointer (some ⟨hb, 0, none⟩)] w fun e w' => e = .returned (.tuple #[m.val, .int .i64 0]) ∧ Below w.heap.size w w' := by
  obtain ⟨W0, hW0⟩ : ∃ W0, W0 = w.alloc (.cells #[.int .i64 0, .int .i64 0, .int .i64 0, .int .i64 0, .int .i64 0, .int .i64 0, .bool false] 34) := ⟨_, rfl⟩
  have hB0 : Hid (Below w.heap.size w W0) := by rw [hW0]; exact (Below.refl _ w).alloc (Nat.le_refl _) _
  have hR0 : Hid (BoxM W0 w.heap.size zeroM) := by rw [hW0]; exact BoxM.mk w zeroM
  obtain ⟨rb, mb, most, bv, av, B, us, h1, -, -⟩ := h
  have h0 := h1.below hB0.out
  have hr := refusal_any h0.row h0.keys
  simp only [reduceCtorEq, if_false] at hr
  obtain ⟨B', hB'⟩ := CalAt.front h0
  have hf := first_any h0.rungs (by rw [hB']; simp)
  have hbm : B.getD 0 default = m := by rw [hB']; rfl
  rw [hbm] at hf
  have c0 := h0.row.c0
  have hr' := Lib.hid hr
  have hf' := Lib.hid hf
  clear h1 h0 hr hf hbm hB'
  go_enter Tryz.func115, Tryz.ntmps115
  go_upto_region 1 with (fail)
  rw [← hW0]
  clear hW0
  go_wp2_with (first
    | (go_at_call 125; refine hr'.out.mono ?_; rintro e w' ⟨rfl, rfl⟩)
    | (go_at_call 126; refine hf'.out.mono ?_; rintro e w3 ⟨rfl, hb3⟩; have hR3 := Lib.hid (hR0.out.below hb3); have hb3' := Lib.hid hb3; clear hb3)
    | (refine wpList_store_row rfl 34 (.tmp 2) (.tmp 17) rfl w.heap.size m.cells rfl rfl 34 zeroM.cells hR3.out infoS rfl (M.cells_one m) ?_))
  obtain ⟨-, s0, s1, s2, s3, s4, s5, s6⟩ := (hR3.out.row m).at
  simp only [Nat.zero_add] at s0 s1 s2 s3 s4 s5 s6
  refine bodyPost_ret (v := .tuple #[m.val, .int .i64 0]) (by simp [results, Tryz.results115, go_sem, s0, s1, s2, s3, s4, s5, s6, M.val]) rfl ⟨rfl, ?_⟩
  exact below_setRow (hB0.out.trans (hb3'.out.mono hB0.out.size)) (Nat.le_refl _) _

set_option maxHeartbeats 1000000 in
theorem hPop_none {w : World} {hb : Nat} {S : Nat → Prop} (h : CalAt w hb S []) :
    Calls Tryz.prog 117 #[.pointer (some ⟨hb, 0, none⟩)] w fun e w' => e = .returned (.tuple #[zeroM.val, .int .i64 6]) ∧ Below w.heap.size w w' := by
  obtain ⟨rb, mb, most, bv, av, B, us, h1, -, -⟩ := h
  have hr := refusal_any (h1.below ((Below.refl _ w).alloc (Nat.le_refl _) (.cells #[.int .i64 0, .int .i64 0, .int .i64 0, .int .i64 0, .int .i64 0, .int .i64 0, .bool false] 34))).row (h1.below ((Below.refl _ w).alloc (Nat.le_refl _) (.cells #[.int .i64 0, .int .i64 0, .int .i64 0, .int .i64 0, .int .i64 0, .int .i64 0, .bool false] 34))).keys
  simp only [if_true] at hr
  clear h1
  go_enter Tryz.func117, Tryz.ntmps117
  go_wp2_with (go_at_call 125; refine hr.mono ?_; rintro e w' ⟨rfl, rfl⟩)
  refine bodyPost_ret (v := .tuple #[.agg #[.int .i64 0, .int .i64 0, .int .i64 0, .int .i64 0, .int .i64 0, .int .i64 0, .bool false], .int .i64 6]) (by simp [results, Tryz.results117, go_sem]) rfl ⟨rfl, ?_⟩
  repeat (refine Below.setCell ?_ (by simp) _)
  exact (Below.refl _ w).alloc (Nat.le_refl _) _

set_option maxHeartbeats 1000000 in
theorem hPop_some {w : World} {hb : Nat} {S : Nat → Prop} {m : M} {T : List M} (h : CalAt w hb S (m :: T)) :
    Calls Tryz.prog 117 #[.pointer (some ⟨hb, 0, none⟩)] w fun e w' => e = .returned (.tuple #[m.val, .int .i64 0]) ∧ ∃ S', CalAt w' hb S' T ∧ CStep w w' S S' := by
  obtain ⟨W0, hW0⟩ : ∃ W0, W0 = w.alloc (.cells #[.int .i64 0, .int .i64 0, .int .i64 0, .int .i64 0, .int .i64 0, .int .i64 0, .bool false] 34) := ⟨_, rfl⟩
  have hB0 : Hid (Below w.heap.size w W0) := by rw [hW0]; exact (Below.refl _ w).alloc (Nat.le_refl _) _
  have hR0 : Hid (BoxM W0 w.heap.size zeroM) := by rw [hW0]; exact BoxM.mk w zeroM
  have hs0 : w.heap.size < W0.heap.size := hR0.out.lt
  obtain ⟨rb, mb, most, bv, av, B, us, h1, hS, hSl⟩ := h
  have h0 := h1.below hB0.out
  have hr := refusal_any h0.row h0.keys
  simp only [reduceCtorEq, if_false] at hr
  obtain ⟨B', hB'⟩ := CalAt.front h0
  have hbm : B.getD 0 default = m := by rw [hB']; rfl
  have hlen := h0.hlen
  have hsm := h0.small
  have hpop : Hid (Calls Tryz.prog 127 #[.pointer (some ⟨rb, 0, none⟩)] W0 fun e w2 => e = .returned m.val ∧ Hid (Calls Tryz.prog 123 #[.pointer (some ⟨hb, 0, none⟩), m.val] w2 fun e w3 => e = .returned m.val ∧ Hid (BoxM w3 w.heap.size zeroM ∧ ∃ S', CalAt (w3.setRow w.heap.size m.cells) hb S' T ∧ CStep w (w3.setRow w.heap.size m.cells) S S'))) := by
    refine (pop_any h0.rungs h0.stairs h0.hU h0.most1 (by omega) (by rw [hB']; simp)).mono ?_
    rintro e w2 ⟨he, ht⟩
    rw [hbm] at he ht
    obtain ⟨r2, k2, o2, hnext⟩ := h0.gone (List.Perm.refl _) (List.pairwise_cons.1 h0.o).2 ht
    refine ⟨he, (forget_any r2 k2 m (h0.fits m (List.mem_cons_self ..)) (List.Perm.refl _) h0.u).mono ?_⟩
    rintro e w3 ⟨he, hq⟩
    obtain ⟨k3, o3⟩ := hq.out
    obtain ⟨bv', av', B'', us', h3, hk3, ho3⟩ := hnext w3 k3 o3
    have hz3 : BoxM w3 w.heap.size zeroM := hR0.out.kept hk3 (fun e => by have := h1.own_lt e; omega)
    exact ⟨he, hz3, CalAt.of_gone hS hSl hB0.out hs0 h3 hk3 ho3 _⟩
  have c0 := h0.row.c0
  rw [show m.val = .agg #[.int .i64 m.k.t, .int .i64 m.k.f, .int .i64 m.k.s, .int .i64 m.to, .int .i64 m.v, .int .i64 m.u, .bool m.anti] from rfl] at hpop
  have hr' := Lib.hid hr
  clear h1 h0 hr hS hSl hB' hbm hlen hsm hs0
  go_enter Tryz.func117, Tryz.ntmps117
  go_upto_region 1 with (fail)
  rw [← hW0]
  clear hW0
  go_wp2_with (first
    | (go_at_call 125; refine hr'.out.mono ?_; rintro e w' ⟨rfl, rfl⟩)
    | (go_at_call 127; refine hpop.out.mono ?_; rintro e w2 ⟨rfl, hfg⟩)
    | (go_at_call 123; refine hfg.out.mono ?_; rintro e w3 ⟨rfl, hQ3⟩)
    | (refine wpList_store_row rfl 34 (.tmp 2) (.tmp 17) rfl w.heap.size m.cells rfl rfl 34 zeroM.cells hQ3.out.1 infoS rfl (M.cells_one m) ?_))
  obtain ⟨-, s0, s1, s2, s3, s4, s5, s6⟩ := (hQ3.out.1.row m).at
  simp only [Nat.zero_add] at s0 s1 s2 s3 s4 s5 s6
  exact bodyPost_ret (v := .tuple #[m.val, .int .i64 0]) (by simp [results, Tryz.results117, go_sem, s0, s1, s2, s3, s4, s5, s6, M.val]) rfl ⟨rfl, hQ3.out.2⟩
end Go.Proofs.YtjlbkdghlijoeaaGreat
