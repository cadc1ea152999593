/-
  A ladder: All.
  A calendar: what it holds, in order; made, has, refusal, Len, All; a calendar that nobody made.
  A calendar: taking one out.
  A queue: what it is in memory; its functions that only look.
-/
import Derived.Test.YtjlbkdghlijoeaaGreatYP
import Derived.Test.YtjlbkdghlijoeaaGreatLDQG
import Derived.Test.YtjlbkdghlijoeaaGreatHL
import Derived.Test.YtjlbkdghlijoeaaGreatHC
import Derived.Deep.RegionHeld3
import Derived.IntWalk
import Derived.StillTailTactics
namespace Go.Proofs.YtjlbkdghlijoeaaGreat
open Go.ChangeShapes Go.WideShapes Go.ChangeAt Go.Shelf Go.RowKit Go.Lib Go.Sort Go.Deep Go.Maps
set_option linter.unusedVariables false

theorem hAll_any {w : World} {hb : Nat} {S : Nat → Prop} {T : List M} (h : CalAt w hb S T) : Calls Tryz.prog 113 #[.pointer (some ⟨hb, 0, none⟩)] w fun e w' => ∃ (a' : Option Addr) (c' : Nat), e = .returned (.slice a' T.length c') ∧
    Hid (Msgs w' a' T.length c' T ∧ Below w.heap.size w w' ∧ FreshA w.heap.size T.length a') := by
  obtain ⟨rb, mb, most, bv, av, B, us, h1, h3, h4⟩ := h
  have hmd := made_ok h1.row
  have c0 := h1.row.c0
  have hs := Lib.hid (sorted_any h1)
  clear h1 h3 h4
  go_enter Tryz.func113, Tryz.ntmps113
  go_wp2_with (first | (go_at_call 120; refine hmd.mono ?_; rintro e w' ⟨rfl, rfl⟩) | (go_at_call 121; refine hs.out.mono ?_; rintro e w5 ⟨a', c', rfl, hM⟩))
  go_ret
  exact ⟨a', c', rfl, hM⟩
end Go.Proofs.YtjlbkdghlijoeaaGreat
namespace Go.Proofs.YtjlbkdghlijoeaaGreat
open Go.ChangeShapes Go.WideShapes Go.ChangeAt Go.Shelf Go.RowKit Go.Lib Go.Sort Go.Deep Go.Maps
set_option linter.unusedVariables false

/-- A calendar's two cells. -/
def CalRow (w : World) (hb db mb : Nat) : Prop := w.heap[hb]? = some (.cells #[.pointer (some ⟨db, 0, none⟩), .map (some mb)] 91 (0, 0))
theorem CalRow.c0 {w : World} {hb db mb : Nat} (h : CalRow w hb db mb) : w.cell? ⟨hb, 0, none⟩ = some (.pointer (some ⟨db, 0, none⟩)) := by unfold CalRow at h; simp [World.cell?, h]
theorem CalRow.c1 {w : World} {hb db mb : Nat} (h : CalRow w hb db mb) : w.cell? ⟨hb, 1, none⟩ = some (.map (some mb)) := by unfold CalRow at h; simp [World.cell?, h]
theorem CalRow.lt {w : World} {hb db mb : Nat} (h : CalRow w hb db mb) : hb < w.heap.size := (Array.getElem?_eq_some_iff.1 h).1
/-- A calendar in memory. -/
structure CalOf (w : World) (hb db mb : Nat) (W : Int) (lb : Nat) (ov : Value) (ds : List Int) (L : Int → List M) (fv : Int → Value) : Prop where
  row : CalRow w hb db mb
  days : DaysOf w db W lb ov ds L fv
  keys : KeysAtC w mb (ds.flatMap L)
  apart : mb ≠ lb
/-- The blocks that a calendar owns. -/
def COwn (hb db mb lb : Nat) (ov : Value) (ds : List Int) (fv : Int → Value) (k : Nat) : Prop := k = hb ∨ k = mb ∨ DOwn db lb ov ds fv k
/-- A calendar that holds the messages of T, in their order; its blocks are among those of S. -/
def CalAtC (w : World) (hb : Nat) (S : Nat → Prop) (T : List M) : Prop :=
  ∃ db mb W lb ov ds L fv, CalOf w hb db mb W lb ov ds L fv ∧ T = ds.flatMap L ∧ (∀ k, COwn hb db mb lb ov ds fv k → S k) ∧ ∀ k, S k → k < w.heap.size
section
variable {w w' : World} {hb db mb lb : Nat} {W : Int} {ov : Value} {ds : List Int} {L : Int → List M} {fv : Int → Value} {S S' : Nat → Prop} {T : List M}
theorem KeysAtC.tag (h : KeysAtC w mb T) : ∃ es c, w.heap[mb]? = some (.map es c) := by
  obtain ⟨D, ⟨es, c, h, _⟩, _⟩ := h
  exact ⟨es, c, h⟩
/-- Neither the calendar's own cells nor its keys are a block of its days. -/
theorem CalOf.off (h : CalOf w hb db mb W lb ov ds L fv) {k : Nat} (hk : DOwn db lb ov ds fv k) : k ≠ hb ∧ k ≠ mb := by
  have hr := h.row
  unfold CalRow at hr
  obtain ⟨es, c, hm⟩ := h.keys.tag
  rcases hk with rfl | rfl | e | ⟨d, hd, e⟩
  · have h1 := h.days.row
    exact ⟨fun e => (by rw [e, hr] at h1; cases h1), fun e => (by rw [e, hm] at h1; cases h1)⟩
  · obtain ⟨es', c', h1⟩ := h.days.lists.tag
    exact ⟨fun e => (by rw [e, hr] at h1; cases h1), fun e => h.apart e.symm⟩
  · obtain ⟨cur, h1⟩ := h.days.order.tag e
    exact ⟨fun e => (by rw [e, hr] at h1; cases h1), fun e => (by rw [e, hm] at h1; cases h1)⟩
  · obtain ⟨cur, h1⟩ := (h.days.each d hd).tag e
    exact ⟨fun e => (by rw [e, hr] at h1; cases h1), fun e => (by rw [e, hm] at h1; cases h1)⟩
theorem CalOf.hb_mb (h : CalOf w hb db mb W lb ov ds L fv) : hb ≠ mb := fun e => by
  have hr := h.row
  unfold CalRow at hr
  obtain ⟨es, c, hm⟩ := h.keys.tag
  rw [e, hm] at hr
  cases hr
theorem CalOf.own_lt (h : CalOf w hb db mb W lb ov ds L fv) {k : Nat} (hk : COwn hb db mb lb ov ds fv k) : k < w.heap.size := by
  rcases hk with rfl | rfl | hk
  · exact h.row.lt
  · exact h.keys.lt
  · exact h.days.own_lt hk
theorem CalOf.kept (h : CalOf w hb db mb W lb ov ds L fv) (hk : KeptOff S w w') (hn : ∀ k, COwn hb db mb lb ov ds fv k → ¬ S k) : CalOf w' hb db mb W lb ov ds L fv :=
  ⟨(hk.block hb h.row.lt (hn hb (.inl rfl))).trans h.row, h.days.kept hk (fun k e => hn k (.inr (.inr e))), h.keys.kept hk (hn mb (.inr (.inl rfl))), h.apart⟩
theorem CalOf.below (h : CalOf w hb db mb W lb ov ds L fv) (hb' : Below w.heap.size w w') : CalOf w' hb db mb W lb ov ds L fv := h.kept (S := fun _ => False) (.of_below hb') (fun _ _ e => e)
theorem CalAtC.kept {X : Nat → Prop} (h : CalAtC w hb S T) (hk : KeptOff X w w') (hn : ∀ k, S k → ¬ X k) : CalAtC w' hb S T := by
  obtain ⟨db, mb, W, lb, ov, ds, L, fv, h1, h2, h3, h4⟩ := h
  exact ⟨db, mb, W, lb, ov, ds, L, fv, h1.kept hk (fun k e => hn k (h3 k e)), h2, h3, fun k e => Nat.lt_of_lt_of_le (h4 k e) hk.size⟩
theorem CalAtC.below (h : CalAtC w hb S T) (hb' : Below w.heap.size w w') : CalAtC w' hb S T := h.kept (X := fun _ => False) (.of_below hb') (fun _ _ e => e)
theorem CalAtC.lt (h : CalAtC w hb S T) {k : Nat} (hk : S k) : k < w.heap.size := by obtain ⟨db, mb, W, lb, ov, ds, L, fv, h1, h2, h3, h4⟩ := h; exact h4 k hk
theorem CalAtC.own (h : CalAtC w hb S T) : S hb := by obtain ⟨db, mb, W, lb, ov, ds, L, fv, h1, h2, h3, h4⟩ := h; exact h3 hb (.inl rfl)
theorem CalAtC.o (h : CalAtC w hb S T) : InOrder ltM T := by obtain ⟨db, mb, W, lb, ov, ds, L, fv, h1, rfl, h3, h4⟩ := h; exact days_order h1.days.width h1.days.days
theorem CalAtC.u (h : CalAtC w hb S T) : Unlike T := by obtain ⟨db, mb, W, lb, ov, ds, L, fv, h1, rfl, h3, h4⟩ := h; exact h1.days.unlike
theorem CalAtC.fits (h : CalAtC w hb S T) : ∀ m ∈ T, m.fits := by obtain ⟨db, mb, W, lb, ov, ds, L, fv, h1, rfl, h3, h4⟩ := h; exact h1.days.fits
theorem CalAtC.small (h : CalAtC w hb S T) : T.length ≤ 16384 := by obtain ⟨db, mb, W, lb, ov, ds, L, fv, h1, rfl, h3, h4⟩ := h; exact h1.days.small
end
theorem made_okC {w : World} {hb db mb : Nat} (h : CalRow w hb db mb) : Calls Tryz.prog 92 #[.pointer (some ⟨hb, 0, none⟩)] w fun e w' => e = .returned (.bool true) ∧ w = w' := by
  have c0 := h.c0
  clear h
  go_enter Tryz.func92, Tryz.ntmps92
  go_wp2
  go_ret
  exact ⟨rfl, rfl⟩
theorem made_nilC (w : World) : Calls Tryz.prog 92 #[.pointer none] w fun e w' => e = .returned (.bool false) ∧ w = w' := by
  go_enter Tryz.func92, Tryz.ntmps92
  go_wp2
  go_ret
  exact ⟨rfl, rfl⟩
theorem made_zeroC {w : World} {hb : Nat} (c0 : w.cell? ⟨hb, 0, none⟩ = some (.pointer none)) : Calls Tryz.prog 92 #[.pointer (some ⟨hb, 0, none⟩)] w fun e w' => e = .returned (.bool false) ∧ w = w' := by
  go_enter Tryz.func92, Tryz.ntmps92
  go_wp2
  go_ret
  exact ⟨rfl, rfl⟩
theorem sending_anyC (m : M) (w : World) : Calls Tryz.prog 98 #[m.val] w fun e w' => e = .returned (sendV m.k.f m.u) ∧ Read w w' := by
  obtain ⟨⟨t, f, s⟩, tt, v, u, an⟩ := m
  simp only [M.val, sendV]
  go_enter Tryz.func98, Tryz.ntmps98
  go_wp2
  refine bodyPost_ret (v := .agg #[.int .i64 f, .int .i64 u]) (by simp [results, Tryz.results98, go_sem]) rfl ⟨rfl, ?_⟩
  exact Read.two _ _ _

theorem has_cells (k : K) : k.val = .agg #[.int .i64 k.t, .int .i64 k.f, .int .i64 k.s] := rfl
set_option maxHeartbeats 1000000 in
theorem has_anyC {w : World} {hb db mb : Nat} {T : List M} (h : CalRow w hb db mb) (hs : KeysAtC w mb T) {f u : Int} (hf : (Lit.int .i64 f).wf = true) (hu : (Lit.int .i64 u).wf = true) :
    Calls Tryz.prog 94 #[.pointer (some ⟨hb, 0, none⟩), .agg #[.int .i64 f, .int .i64 u]] w fun e w' => e = .returned (.bool (hasS T f u)) ∧ Below w.heap.size w w' := by
  have mixed := mixed
  obtain ⟨W, hW⟩ : ∃ W, W = w.alloc (.cells #[.int .i64 f, .int .i64 u] 150) := ⟨_, rfl⟩
  have hbw : Hid (Below w.heap.size w W) := by rw [hW]; exact (Below.refl _ w).alloc (Nat.le_refl _) _
  have h1 : CalRow W hb db mb := (hbw.out.block hb h.lt).trans h
  have hs1 := hs.below' hbw.out
  have b0 : W.cell? ⟨w.heap.size, 0, none⟩ = some (.int .i64 f) := by rw [hW]; simp
  have b1 : W.cell? ⟨w.heap.size, 1, none⟩ = some (.int .i64 u) := by rw [hW]; simp
  have hwl : w.heap.size < W.heap.size := World.block_lt_of_cell? W _ b0
  obtain ⟨k, hk⟩ := KeysAtC.look_ok T mb hf hu
  have hS : ∀ w', Below W.heap.size W w' → w'.cell? ⟨hb, 1, none⟩ = some (.map (some mb)) ∧ w'.cell? ⟨w.heap.size, 0, none⟩ = some (.int .i64 f) ∧ w'.cell? ⟨w.heap.size, 1, none⟩ = some (.int .i64 u) ∧
      (Instr.lookup 89 (.map (some mb)) (.agg #[.int .i64 f, .int .i64 u]) true).run Tryz.prog w' = .ok (.tuple #[.agg #[.int .i64 k.t, .int .i64 k.f, .int .i64 k.s], .bool (hasS T f u)]) w' := fun w' hb' =>
    ⟨(hb'.cell (p := ⟨hb, 1, none⟩) h1.lt).trans h1.c1, (hb'.cell (p := ⟨w.heap.size, 0, none⟩) hwl).trans b0, (hb'.cell (p := ⟨w.heap.size, 1, none⟩) hwl).trans b1, hk w' (hs1.below' hb')⟩
  have hBd : Below W.heap.size W W.drew := (Below.refl _ W).drew
  clear h hs h1 hs1 b0 b1 hwl hk hf hu
  generalize hasS T f u = r at hS ⊢
  go_enter Tryz.func94, Tryz.ntmps94
  go_upto_region 1 with (fail)
  rw [← hW]
  clear hW
  go_region_held3 (fun w' => w'.cell? ⟨hb, 1, none⟩ = some (.map (some mb)) ∧ w'.cell? ⟨w.heap.size, 0, none⟩ = some (.int .i64 f) ∧ w'.cell? ⟨w.heap.size, 1, none⟩ = some (.int .i64 u) ∧ (Instr.lookup 89 (.map (some mb)) (.agg #[.int .i64 f, .int .i64 u]) true).run Tryz.prog w' = .ok (.tuple #[.agg #[.int .i64 k.t, .int .i64 k.f, .int .i64 k.s], .bool r]) w')
    (first | exact hS _ hBd | exact hS _ (hBd.alloc (Nat.le_refl _) _) | exact hS _ (RowKit.Below.setCell (RowKit.Below.setCell (RowKit.Below.setCell (hBd.alloc (Nat.le_refl _) _) (by simp) _) (by simp) _) (by simp) _))
    (fail)
  all_goals
    clear hS
    go_wp2
    go_ret
    refine ⟨rfl, hbw.out.trans (Below.mono ?_ hbw.out.size)⟩
    first | exact RowKit.Below.setCell (RowKit.Below.setCell (RowKit.Below.setCell (hBd.alloc (Nat.le_refl _) _) (by simp) _) (by simp) _) (by simp) _ | exact hBd.alloc (Nat.le_refl _) _
theorem refusal_anyC {w : World} {hb db mb : Nat} {T : List M} (h : CalRow w hb db mb) (hs : KeysAtC w mb T) : Calls Tryz.prog 96 #[.pointer (some ⟨hb, 0, none⟩)] w fun e w' => e = .returned (.int .i64 (if T = [] then 6 else 0)) ∧ w = w' := by
  have hmd := made_okC h
  have c1 := h.c1
  have hln := fun ty => hs.len ty
  clear h hs
  by_cases hT : T = []
  · rw [if_pos hT]
    subst hT
    simp only [List.length_nil] at hln
    go_enter Tryz.func96, Tryz.ntmps96
    go_wp2_with (first | (go_at_call 92; refine hmd.mono ?_; rintro e w' ⟨rfl, rfl⟩))
    go_ret
    exact ⟨rfl, rfl⟩
  · rw [if_neg hT]
    have hk : ¬ (T.length : Int) = 0 := by
      intro e
      exact hT (List.eq_nil_of_length_eq_zero (by omega))
    generalize T.length = k at *
    go_enter Tryz.func96, Tryz.ntmps96
    go_wp2_with (first | (go_at_call 92; refine hmd.mono ?_; rintro e w' ⟨rfl, rfl⟩))
    go_ret
    exact ⟨rfl, rfl⟩
theorem hLen_anyC {w : World} {hb : Nat} {S : Nat → Prop} {T : List M} (h : CalAtC w hb S T) : Calls Tryz.prog 89 #[.pointer (some ⟨hb, 0, none⟩)] w fun e w' => e = .returned (.int .i64 T.length) ∧ w = w' := by
  obtain ⟨db, mb, W, lb, ov, ds, L, fv, h1, rfl, h3, h4⟩ := h
  have hmd := made_okC h1.row
  have c1 := h1.row.c1
  have hln := fun ty => h1.keys.len ty
  clear h1 h3 h4
  generalize (ds.flatMap L).length = k at *
  go_enter Tryz.func89, Tryz.ntmps89
  go_wp2_with (first | (go_at_call 92; refine hmd.mono ?_; rintro e w' ⟨rfl, rfl⟩))
  go_ret
  exact ⟨rfl, rfl⟩
set_option maxHeartbeats 1000000 in
theorem hAll_anyC {w : World} {hb : Nat} {S : Nat → Prop} {T : List M} (h : CalAtC w hb S T) : Calls Tryz.prog 86 #[.pointer (some ⟨hb, 0, none⟩)] w fun e w' => ∃ (a' : Option Addr) (c' : Nat), e = .returned (.slice a' T.length c') ∧
    Hid (Msgs w' a' T.length c' T ∧ Below w.heap.size w w' ∧ FreshA w.heap.size T.length a') := by
  have mixed := mixed
  obtain ⟨db, mb, W, lb, ov, ds, L, fv, h1, rfl, h3, h4⟩ := h
  have hmd := made_okC h1.row
  have hbd : Below w.heap.size w w.drew := (Below.refl _ w).drew
  have h2 := h1.below hbd
  have c0 := h1.row.c0
  have c1 := h1.row.c1
  have d0 : w.drew.cell? ⟨hb, 0, none⟩ = some (.pointer (some ⟨db, 0, none⟩)) := h2.row.c0
  have d1 : w.drew.cell? ⟨hb, 1, none⟩ = some (.map (some mb)) := h2.row.c1
  have hln : ∀ w', Below w.drew.heap.size w.drew w' → (Builtin.len_ #[89] 3 #[.map (some mb)]).run Tryz.prog w' = .ok (.int .i64 (ds.flatMap L).length) w' := fun w' hb' => (h2.keys.below' hb').len _
  have hln0 := hln _ (Below.refl _ _)
  have hj := Lib.hid (joined_any h2.days)
  clear h1 h2 h3 h4
  generalize ds.flatMap L = T at *
  generalize T.length = k at *
  go_enter Tryz.func86, Tryz.ntmps86
  go_upto_region 3 with (first | (go_at_call 92; refine hmd.mono ?_; rintro e w' ⟨rfl, rfl⟩))
  go_region_held3 (fun w' => w'.cell? ⟨hb, 0, none⟩ = some (.pointer (some ⟨db, 0, none⟩)) ∧ w'.cell? ⟨hb, 1, none⟩ = some (.map (some mb)) ∧ (Builtin.len_ #[89] 3 #[.map (some mb)]).run Tryz.prog w' = .ok (.int .i64 k) w')
    (first | exact ⟨d0, d1, hln0⟩ | exact hc5)
    (first | (go_at_call 93; (with_reducible refine hj.out.mono ?_); rintro e w5 ⟨a', c', rfl, hM⟩; have hc5 := And.intro ((hM.out.2.1.cell (p := ⟨hb, 0, none⟩) (World.block_lt_of_cell? _ _ d0)).trans d0) (And.intro ((hM.out.2.1.cell (p := ⟨hb, 1, none⟩) (World.block_lt_of_cell? _ _ d1)).trans d1) (hln _ hM.out.2.1))))
  go_wp2
  go_ret
  exact ⟨a', c', rfl, hM.out.1, hbd.trans hM.out.2.1, hM.out.2.2⟩

theorem made_notC {w : World} {q : Value} (h : NotMade w q) : Calls Tryz.prog 92 #[q] w fun e w' => e = .returned (.bool false) ∧ w = w' := by
  rcases h with rfl | ⟨b, rfl, _, h2⟩
  · exact made_nilC w
  · exact made_zeroC h2
theorem refusal_notC {w : World} {q : Value} (h : NotMade w q) : Calls Tryz.prog 96 #[q] w fun e w' => e = .returned (.int .i64 7) ∧ w = w' := by
  have hm := made_notC h
  clear h
  go_enter Tryz.func96, Tryz.ntmps96
  go_wp2_with (go_at_call 92; refine hm.mono ?_; rintro e w' ⟨rfl, rfl⟩)
  go_ret
  exact ⟨rfl, rfl⟩
theorem hLen_notC {w : World} {q : Value} (h : NotMade w q) : Calls Tryz.prog 89 #[q] w fun e w' => e = .returned (.int .i64 0) ∧ w = w' := by
  have hm := made_notC h
  clear h
  go_enter Tryz.func89, Tryz.ntmps89
  go_wp2_with (go_at_call 92; refine hm.mono ?_; rintro e w' ⟨rfl, rfl⟩)
  go_ret
  exact ⟨rfl, rfl⟩
theorem hAll_notC {w : World} {q : Value} (h : NotMade w q) : Calls Tryz.prog 86 #[q] w fun e w' => e = .returned (.slice none 0 0) ∧ w = w' := by
  have hm := made_notC h
  clear h
  go_enter Tryz.func86, Tryz.ntmps86
  go_wp2_with (go_at_call 92; refine hm.mono ?_; rintro e w' ⟨rfl, rfl⟩)
  go_ret
  exact ⟨rfl, rfl⟩
theorem hPush_notC {w : World} {q : Value} (h : NotMade w q) (m : M) : Calls Tryz.prog 91 #[q, m.val] w fun e w' => e = .returned (.int .i64 7) ∧ Below w.heap.size w w' := by
  have hm := fun o => made_notC (h.below ((Below.refl _ w).alloc (Nat.le_refl _) o))
  clear h
  obtain ⟨⟨t, f, s⟩, tt, vv, u, an⟩ := m
  simp only [M.val]
  go_enter Tryz.func91, Tryz.ntmps91
  go_wp2_with (go_at_call 92; refine (hm _).mono ?_; rintro e w' ⟨rfl, rfl⟩)
  go_ret
  exact ⟨rfl, (Below.refl _ w).alloc (Nat.le_refl _) _⟩
set_option maxHeartbeats 1000000 in
theorem hFirst_notC {w : World} {q : Value} (h : NotMade w q) : Calls Tryz.prog 88 #[q] w fun e w' => e = .returned (.tuple #[zeroM.val, .int .i64 7]) ∧ Below w.heap.size w w' := by
  have hm := fun o => refusal_notC (h.below ((Below.refl _ w).alloc (Nat.le_refl _) o))
  clear h
  go_enter Tryz.func88, Tryz.ntmps88
  go_wp2_with (go_at_call 96; refine (hm _).mono ?_; rintro e w' ⟨rfl, rfl⟩)
  refine bodyPost_ret (v := .tuple #[.agg #[.int .i64 0, .int .i64 0, .int .i64 0, .int .i64 0, .int .i64 0, .int .i64 0, .bool false], .int .i64 7]) (by simp [results, Tryz.results88, go_sem]) rfl ⟨rfl, ?_⟩
  repeat (refine Below.setCell ?_ (by simp) _)
  exact (Below.refl _ w).alloc (Nat.le_refl _) _
set_option maxHeartbeats 1000000 in
theorem hPop_notC {w : World} {q : Value} (h : NotMade w q) : Calls Tryz.prog 90 #[q] w fun e w' => e = .returned (.tuple #[zeroM.val, .int .i64 7]) ∧ Below w.heap.size w w' := by
  have hm := fun o => refusal_notC (h.below ((Below.refl _ w).alloc (Nat.le_refl _) o))
  clear h
  go_enter Tryz.func90, Tryz.ntmps90
  go_wp2_with (go_at_call 96; refine (hm _).mono ?_; rintro e w' ⟨rfl, rfl⟩)
  refine bodyPost_ret (v := .tuple #[.agg #[.int .i64 0, .int .i64 0, .int .i64 0, .int .i64 0, .int .i64 0, .int .i64 0, .bool false], .int .i64 7]) (by simp [results, Tryz.results90, go_sem]) rfl ⟨rfl, ?_⟩
  repeat (refine Below.setCell ?_ (by simp) _)
  exact (Below.refl _ w).alloc (Nat.le_refl _) _
set_option maxHeartbeats 1000000 in
theorem hCut_notC {w : World} {q : Value} (h : NotMade w q) (f u : Int) : Calls Tryz.prog 87 #[q, .int .i64 f, .int .i64 u] w fun e w' => e = .returned (.tuple #[zeroM.val, .int .i64 7]) ∧ Below w.heap.size w w' := by
  have hm : ∀ w', Below w.heap.size w w' → Calls Tryz.prog 92 #[q] w' fun e w'' => e = .returned (.bool false) ∧ w' = w'' := fun w' hb => made_notC (h.below hb)
  have hq : ∃ a, q = .pointer a := by rcases h with rfl | ⟨b, rfl, _⟩ <;> exact ⟨_, rfl⟩
  clear h
  obtain ⟨a, rfl⟩ := hq
  go_enter Tryz.func87, Tryz.ntmps87
  go_upto_region 2 with (fail)
  have hb2 : Below w.heap.size w ((w.alloc (.cells #[.int .i64 0, .int .i64 0, .int .i64 0, .int .i64 0, .int .i64 0, .int .i64 0, .bool false] 34)).alloc (.cells #[.int .i64 f, .int .i64 u] 150)) := ((Below.refl _ w).alloc (Nat.le_refl _) _).alloc (by simp) _
  have hm1 := hm _ hb2
  have hb2' := Lib.hid hb2
  clear hm hb2
  go_wp2_with (go_at_call 92; refine hm1.mono ?_; rintro e w' ⟨rfl, rfl⟩)
  refine bodyPost_ret (v := .tuple #[.agg #[.int .i64 0, .int .i64 0, .int .i64 0, .int .i64 0, .int .i64 0, .int .i64 0, .bool false], .int .i64 7]) (by simp [results, Tryz.results87, go_sem]) rfl ⟨rfl, ?_⟩
  repeat (refine Below.setCell ?_ (by simp) _)
  exact hb2'.out
end Go.Proofs.YtjlbkdghlijoeaaGreat
namespace Go.Proofs.YtjlbkdghlijoeaaGreat
open Go.ChangeShapes Go.WideShapes Go.ChangeAt Go.Shelf Go.RowKit Go.Lib Go.Sort Go.Deep Go.Maps
set_option linter.unusedVariables false

theorem KeptOff.setc {S : Nat → Prop} {a b : World} (h : KeptOff S a b) (p : Addr) (u : Value) (hp : a.heap.size ≤ p.block) : KeptOff S a (b.setCell p u) := h.then_new (KeptOff.set b p u) (fun k hk e => by omega)
theorem KeptOff.dr {S : Nat → Prop} {a b : World} (h : KeptOff S a b) : KeptOff S a b.drew := ⟨h.os, h.tape, h.output, h.size, h.block⟩
theorem KeptOff.setr {S : Nat → Prop} {a b : World} (h : KeptOff S a b) (G : Nat) (cs : Array Value) (hp : a.heap.size ≤ G) : KeptOff S a (b.setRow G cs) := h.then_new (KeptOff.row b G cs) (fun k hk e => by omega)
theorem KeptOff.al {S : Nat → Prop} {a b : World} (h : KeptOff S a b) (o : Obj) : KeptOff S a (b.alloc o) := h.trans (.of_below ((Below.refl _ b).alloc (Nat.le_refl _) _))
/-- A message laid into a box, cell by cell. -/
theorem BoxM.lay {w : World} {G : Nat} {m0 : M} (h : BoxM w G m0) (x : M) : BoxM (World.setCell (World.setCell (World.setCell (World.setCell (World.setCell (World.setCell (World.setCell w ⟨G, 0, none⟩ (.int .i64 x.k.t)) ⟨G, 1, none⟩ (.int .i64 x.k.f)) ⟨G, 2, none⟩ (.int .i64 x.k.s)) ⟨G, 3, none⟩ (.int .i64 x.to)) ⟨G, 4, none⟩ (.int .i64 x.v)) ⟨G, 5, none⟩ (.int .i64 x.u)) ⟨G, 6, none⟩ (.bool x.anti)) G x := by
  unfold BoxM at h ⊢
  simp [World.setCell, Array.getElem?_modify, h, M.cells]

/-- A calendar whose days have one message less, its keys not yet. -/
def TakeMid (w : World) (hb db mb : Nat) (W : Int) (lb : Nat) (ov : Value) (ds : List Int) (L : Int → List M) (fv : Int → Value) (x : M) (B0 B : Nat) (w' : World) : Prop :=
  ∃ ov' ds' L' fv', CalRow w' hb db mb ∧ DaysOf w' db W lb ov' ds' L' fv' ∧ (x :: ds'.flatMap L').Perm (ds.flatMap L) ∧ KeysAtC w' mb (ds.flatMap L) ∧ KeptOff (COwn hb db mb lb ov ds fv) w w' ∧ (∀ k, DOwn db lb ov' ds' fv' k → DOwn db lb ov ds fv k) ∧
    BoxM w' B zeroM ∧ w'.heap[B0]? = some (.cells #[.int .i64 x.k.f, .int .i64 x.u] 150 (0, 0))
section
variable {w w1 w2 : World} {hb db mb lb : Nat} {W : Int} {ov : Value} {ds : List Int} {L : Int → List M} {fv : Int → Value} {x : M} {B0 B G : Nat}
theorem TakeMid.new (h : CalOf w hb db mb W lb ov ds L fv) (hm : TakeMid w hb db mb W lb ov ds L fv x B0 B w1) {X : Nat → Prop} (hk : KeptOff X w1 w2) (hX : ∀ k, X k → w.heap.size + 2 ≤ k) (hB : B < w.heap.size + 2) (hB0 : B0 < w.heap.size + 2) : TakeMid w hb db mb W lb ov ds L fv x B0 B w2 := by
  obtain ⟨ov', ds', L', fv', h1, h2, h3, h4, h5, h6, h7, h8⟩ := hm
  have hn : ∀ k, k < w.heap.size + 2 → ¬ X k := fun k hk' e => by have := hX k e; omega
  have hlt := fun k (e : COwn hb db mb lb ov ds fv k) => h.own_lt e
  refine ⟨ov', ds', L', fv', (hk.block hb h1.lt (hn hb (by have := h.row.lt; omega))).trans h1, h2.kept hk (fun k e => hn k (by have := hlt k (.inr (.inr (h6 k e))); omega)), h3, h4.kept hk (hn mb (by have := h.keys.lt; omega)), h5.then_new hk (fun k hk' e => by have := hX k e; omega), h6, h7.kept hk (hn B hB), (hk.block B0 (Array.getElem?_eq_some_iff.1 h8).1 (hn B0 hB0)).trans h8⟩
/-- Behind the cut of the days. -/
theorem take_mid (h : CalOf w hb db mb W lb ov ds L fv) (hb1 : Below w.heap.size w w1) (hc : CutRes w1 db W lb ov ds L fv x w2) (h1 : CalOf w1 hb db mb W lb ov ds L fv) (hB : BoxM w1 B zeroM) (hB0 : w1.heap[B0]? = some (.cells #[.int .i64 x.k.f, .int .i64 x.u] 150 (0, 0))) (hBw : w.heap.size ≤ B) (hB0w : w.heap.size ≤ B0) :
    TakeMid w hb db mb W lb ov ds L fv x B0 B w2 ∧ KeptOff (DOwn db lb ov ds fv) w1 w2 := by
  obtain ⟨ov', ds', L', fv', hD, hp, hk, ho⟩ := hc
  have hnew : ∀ k, w.heap.size ≤ k → ¬ DOwn db lb ov ds fv k := fun k hk' e => by have := h.own_lt (.inr (.inr e)); omega
  refine ⟨⟨ov', ds', L', fv', (hk.block hb h1.row.lt (fun e => (h.off e).1 rfl)).trans h1.row, hD, hp, h1.keys.kept hk (fun e => (h.off e).2 rfl), (KeptOff.of_below hb1).trans (hk.mono (fun k _ e => .inr (.inr e))), ho, hB.kept hk (hnew B hBw), (hk.block B0 (Array.getElem?_eq_some_iff.1 hB0).1 (hnew B0 hB0w)).trans hB0⟩, hk⟩
/-- Behind the delete of the key, and the result's store. -/
theorem take_end (h : CalOf w hb db mb W lb ov ds L fv) {S : Nat → Prop} (hS : ∀ k, COwn hb db mb lb ov ds fv k → S k) (hSl : ∀ k, S k → k < w.heap.size) (hm : TakeMid w hb db mb W lb ov ds L fv x B0 B w1) (hk2 : KeptOff (fun k => k = mb) w1 w2) (hB : B ≠ mb) :
    BoxM w2 B zeroM ∧ ∀ T', (x :: T').Perm (ds.flatMap L) → KeysAtC w2 mb T' → (∀ T'', (x :: T'').Perm (ds.flatMap L) → InOrder ltM T'' → T' = T'') → w.heap.size ≤ B → CalAtC (w2.setRow B x.cells) hb S T' ∧ CStep w (w2.setRow B x.cells) S S := by
  obtain ⟨ov', ds', L', fv', h1, h2, h3, h4, h5, h6, h7, h8⟩ := hm
  refine ⟨h7.kept hk2 hB, fun T' hp hK huq hBw => ?_⟩
  have k3 := KeptOff.row w2 B x.cells
  have hmb : ∀ k, DOwn db lb ov' ds' fv' k → k ≠ mb := fun k e => (h.off (h6 k e)).2
  have hD2 := (h2.kept hk2 hmb).kept k3 (fun k e e2 => by have := h.own_lt (.inr (.inr (h6 k e))); omega)
  have e : T' = ds'.flatMap L' := huq _ h3 (days_order h2.width h2.days)
  subst e
  have hsz := h5.size
  have hl := fun k (e : S k) => hSl k e
  refine ⟨⟨db, mb, W, lb, ov', ds', L', fv', ⟨?_, hD2, hK.kept k3 (Ne.symm hB), h.apart⟩, rfl, ?_, ?_⟩, ?_, fun k e => .inl e⟩
  · exact ((k3.block hb (Nat.lt_of_lt_of_le h1.lt hk2.size) (fun e => by have := h.row.lt; omega)).trans (hk2.block hb h1.lt h.hb_mb)).trans h1
  · rintro k (e | e | e)
    · exact hS k (.inl e)
    · exact hS k (.inr (.inl e))
    · exact hS k (.inr (.inr (h6 k e)))
  · intro k e
    have := hl k e
    exact Nat.lt_of_lt_of_le (Nat.lt_of_lt_of_le (Nat.lt_of_lt_of_le this hsz) hk2.size) k3.size
  · exact ((h5.mono (fun k _ e => hS k e)).trans (hk2.mono (fun k _ e => hS k (.inr (.inl e))))).then_new k3 (fun k hk e => by omega)
end
end Go.Proofs.YtjlbkdghlijoeaaGreat
namespace Go.Proofs.YtjlbkdghlijoeaaGreat
open Go.ChangeShapes Go.WideShapes Go.ChangeAt Go.Shelf Go.RowKit Go.Lib Go.Sort Go.Deep Go.Maps
set_option linter.unusedVariables false

theorem lookSend {w : World} {mb n : Nat} {T : List M} (h : SendsAt w mb n T) {f u : Int} (hf : (Lit.int .i64 f).wf = true) (hu : (Lit.int .i64 u).wf = true) :
    (Instr.lookup 84 (.map (some mb)) (.agg #[.int .i64 f, .int .i64 u]) true).run Tryz.prog w = .ok (.tuple #[.agg #[], .bool (hasS T f u)]) w := by
  obtain ⟨D, h1, h2⟩ := h
  obtain ⟨v, ps, hrun, hv⟩ := h1.look_ok sendLawH Tryz.underlying84 (unitZero w) unitElem_mk (keyOf_sendH hf hu)
  obtain ⟨rfl, _⟩ := unitElem_inv hv
  rw [← h2 f u hf hu]
  exact hrun
theorem SendsAt.alloc {w : World} {mb n : Nat} {T : List M} (h : SendsAt w mb n T) (o : Obj) : SendsAt (w.alloc o) mb n T := h.block (Below.heap_alloc w o mb h.lt)

/-- The queue's two cells. -/
def HeapOf (w : World) (hb tb mb : Nat) : Prop := w.heap[hb]? = some (.cells #[.pointer (some ⟨tb, 0, none⟩), .map (some mb)] 86)
theorem HeapOf.c0 {w : World} {hb tb mb : Nat} (h : HeapOf w hb tb mb) : w.cell? ⟨hb, 0, none⟩ = some (.pointer (some ⟨tb, 0, none⟩)) := by unfold HeapOf at h; simp [World.cell?, h]
theorem HeapOf.c1 {w : World} {hb tb mb : Nat} (h : HeapOf w hb tb mb) : w.cell? ⟨hb, 1, none⟩ = some (.map (some mb)) := by unfold HeapOf at h; simp [World.cell?, h]
theorem HeapOf.lt {w : World} {hb tb mb : Nat} (h : HeapOf w hb tb mb) : hb < w.heap.size := (Array.getElem?_eq_some_iff.1 h).1
theorem HeapOf.kept {S : Nat → Prop} {w w' : World} {hb tb mb : Nat} (h : HeapOf w hb tb mb) (hk : KeptOff S w w') (hn : ¬ S hb) : HeapOf w' hb tb mb := (hk.block hb h.lt hn).trans h

theorem made_okH {w : World} {hb tb mb : Nat} (h : HeapOf w hb tb mb) : Calls Tryz.prog 68 #[.pointer (some ⟨hb, 0, none⟩)] w fun e w' => e = .returned (.bool true) ∧ w = w' := by
  have c0 := h.c0
  clear h
  go_enter Tryz.func68, Tryz.ntmps68
  go_wp2
  go_ret
  exact ⟨rfl, rfl⟩
theorem made_nilH (w : World) : Calls Tryz.prog 68 #[.pointer none] w fun e w' => e = .returned (.bool false) ∧ w = w' := by
  go_enter Tryz.func68, Tryz.ntmps68
  go_wp2
  go_ret
  exact ⟨rfl, rfl⟩
theorem made_zeroH {w : World} {hb : Nat} (c0 : w.cell? ⟨hb, 0, none⟩ = some (.pointer none)) : Calls Tryz.prog 68 #[.pointer (some ⟨hb, 0, none⟩)] w fun e w' => e = .returned (.bool false) ∧ w = w' := by
  go_enter Tryz.func68, Tryz.ntmps68
  go_wp2
  go_ret
  exact ⟨rfl, rfl⟩
theorem sending_anyH (m : M) (w : World) : Calls Tryz.prog 73 #[m.val] w fun e w' => e = .returned (sendV m.k.f m.u) ∧ Read w w' := by
  obtain ⟨⟨t, f, s⟩, tt, v, u, an⟩ := m
  simp only [M.val, sendV]
  go_enter Tryz.func73, Tryz.ntmps73
  go_wp2
  refine bodyPost_ret (v := .agg #[.int .i64 f, .int .i64 u]) (by simp [results, Tryz.results73, go_sem]) rfl ⟨rfl, ?_⟩
  exact Read.two _ _ _

set_option maxHeartbeats 1000000 in
theorem has_anyH {w : World} {hb tb mb n : Nat} {T : List M} (h : HeapOf w hb tb mb) (hs : SendsAt w mb n T) {f u : Int} (hf : (Lit.int .i64 f).wf = true) (hu : (Lit.int .i64 u).wf = true) :
    Calls Tryz.prog 71 #[.pointer (some ⟨hb, 0, none⟩), .agg #[.int .i64 f, .int .i64 u]] w fun e w' => e = .returned (.bool (hasS T f u)) ∧ Read w w' := by
  have mixed := mixed
  obtain ⟨r, hr⟩ : ∃ r, hasS T f u = r := ⟨_, rfl⟩
  have hr' := Lib.hid hr
  rw [hr]
  clear hr
  have hs1 := Lib.hid (hs.alloc (.cells #[.int .i64 f, .int .i64 u] 130))
  have h1 : Hid (HeapOf (w.alloc (.cells #[.int .i64 f, .int .i64 u] 130)) hb tb mb) := (Below.heap_alloc w _ hb h.lt).trans h
  have b0 : (w.alloc (.cells #[.int .i64 f, .int .i64 u] 130)).cell? ⟨w.heap.size, 0, none⟩ = some (.int .i64 f) := by simp
  have b1 : (w.alloc (.cells #[.int .i64 f, .int .i64 u] 130)).cell? ⟨w.heap.size, 1, none⟩ = some (.int .i64 u) := by simp
  have hrd : Hid (Read w (w.alloc (.cells #[.int .i64 f, .int .i64 u] 130))) := Read.mk _ _
  clear h hs
  go_enter Tryz.func71, Tryz.ntmps71
  go_wp2_with fail
  generalize w.alloc (.cells #[.int .i64 f, .int .i64 u] 130) = W at hs1 h1 b0 b1 hrd ⊢
  have c1 := h1.out.c1
  have hsd : SendsAt W.drew mb n T := hs1.out.block rfl
  have hl := lookSend hsd hf hu
  have hl2 := fun o => lookSend (hsd.alloc o) hf hu
  rw [hr'.out] at hl
  simp only [hr'.out] at hl2
  clear hsd
  go_region_held3 (fun w' => w'.cell? ⟨hb, 1, none⟩ = some (.map (some mb)) ∧ w'.cell? ⟨w.heap.size, 0, none⟩ = some (.int .i64 f) ∧ w'.cell? ⟨w.heap.size, 1, none⟩ = some (.int .i64 u) ∧ (Instr.lookup 84 (.map (some mb)) (.agg #[.int .i64 f, .int .i64 u]) true).run Tryz.prog w' = .ok (.tuple #[.agg #[], .bool r]) w')
    (first | exact ⟨c1, b0, b1, hl⟩ | exact ⟨Lib.cell?_alloc_some _ c1, Lib.cell?_alloc_some _ b0, Lib.cell?_alloc_some _ b1, hl2 _⟩ | go_keep)
    (fail)
  all_goals
    clear c1 b0 b1 hl hl2
    go_wp2
    go_ret
    exact ⟨rfl, hrd.out.trans ((Read.drew W 1).trans (Read.mk _ _))⟩
end Go.Proofs.YtjlbkdghlijoeaaGreat
