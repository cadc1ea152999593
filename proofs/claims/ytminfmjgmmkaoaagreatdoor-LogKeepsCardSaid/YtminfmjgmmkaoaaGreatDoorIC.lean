/-
  A range over a function whose iterator reads what its rounds change in part (Rd); the same within a round. No program in this text.
  The state ahead of a step, reckoned.
-/
import Derived.Test.YtminfmjgmmkaoaaGreatDoorIB
namespace Go.Proofs.YtminfmjgmmkaoaaGreatDoor
open Go Go.RowKit
set_option linter.unusedVariables false

/-- The iterator hands over T, one by one, as long as rounds go on; Rd holds of each world between two rounds. -/
def GivesR {α : Type} (P : Program) (g : Nat) (lb : Array Value) (Pay : (Nat → Prop) → α → Array Value → World → Prop) (T : List α) (H : Nat → Prop) (Rd : World → Prop) (w : World) : Prop :=
  ∀ (l : Nat) (J K : (Nat → Prop) → List α → World → Prop) (W : World), KeptOff (fun k => ¬ H k) w W → StepsOn J → StepsOn K → (∀ Z s X, J Z s X → Rd X) → RoundsGo P l H Pay T J K → J (fun _ => False) [] W →
    Calls P g (#[.func (.yield l) #[] #[]] ++ lb) W fun e W' => (∃ v, e = .returned v) ∧ ∃ Z, J Z T W' ∨ ∃ pre, pre <+: T ∧ K Z pre W'
theorem GivesR.later {α : Type} {P : Program} {g : Nat} {lb : Array Value} {Pay : (Nat → Prop) → α → Array Value → World → Prop} {T : List α} {H : Nat → Prop} {Rd : World → Prop} {w w' : World} (h : GivesR P g lb Pay T H Rd w) (hk : KeptOff (fun k => ¬ H k) w w') : GivesR P g lb Pay T H Rd w' :=
  fun l J K W hW => h l J K W (hk.trans hW)
theorem GivesZ.toR {α : Type} {P : Program} {g : Nat} {lb : Array Value} {Pay : (Nat → Prop) → α → Array Value → World → Prop} {T : List α} {H : Nat → Prop} {Rd : World → Prop} {w : World} (h : GivesZ P g lb Pay T H w) : GivesR P g lb Pay T H Rd w :=
  fun l J K W hW hJ hK _ hg h0 => h l J K W hW hJ hK hg h0
theorem wpIn_rangeFunc_R {n : Nat} {P : Program} {w : World} {α : Type} {g : Operand} {ps : Array Tmp} {assign body : Code} {Q : Exit → Act → World → Prop} {a : Act}
    {gf : Nat} {lb : Array Value} (hg : a.eval g = .func (.func gf) #[] lb) (eg : ∀ args w, (callFunc gf args).run P w = .ok (.enter gf args) w)
    {Pay : (Nat → Prop) → α → Array Value → World → Prop} {T : List α} {H : Nat → Prop} {Rd : World → Prop} (hH : ∀ k, H k → k < w.heap.size) (hseq : GivesR P gf lb Pay T H Rd w) (hps : ∀ G x vs X, Pay G x vs X → vs.size = ps.size)
    (I : (Nat → Prop) → List α → World → Prop) (Ix : Code → (Nat → Prop) → List α → World → Prop) (hI : StepsOn I) (hIx : ∀ c, StepsOn (Ix c)) (hIR : ∀ Z s X, I Z s X → Rd X) (h0 : I (fun _ => False) [] w)
    (hround : ∀ (l : Nat) (Z G : Nat → Prop) (pre : List α) (x : α) (vs : Array Value) (W : World), I Z pre W → pre ++ [x] <+: T → Pay G x vs W → (∀ k, G k → Z k) → (∀ k, Z k → k < W.heap.size) → w.heap.size + 2 ≤ W.heap.size → vs.size = ps.size →
      assign.wpIn (Fence.wide.inRound l) n P (Exit.then (fun a' Wa => KeptOff (fun k => ¬ Z k ∧ ¬ H k) W Wa ∧ ∀ Wb, KeptOff (fun k => Z k ∧ ¬ G k) Wa Wb → Wb.heap.size = Wa.heap.size → (∃ r, Wb.heap[l]? = some (.loop r)) → Z l → ¬ G l → w.heap.size ≤ l →
        body.wpIn (Fence.wide.inRound l) n P (fun e _ W3 => KeptOff (fun k => ¬ Z k ∧ ¬ H k) Wb W3 ∧ LeftZ I Ix (fun k => Z k ∧ ¬ G k) (pre ++ [x]) W3 e) a' Wb) (fun _ _ _ => False))
        { tmps := (ps.zip vs).foldl (fun t (p, v) => t.setIfInBounds p v) a.tmps, defers := [] } W)
    (hdone : ∀ (D : Nat) (Z : Nat → Prop) (W : World), w.heap.size ≤ D → Z D → I Z T W → W.heap[D]? = some (.deferred (some [])) → Q .normal { a with defers := { target := .collected D, args := #[] } :: a.defers } W)
    (hstop : ∀ (D : Nat) (c : Code) (Z : Nat → Prop) (pre : List α) (W : World), w.heap.size ≤ D → Z D → pre <+: T → Ix c Z pre W → W.heap[D]? = some (.deferred (some [])) → c.wpIn Fence.wide n P Q { a with defers := { target := .collected D, args := #[] } :: a.defers } W) :
    (Code.rangeFunc g ps assign body).wpIn Fence.wide n P Q a w := by
  refine wpIn_rangeFunc fun fn hfn => ?_
  obtain ⟨rec_, hrec⟩ : ∃ rec_ : LoopState → Option Code → Loop, rec_ = fun st pe => { state := st, pending := pe, fn := fn, tmps := a.tmps, params := ps, assign := assign, body := body, defers := w.heap.size } := ⟨_, rfl⟩
  obtain ⟨W1, hW1⟩ : ∃ W1, W1 = (w.alloc (.deferred (some []))).alloc (.loop (rec_ .ready none)) := ⟨_, rfl⟩
  have hs1 : W1.heap.size = w.heap.size + 2 := by rw [hW1]; simp
  have hb1 : Below w.heap.size w W1 := by rw [hW1]; exact ((Below.refl _ w).alloc (Nat.le_refl _) _).alloc (by simp) _
  have hL1 : W1.heap[w.heap.size + 1]? = some (.loop (rec_ .ready none)) := by
    rw [hW1]
    have := World.alloc_heap_new (w.alloc (.deferred (some []))) (.loop (rec_ .ready none))
    rwa [World.size_alloc] at this
  have hD1 : W1.heap[w.heap.size]? = some (.deferred (some [])) := by
    rw [hW1]
    exact (Below.heap_alloc _ _ _ (by simp)).trans (World.alloc_heap_new w _)
  -- the loop's two blocks
  obtain ⟨D2, hD2⟩ : ∃ D2 : Nat → Prop, D2 = fun k => k = w.heap.size ∨ k = w.heap.size + 1 := ⟨_, rfl⟩
  have d0 : D2 w.heap.size := by rw [hD2]; exact .inl rfl
  have d1 : D2 (w.heap.size + 1) := by rw [hD2]; exact .inr rfl
  have dlt : ∀ k, D2 k → w.heap.size ≤ k ∧ k < w.heap.size + 2 := fun k hk => by
    rw [hD2] at hk
    rcases hk with rfl | rfl <;> omega
  refine ⟨w.heap.size + 1, [{ target := .collected w.heap.size, args := #[] }], W1, { target := .fn (.func gf) lb, args := #[.func (.yield (w.heap.size + 1)) #[] #[]] }, W1, gf, #[.func (.yield (w.heap.size + 1)) #[] #[]] ++ lb, W1, ?_, ?_, ?_, ?_, fun h => (by cases h), ?_⟩
  · rw [hW1, hrec]; exact run_enterLoop_outer _ _ _ _ _
  · simp only [resolve, hg]
    simp [go_sem]
  · intro f' hf'
    trivial
  · simp [invoke, go_sem, eg]
  · refine callsIn_wide.2 ?_
    -- what stands between two rounds, with the loop's blocks
    let Bk : LoopState → Option Code → (Nat → Prop) → World → Prop := fun st pe Z X => w.heap.size + 2 ≤ X.heap.size ∧ X.heap[w.heap.size + 1]? = some (.loop (rec_ st pe)) ∧ X.heap[w.heap.size]? = some (.deferred (some [])) ∧ ∀ k, D2 k → ¬ Z k
    have hBk : ∀ {st pe Z Z' X Y}, Bk st pe Z X → KeptOff Z X Y → (∀ k, Z' k → Z k ∨ X.heap.size ≤ k) → Bk st pe Z' Y := fun {st pe Z Z' X Y} h hk hz =>
      ⟨Nat.le_trans h.1 hk.size, (hk.block _ (by have := h.1; omega) (h.2.2.2 _ d1)).trans h.2.1, (hk.block _ (by have := h.1; omega) (h.2.2.2 _ d0)).trans h.2.2.1, fun k hd hz' => by
        rcases hz k hz' with e | e
        · exact h.2.2.2 k hd e
        · have := h.1; have := (dlt k hd).2; omega⟩
    have hZ2 : ∀ {Z Z' : Nat → Prop} {X : World}, (∀ k, Z' k → Z k ∨ X.heap.size ≤ k) → ∀ k, (Z' k ∨ D2 k) → (Z k ∨ D2 k) ∨ X.heap.size ≤ k := fun h k hk => by
      rcases hk with e | e
      · rcases h k e with e | e
        · exact .inl (.inl e)
        · exact .inr e
      · exact .inl (.inr e)
    refine (hseq (w.heap.size + 1) (fun Z pre X => I (fun k => Z k ∨ D2 k) pre X ∧ Bk .ready none Z X) (fun Z pre X => ∃ c, Ix c (fun k => Z k ∨ D2 k) pre X ∧ Bk .done (some c) Z X) W1 (.of_below hb1)
      (fun Z Z' s X Y h hk hz => ⟨hI _ _ s X Y h.1 (hk.mono (fun k _ e => .inl e)) (hZ2 hz), hBk h.2 hk hz⟩)
      (fun Z Z' s X Y h hk hz => by
        obtain ⟨c, h1, h2⟩ := h
        exact ⟨c, hIx c _ _ s X Y h1 (hk.mono (fun k _ e => .inl e)) (hZ2 hz), hBk h2 hk hz⟩)
      (fun Z s X h => hIR _ s X h.1) ?_ ⟨hI _ _ [] w W1 h0 (.of_below hb1) (fun k hk => by
        rcases hk with e | e
        · exact e.elim
        · exact .inr (dlt k e).1), by omega, hL1, hD1, fun _ _ e => e⟩).mono ?_
    · rintro Z G pre x vs X ⟨hi, hz, hl, hd, hn⟩ hpre hpay hG hZ
      have hvs := hps G x vs X hpay
      have hLH : ∀ k, D2 k → ¬ H k := fun k hk hh => by have := hH k hh; have := (dlt k hk).1; omega
      have hw := hround (w.heap.size + 1) (fun k => Z k ∨ D2 k) G pre x vs X hi hpre hpay (fun k e => .inl (hG k e)) (fun k e => by
        rcases e with e | e
        · exact hZ k e
        · have := (dlt k e).2; omega) hz hvs
      have hy := run_yield (P := P) (args := vs) hl (by rw [hrec]; exact hvs)
      rw [hrec] at hy
      refine ⟨fn, _, assign, body, hy, roundIn_wide (n := n) (roundIn_of_wpIn hfn ?_)⟩
      clear hy
      refine wpIn_mono hw ?_
      rintro e a' Wa hp
      cases e with
      | normal =>
        obtain ⟨hka, hbody⟩ := hp
        have hka0 : KeptOff (fun k => ¬ Z k ∧ ¬ H k) X Wa := hka.mono (fun k _ h => ⟨fun e => h.1 (.inl e), h.2⟩)
        have hla := (hka.block _ (by omega) (fun e => e.1 (.inr d1))).trans hl
        have hda := (hka.block _ (by omega) (fun e => e.1 (.inr d0))).trans hd
        have hsa : w.heap.size + 2 ≤ Wa.heap.size := Nat.le_trans hz hka.size
        have hkp := KeptOff.putObj Wa (w.heap.size + 1) (.loop { rec_ .ready none with state := .busy })
        refine ⟨_, run_beginRound hla (by rw [hrec]), wpIn_mono (hbody _ (hkp.mono (fun k _ e => by subst e; exact ⟨.inr d1, fun hg => hn _ d1 (hG _ hg)⟩)) (by simp) ⟨_, World.putObj_heap_same (by omega)⟩ (.inr d1) (fun hg => hn _ d1 (hG _ hg)) (by omega)) ?_⟩
        have hl2 : (Wa.putObj (w.heap.size + 1) (.loop { rec_ .ready none with state := .busy })).heap[w.heap.size + 1]? = some (.loop { rec_ .ready none with state := .busy }) := World.putObj_heap_same (by omega)
        have hd2 : (Wa.putObj (w.heap.size + 1) (.loop { rec_ .ready none with state := .busy })).heap[w.heap.size]? = some (.deferred (some [])) := (World.putObj_heap_other (by omega)).trans hda
        have hs2 : (Wa.putObj (w.heap.size + 1) (.loop { rec_ .ready none with state := .busy })).heap.size = Wa.heap.size := by simp
        generalize Wa.putObj (w.heap.size + 1) (.loop { rec_ .ready none with state := .busy }) = Wb at *
        have fin : ∀ (jump : Option Code) (W3 : World), KeptOff (fun k => ¬ (Z k ∨ D2 k) ∧ ¬ H k) Wb W3 →
            (Instr.endRound (w.heap.size + 1) jump).run P W3 = .ok (.bool jump.isNone) (W3.putObj (w.heap.size + 1) (.loop (rec_ (if jump.isNone then .ready else .done) jump))) ∧
            KeptOff (fun k => ¬ Z k ∧ ¬ H k) X (W3.putObj (w.heap.size + 1) (.loop (rec_ (if jump.isNone then .ready else .done) jump))) ∧
            Bk (if jump.isNone then .ready else .done) jump (fun k => Z k ∧ ¬ G k) (W3.putObj (w.heap.size + 1) (.loop (rec_ (if jump.isNone then .ready else .done) jump))) := fun jump W3 hk3 => by
          have hs3 : w.heap.size + 2 ≤ W3.heap.size := Nat.le_trans (by omega) hk3.size
          have hl3 := (hk3.block _ (by omega) (fun e => e.1 (.inr d1))).trans hl2
          have hd3 := (hk3.block _ (by omega) (fun e => e.1 (.inr d0))).trans hd2
          have hr := run_endRound (P := P) jump hl3
          have hL' : ∀ k, k = w.heap.size + 1 → ¬ Z k ∧ ¬ H k := fun k e => by subst e; exact ⟨hn _ d1, hLH _ d1⟩
          have hkp' := (KeptOff.putObj W3 (w.heap.size + 1) (.loop (rec_ (if jump.isNone then .ready else .done) jump)))
          refine ⟨?_, ((hka0.trans (hkp.mono (fun k _ e => hL' k e))).trans (hk3.mono (fun k _ h => ⟨fun e => h.1 (.inl e), h.2⟩))).trans (hkp'.mono (fun k _ e => hL' k e)), by simpa using hs3, World.putObj_heap_same (by omega), (World.putObj_heap_other (by omega)).trans hd3, fun k hk e => hn k hk e.1⟩
          rw [hrec] at hr ⊢
          exact hr
        have hZf : ∀ (W3 : World) (k : Nat), ((Z k ∧ ¬ G k) ∨ D2 k) → ((Z k ∨ D2 k) ∧ ¬ G k) ∨ W3.heap.size ≤ k := fun W3 k hk => by
          rcases hk with e | e
          · exact .inl ⟨.inl e.1, e.2⟩
          · exact .inl ⟨.inr e, fun hg => hn k e (hG k hg)⟩
        have hLZ : ∀ k, k = w.heap.size + 1 → (Z k ∨ D2 k) ∧ ¬ G k := fun k e => by subst e; exact ⟨.inr d1, fun hg => hn _ d1 (hG _ hg)⟩
        rintro e2 a3 W3 ⟨hk3, hp3⟩
        cases e2 with
        | normal =>
          obtain ⟨hr, hkx, hbk⟩ := fin none W3 hk3
          exact ⟨_, _, hr, true, rfl, hkx, hI _ _ _ _ _ hp3 ((KeptOff.putObj W3 _ _).mono (fun k _ e => hLZ k e)) (hZf W3), hbk⟩
        | ret =>
          obtain ⟨hr, hkx, hbk⟩ := fin (some .ret) W3 hk3
          exact ⟨_, _, hr, false, rfl, hkx, .ret, hIx _ _ _ _ _ _ hp3 ((KeptOff.putObj W3 _ _).mono (fun k _ e => hLZ k e)) (hZf W3), hbk⟩
        | exit id =>
          obtain ⟨hr, hkx, hbk⟩ := fin (some (.exit id)) W3 hk3
          exact ⟨_, _, hr, false, rfl, hkx, .exit id, hIx _ _ _ _ _ _ hp3 ((KeptOff.putObj W3 _ _).mono (fun k _ e => hLZ k e)) (hZf W3), hbk⟩
        | goto t =>
          obtain ⟨hr, hkx, hbk⟩ := fin (some (.goto t)) W3 hk3
          exact ⟨_, _, hr, false, rfl, hkx, .goto t, hIx _ _ _ _ _ _ hp3 ((KeptOff.putObj W3 _ _).mono (fun k _ e => hLZ k e)) (hZf W3), hbk⟩
        | panic ch => exact hp3.elim
        | outgrown => exact hp3.elim
      | _ => exact hp.elim
    · rintro e W2 ⟨⟨v, rfl⟩, Z, (⟨hi, hz, hl, hd, hn⟩ | ⟨pre, hpre, c, hi, hz, hl, hd, hn⟩)⟩
      · have hr := run_endLoop (P := P) hl (by rw [hrec]; simp)
        rw [show (rec_ .ready none).pending = none by rw [hrec]] at hr
        refine ⟨none, _, hr, hdone _ (fun k => Z k ∨ D2 k) _ (Nat.le_refl _) (.inr d0) (hI _ _ _ _ _ hi ((KeptOff.putObj W2 _ _).mono (fun k _ e => .inr (e ▸ d1))) (fun k e => .inl e)) ((World.putObj_heap_other (by omega)).trans hd)⟩
      · have hr := run_endLoop (P := P) hl (by rw [hrec]; simp)
        rw [show (rec_ .done (some c)).pending = some c by rw [hrec]] at hr
        refine ⟨some c, _, hr, hstop _ c (fun k => Z k ∨ D2 k) pre _ (Nat.le_refl _) (.inr d0) hpre (hIx c _ _ _ _ _ hi ((KeptOff.putObj W2 _ _).mono (fun k _ e => .inr (e ▸ d1))) (fun k e => .inl e)) ((World.putObj_heap_other (by omega)).trans hd)⟩
theorem wpIn_rangeFunc_RN {n : Nat} {P : Program} {w : World} {α : Type} {g : Operand} {ps : Array Tmp} {assign body : Code} {Q : Exit → Act → World → Prop} {a : Act}
    {gf : Nat} {lb : Array Value} (hg : a.eval g = .func (.func gf) #[] lb) (eg : ∀ args w, (callFunc gf args).run P w = .ok (.enter gf args) w)
    {Pay : (Nat → Prop) → α → Array Value → World → Prop} {T : List α} {H : Nat → Prop} {Rd : World → Prop} {l0 : Nat} {r0 : Loop} (hl0 : w.heap[l0]? = some (.loop r0)) (hH : ∀ k, H k → k < w.heap.size) (hseq : GivesR P gf lb Pay T H Rd w) (hps : ∀ G x vs X, Pay G x vs X → vs.size = ps.size)
    (I : (Nat → Prop) → List α → World → Prop) (Ix : Code → (Nat → Prop) → List α → World → Prop) (hI : StepsOn I) (hIx : ∀ c, StepsOn (Ix c)) (hIR : ∀ Z s X, I Z s X → Rd X) (h0 : I (fun _ => False) [] w)
    (hround : ∀ (l : Nat) (Z G : Nat → Prop) (pre : List α) (x : α) (vs : Array Value) (W : World), I Z pre W → pre ++ [x] <+: T → Pay G x vs W → (∀ k, G k → Z k) → (∀ k, Z k → k < W.heap.size) → w.heap.size + 1 ≤ W.heap.size → vs.size = ps.size →
      assign.wpIn (Fence.wide.inRound l) n P (Exit.then (fun a' Wa => KeptOff (fun k => ¬ Z k ∧ ¬ H k) W Wa ∧ ∀ Wb, KeptOff (fun k => Z k ∧ ¬ G k) Wa Wb → Wb.heap.size = Wa.heap.size →
        body.wpIn (Fence.wide.inRound l) n P (fun e _ W3 => KeptOff (fun k => ¬ Z k ∧ ¬ H k) Wb W3 ∧ LeftZ I Ix (fun k => Z k ∧ ¬ G k) (pre ++ [x]) W3 e) a' Wb) (fun _ _ _ => False))
        { tmps := (ps.zip vs).foldl (fun t (p, v) => t.setIfInBounds p v) a.tmps, defers := [] } W)
    (hdone : ∀ (Z : Nat → Prop) (W : World), I Z T W → Q .normal a W)
    (hstop : ∀ (c : Code) (Z : Nat → Prop) (pre : List α) (W : World), pre <+: T → Ix c Z pre W → c.wpIn (Fence.wide.inRound l0) n P Q a W) :
    (Code.rangeFunc g ps assign body).wpIn (Fence.wide.inRound l0) n P Q a w := by
  refine wpIn_rangeFunc fun fn hfn => ?_
  obtain ⟨rec_, hrec⟩ : ∃ rec_ : LoopState → Option Code → Loop, rec_ = fun st pe => { state := st, pending := pe, fn := fn, tmps := a.tmps, params := ps, assign := assign, body := body, defers := r0.defers } := ⟨_, rfl⟩
  obtain ⟨W1, hW1⟩ : ∃ W1, W1 = w.alloc (.loop (rec_ .ready none)) := ⟨_, rfl⟩
  have hs1 : W1.heap.size = w.heap.size + 1 := by rw [hW1]; simp
  have hb1 : Below w.heap.size w W1 := by rw [hW1]; exact (Below.refl _ w).alloc (Nat.le_refl _) _
  have hL1 : W1.heap[w.heap.size]? = some (.loop (rec_ .ready none)) := by
    rw [hW1]
    exact World.alloc_heap_new w _
  refine ⟨w.heap.size, [], W1, { target := .fn (.func gf) lb, args := #[.func (.yield w.heap.size) #[] #[]] }, W1, gf, #[.func (.yield w.heap.size) #[] #[]] ++ lb, W1, ?_, ?_, ?_, ?_, fun h => (by cases h), ?_⟩
  · rw [hW1, hrec]; exact run_enterLoop_inner hl0 _ _ _ _ _
  · simp only [resolve, hg]
    simp [go_sem]
  · intro f' hf'
    trivial
  · simp [invoke, go_sem, eg]
  · refine (callsIn_wide (n := n - 1)).2 ?_
    let Bk : LoopState → Option Code → (Nat → Prop) → World → Prop := fun st pe Z X => w.heap.size + 1 ≤ X.heap.size ∧ X.heap[w.heap.size]? = some (.loop (rec_ st pe)) ∧ ¬ Z w.heap.size
    have hBk : ∀ {st pe Z Z' X Y}, Bk st pe Z X → KeptOff Z X Y → (∀ k, Z' k → Z k ∨ X.heap.size ≤ k) → Bk st pe Z' Y := fun {st pe Z Z' X Y} h hk hz =>
      ⟨Nat.le_trans h.1 hk.size, (hk.block _ (by have := h.1; omega) h.2.2).trans h.2.1, fun hz' => by
        rcases hz _ hz' with e | e
        · exact h.2.2 e
        · have := h.1; omega⟩
    have hZ2 : ∀ {Z Z' : Nat → Prop} {X : World}, (∀ k, Z' k → Z k ∨ X.heap.size ≤ k) → ∀ k, (Z' k ∨ k = w.heap.size) → (Z k ∨ k = w.heap.size) ∨ X.heap.size ≤ k := fun h k hk => by
      rcases hk with e | e
      · rcases h k e with e | e
        · exact .inl (.inl e)
        · exact .inr e
      · exact .inl (.inr e)
    refine Calls.mono (hseq w.heap.size (fun Z pre X => I (fun k => Z k ∨ k = w.heap.size) pre X ∧ Bk .ready none Z X) (fun Z pre X => ∃ c, Ix c (fun k => Z k ∨ k = w.heap.size) pre X ∧ Bk .done (some c) Z X) W1 (.of_below hb1)
      (fun Z Z' s X Y h hk hz => ⟨hI _ _ s X Y h.1 (hk.mono (fun k _ e => .inl e)) (hZ2 hz), hBk h.2 hk hz⟩)
      (fun Z Z' s X Y h hk hz => by
        obtain ⟨c, h1, h2⟩ := h
        exact ⟨c, hIx c _ _ s X Y h1 (hk.mono (fun k _ e => .inl e)) (hZ2 hz), hBk h2 hk hz⟩)
      (fun Z s X h => hIR _ s X h.1) ?_ ⟨hI _ _ [] w W1 h0 (.of_below hb1) (fun k hk => by
        rcases hk with e | e
        · exact e.elim
        · exact .inr (Nat.le_of_eq e.symm)), by omega, hL1, fun e => e⟩) ?_
    · rintro Z G pre x vs X ⟨hi, hz, hl, hn⟩ hpre hpay hG hZ
      have hvs := hps G x vs X hpay
      have hLH : ¬ H w.heap.size := fun hh => by have := hH _ hh; omega
      have hw := hround w.heap.size (fun k => Z k ∨ k = w.heap.size) G pre x vs X hi hpre hpay (fun k e => .inl (hG k e)) (fun k e => by
        rcases e with e | e
        · exact hZ k e
        · omega) hz hvs
      have hy := run_yield (P := P) (args := vs) hl (by rw [hrec]; exact hvs)
      rw [hrec] at hy
      refine ⟨fn, _, assign, body, hy, roundIn_wide (n := n) (roundIn_of_wpIn hfn ?_)⟩
      clear hy
      refine wpIn_mono hw ?_
      rintro e a' Wa hp
      cases e with
      | normal =>
        obtain ⟨hka, hbody⟩ := hp
        have hka0 : KeptOff (fun k => ¬ Z k ∧ ¬ H k) X Wa := hka.mono (fun k _ h => ⟨fun e => h.1 (.inl e), h.2⟩)
        have hla := (hka.block _ (by omega) (fun e => e.1 (.inr rfl))).trans hl
        have hsa : w.heap.size + 1 ≤ Wa.heap.size := Nat.le_trans hz hka.size
        have hkp := KeptOff.putObj Wa w.heap.size (.loop { rec_ .ready none with state := .busy })
        refine ⟨_, run_beginRound hla (by rw [hrec]), wpIn_mono (hbody _ (hkp.mono (fun k _ e => by subst e; exact ⟨.inr rfl, fun hg => hn (hG _ hg)⟩)) (by simp)) ?_⟩
        have hl2 : (Wa.putObj w.heap.size (.loop { rec_ .ready none with state := .busy })).heap[w.heap.size]? = some (.loop { rec_ .ready none with state := .busy }) := World.putObj_heap_same (by omega)
        have hs2 : (Wa.putObj w.heap.size (.loop { rec_ .ready none with state := .busy })).heap.size = Wa.heap.size := by simp
        generalize Wa.putObj w.heap.size (.loop { rec_ .ready none with state := .busy }) = Wb at *
        have fin : ∀ (jump : Option Code) (W3 : World), KeptOff (fun k => ¬ (Z k ∨ k = w.heap.size) ∧ ¬ H k) Wb W3 →
            (Instr.endRound w.heap.size jump).run P W3 = .ok (.bool jump.isNone) (W3.putObj w.heap.size (.loop (rec_ (if jump.isNone then .ready else .done) jump))) ∧
            KeptOff (fun k => ¬ Z k ∧ ¬ H k) X (W3.putObj w.heap.size (.loop (rec_ (if jump.isNone then .ready else .done) jump))) ∧
            Bk (if jump.isNone then .ready else .done) jump (fun k => Z k ∧ ¬ G k) (W3.putObj w.heap.size (.loop (rec_ (if jump.isNone then .ready else .done) jump))) := fun jump W3 hk3 => by
          have hs3 : w.heap.size + 1 ≤ W3.heap.size := Nat.le_trans (by omega) hk3.size
          have hl3 := (hk3.block _ (by omega) (fun e => e.1 (.inr rfl))).trans hl2
          have hr := run_endRound (P := P) jump hl3
          have hL' : ∀ k, k = w.heap.size → ¬ Z k ∧ ¬ H k := fun k e => by subst e; exact ⟨hn, hLH⟩
          have hkp' := (KeptOff.putObj W3 w.heap.size (.loop (rec_ (if jump.isNone then .ready else .done) jump)))
          refine ⟨?_, ((hka0.trans (hkp.mono (fun k _ e => hL' k e))).trans (hk3.mono (fun k _ h => ⟨fun e => h.1 (.inl e), h.2⟩))).trans (hkp'.mono (fun k _ e => hL' k e)), by simpa using hs3, World.putObj_heap_same (by omega), fun e => hn e.1⟩
          rw [hrec] at hr ⊢
          exact hr
        have hZf : ∀ (W3 : World) (k : Nat), ((Z k ∧ ¬ G k) ∨ k = w.heap.size) → ((Z k ∨ k = w.heap.size) ∧ ¬ G k) ∨ W3.heap.size ≤ k := fun W3 k hk => by
          rcases hk with e | e
          · exact .inl ⟨.inl e.1, e.2⟩
          · exact .inl ⟨.inr e, fun hg => hn (e ▸ hG k hg)⟩
        have hLZ : ∀ k, k = w.heap.size → (Z k ∨ k = w.heap.size) ∧ ¬ G k := fun k e => ⟨.inr e, fun hg => hn (e ▸ hG k hg)⟩
        rintro e2 a3 W3 ⟨hk3, hp3⟩
        cases e2 with
        | normal =>
          obtain ⟨hr, hkx, hbk⟩ := fin none W3 hk3
          exact ⟨_, _, hr, true, rfl, hkx, hI _ _ _ _ _ hp3 ((KeptOff.putObj W3 _ _).mono (fun k _ e => hLZ k e)) (hZf W3), hbk⟩
        | ret =>
          obtain ⟨hr, hkx, hbk⟩ := fin (some .ret) W3 hk3
          exact ⟨_, _, hr, false, rfl, hkx, .ret, hIx _ _ _ _ _ _ hp3 ((KeptOff.putObj W3 _ _).mono (fun k _ e => hLZ k e)) (hZf W3), hbk⟩
        | exit id =>
          obtain ⟨hr, hkx, hbk⟩ := fin (some (.exit id)) W3 hk3
          exact ⟨_, _, hr, false, rfl, hkx, .exit id, hIx _ _ _ _ _ _ hp3 ((KeptOff.putObj W3 _ _).mono (fun k _ e => hLZ k e)) (hZf W3), hbk⟩
        | goto t =>
          obtain ⟨hr, hkx, hbk⟩ := fin (some (.goto t)) W3 hk3
          exact ⟨_, _, hr, false, rfl, hkx, .goto t, hIx _ _ _ _ _ _ hp3 ((KeptOff.putObj W3 _ _).mono (fun k _ e => hLZ k e)) (hZf W3), hbk⟩
        | panic ch => exact hp3.elim
        | outgrown => exact hp3.elim
      | _ => exact hp.elim
    · rintro e W2 ⟨⟨v, rfl⟩, Z, (⟨hi, hz, hl, hn⟩ | ⟨pre, hpre, c, hi, hz, hl, hn⟩)⟩
      · have hr := run_endLoop (P := P) hl (by rw [hrec]; simp)
        rw [show (rec_ .ready none).pending = none by rw [hrec]] at hr
        exact ⟨none, _, hr, hdone (fun k => Z k ∨ k = w.heap.size) _ (hI _ _ _ _ _ hi ((KeptOff.putObj W2 _ _).mono (fun k _ e => .inr e)) (fun k e => .inl e))⟩
      · have hr := run_endLoop (P := P) hl (by rw [hrec]; simp)
        rw [show (rec_ .done (some c)).pending = some c by rw [hrec]] at hr
        exact ⟨some c, _, hr, hstop c (fun k => Z k ∨ k = w.heap.size) pre _ hpre (hIx c _ _ _ _ _ hi ((KeptOff.putObj W2 _ _).mono (fun k _ e => .inr e)) (fun k e => .inl e))⟩
end Go.Proofs.YtminfmjgmmkaoaaGreatDoor
namespace Go.Proofs.YtminfmjgmmkaoaaGreatDoor
open Go.ChangeShapes Go.WideShapes Go.ChangeAt Go.Shelf Go.RowKit Go.Lib Go.Sort Go.Deep
set_option linter.unusedVariables false
set_option maxRecDepth 4000
set_option linter.unusedSimpArgs false

/-- What is but read on the way over a stretch's entries. -/
structure SthRd (w : World) (v : Wv) (W : Wd) (S : Sth) : Prop where
  wds : Wds w v W
  wtag : TagV w 62 (.slice v.pa v.pl v.pc) ∧ TagV w 65 (.slice v.la v.ll v.lc)
  stp : AtP w S.v S.L
  sents : ∀ p ∈ S.L, Sent w p.sv p.sent ∧ TagV w 42 p.sv
/-- Its blocks. -/
def SRead (v : Wv) (S : Sth) (k : Nat) : Prop := (Value.slice v.pa v.pl v.pc).ownBlock = some k ∨ (Value.slice v.la v.ll v.lc).ownBlock = some k ∨ S.v.ownBlock = some k ∨ ∃ p ∈ S.L, p.sv.ownBlock = some k
theorem LogRd.sth {w : World} {v : Wv} {W : Wd} {sv : Value} {ss : List Sth} (h : LogRd w v W sv ss) {S : Sth} (hs : S ∈ ss) : SthRd w v W S := ⟨h.wds, h.wtag, h.each S hs, h.sents S hs⟩
theorem SthRd.kept {T : Nat → Prop} {w w' : World} {v : Wv} {W : Wd} {S : Sth} (h : SthRd w v W S) (hk : KeptOff T w w') (hn : ∀ k, SRead v S k → ¬ T k) : SthRd w' v W S :=
  ⟨⟨h.wds.1.keptOff hk (fun k e => hn k (.inl e)), h.wds.2.1.keptOff hk (fun k e => hn k (.inr (.inl e))), h.wds.2.2⟩, ⟨h.wtag.1.kept hk (fun k e => hn k (.inl e)), h.wtag.2.kept hk (fun k e => hn k (.inr (.inl e)))⟩, RowAt.kept h.stp hk (fun k e => hn k (.inr (.inr (.inl e)))),
    fun p hp => ⟨(h.sents p hp).1.kept hk (fun k e => hn k (.inr (.inr (.inr ⟨p, hp, e⟩)))), (h.sents p hp).2.kept hk (fun k e => hn k (.inr (.inr (.inr ⟨p, hp, e⟩))))⟩⟩
theorem SthRd.below {w w' : World} {v : Wv} {W : Wd} {S : Sth} (h : SthRd w v W S) (hb : Below w.heap.size w w') : SthRd w' v W S := h.kept (T := fun _ => False) (.of_below hb) (fun _ _ e => e)
theorem SthRd.lt {w : World} {v : Wv} {W : Wd} {S : Sth} (h : SthRd w v W S) : ∀ k, SRead v S k → k < w.heap.size := by
  rintro k (e | e | e | ⟨p, hp, e⟩)
  · exact h.wtag.1.lt k e
  · exact h.wtag.2.lt k e
  · obtain ⟨cur, h1⟩ := RowAt.tag h.stp e
    exact (Array.getElem?_eq_some_iff.1 h1).1
  · exact (h.sents p hp).2.lt k e
/-- A block of a type that none of them has is none of them. -/
theorem SthRd.apart {w : World} {v : Wv} {W : Wd} {S : Sth} (h : SthRd w v W S) {g : Nat} {cs : Array Value} {e : TypeId} (hg : w.heap[g]? = some (.cells cs e (0, 0))) (h1 : e ≠ 62) (h2 : e ≠ 65) (h3 : e ≠ 101) (h4 : e ≠ 42) : ¬ SRead v S g := by
  have one : ∀ {e' : TypeId} {cur : Array Value}, e ≠ e' → w.heap[g]? = some (.cells cur e' (0, 0)) → False := fun hne h => by
    rw [hg] at h
    simp at h
    exact hne h.2
  rintro (e0 | e0 | e0 | ⟨p, hp, e0⟩)
  · obtain ⟨cur, h⟩ := h.wtag.1 g e0
    exact one h1 h
  · obtain ⟨cur, h⟩ := h.wtag.2 g e0
    exact one h2 h
  · obtain ⟨cur, h⟩ := RowAt.tag h.stp e0
    exact one h3 h
  · obtain ⟨cur, h⟩ := (h.sents p hp).2 g e0
    exact one h4 h
theorem block_ne {w : World} {g g' : Nat} {cs cs' : Array Value} {e e' : TypeId} (h : w.heap[g]? = some (.cells cs e (0, 0))) (h' : w.heap[g']? = some (.cells cs' e' (0, 0))) (hne : e ≠ e') : g ≠ g' := fun h0 => by
  subst h0
  rw [h] at h'
  simp at h'
  exact hne h'.2
/-- A stretch's reckoning under way: it has reached place k. -/
structure ReckAt (b X : World) (xb wb rb sb : Nat) (v : Wv) (W : Wd) (S : Sth) (k : Nat) : Prop where
  base : Below b.heap.size b X
  hr : X.heap[rb]? = some (.cells #[.int .i64 (k : Int)] 3 (0, 0))
  hs : X.heap[sb]? = some (.cells (encSt (stAt W S.kept S.L k)).toArray 34 (0, 0))
  hw : X.heap[wb]? = some (.cells (wordC v W).toArray 26 (0, 0))
  hx : X.heap[xb]? = some (.cells (encT S).toArray 68 (0, 0))
  rd : SthRd X v W S
  rge : b.heap.size ≤ rb ∧ b.heap.size ≤ sb
  ok : StaOk S.kept ∧ ∀ p ∈ S.L, In64 p.ev.v
theorem ReckAt.kept {T : Nat → Prop} {b X Y : World} {xb wb rb sb k : Nat} {v : Wv} {W : Wd} {S : Sth} (h : ReckAt b X xb wb rb sb v W S k) (hk : KeptOff T X Y) (h0 : ∀ i, T i → b.heap.size ≤ i) (h1 : ¬ T rb ∧ ¬ T sb ∧ ¬ T wb ∧ ¬ T xb) (hn : ∀ i, SRead v S i → ¬ T i) : ReckAt b Y xb wb rb sb v W S k :=
  ⟨h.base.trans (hk.below (fun i _ e => h0 i e) h.base.size), (hk.block _ (Array.getElem?_eq_some_iff.1 h.hr).1 h1.1).trans h.hr, (hk.block _ (Array.getElem?_eq_some_iff.1 h.hs).1 h1.2.1).trans h.hs, (hk.block _ (Array.getElem?_eq_some_iff.1 h.hw).1 h1.2.2.1).trans h.hw,
    (hk.block _ (Array.getElem?_eq_some_iff.1 h.hx).1 h1.2.2.2).trans h.hx, h.rd.kept hk hn, h.rge, h.ok⟩
theorem ReckAt.below {b X Y : World} {xb wb rb sb k : Nat} {v : Wv} {W : Wd} {S : Sth} (h : ReckAt b X xb wb rb sb v W S k) (hb : Below X.heap.size X Y) : ReckAt b Y xb wb rb sb v W S k :=
  h.kept (T := fun i => X.heap.size ≤ i) (.mono (.of_below (S := fun _ => False) hb) (fun _ _ e => e.elim)) (fun i hi => Nat.le_trans h.base.size hi)
    ⟨fun e => by have := (Array.getElem?_eq_some_iff.1 h.hr).1; omega, fun e => by have := (Array.getElem?_eq_some_iff.1 h.hs).1; omega, fun e => by have := (Array.getElem?_eq_some_iff.1 h.hw).1; omega, fun e => by have := (Array.getElem?_eq_some_iff.1 h.hx).1; omega⟩
    (fun i hi e => by have := h.rd.lt i hi; omega)
/-- Its two own variables written. -/
theorem ReckAt.turn {b X Y : World} {xb wb rb sb k j : Nat} {v : Wv} {W : Wd} {S : Sth} (h : ReckAt b X xb wb rb sb v W S k) (hk : KeptOff (fun i => i = rb ∨ i = sb) X Y) (hr : Y.heap[rb]? = some (.cells #[.int .i64 (j : Int)] 3 (0, 0))) (hs : Y.heap[sb]? = some (.cells (encSt (stAt W S.kept S.L j)).toArray 34 (0, 0))) :
    ReckAt b Y xb wb rb sb v W S j :=
  ⟨h.base.trans (hk.below (fun i _ e => by have := h.rge; omega) h.base.size), hr, hs,
    (hk.block _ (Array.getElem?_eq_some_iff.1 h.hw).1 (fun e => e.elim (block_ne h.hw h.hr (by decide)) (block_ne h.hw h.hs (by decide)))).trans h.hw,
    (hk.block _ (Array.getElem?_eq_some_iff.1 h.hx).1 (fun e => e.elim (block_ne h.hx h.hr (by decide)) (block_ne h.hx h.hs (by decide)))).trans h.hx,
    h.rd.kept hk (fun i hi e => by
      rcases e with rfl | rfl
      · exact h.rd.apart h.hr (by decide) (by decide) (by decide) (by decide) hi
      · exact h.rd.apart h.hs (by decide) (by decide) (by decide) (by decide) hi), h.rge, h.ok⟩
/-- The number in a box. -/
def numAt (w : World) (g : Nat) : Nat := match w.cell? ⟨g, 0, none⟩ with
  | some (.int _ z) => z.toNat
  | _ => 0
theorem numAt_of {w : World} {g k : Nat} (h : w.heap[g]? = some (.cells #[.int .i64 (k : Int)] 3 (0, 0))) : numAt w g = k := by
  have := row_cell h 0 rfl
  simp [numAt, this]
theorem encT_range {w : World} {g : Nat} {S : Sth} {T : TypeId} (h : w.heap[g]? = some (.cells (encT S).toArray T (0, 0))) : w.rangeAt g 0 (encSt S.kept) ∧ w.cell? ⟨g, 10, none⟩ = some S.v := by
  have hr := range_block h
  refine ⟨fun j u hj => ?_, row_cell h 10 rfl⟩
  have hl : j < 10 := by have := (List.getElem?_eq_some_iff.1 hj).1; simpa [encSt] using this
  refine hr j u ?_
  show (encT S)[j]? = some u
  rw [encT, List.getElem?_append_left (by rw [encSt_length]; exact hl)]
  exact hj
/-- A step's cells. -/
theorem AtP.range {w : World} {v : Value} {L : List Stp} {k g off c : Nat} {p : Stp} (h : AtP w v L) (hv : v = .slice (some ⟨g, off, none⟩) L.length c) (hp : L[k]? = some p) : w.rangeAt g (off + k * 9) (encP p) := by
  intro j u hj
  rcases h with ⟨e, _⟩ | ⟨g', off', cap', e, hr⟩
  · rw [hv] at e; cases e
  · rw [hv] at e
    simp at e
    obtain ⟨⟨rfl, rfl⟩, rfl⟩ := e
    have hl : j < 9 := by have := (List.getElem?_eq_some_iff.1 hj).1; simpa [encP, encMs] using this
    have := hr.cell (j := k * 9 + j) (u := u) (by rw [flatOf_get encP_length L k j p hp hl]; exact hj)
    rwa [← Nat.add_assoc] at this
theorem AtP.form {w : World} {v : Value} {L : List Stp} (h : AtP w v L) (h0 : 0 < L.length) : ∃ g off c, v = .slice (some ⟨g, off, none⟩) L.length c := by
  obtain ⟨g, off, c, hv, _⟩ := RowAt.form h h0
  exact ⟨g, off, c, hv⟩
set_option maxHeartbeats 16000000 in
theorem spReck1_any {b X : World} {eb : Addr} (hE : ErrIs b eb) (hT : ErrT b) {xb wb rb sb k j : Nat} {v : Wv} {W : Wd} {S : Sth} (h : ReckAt b X xb wb rb sb v W S k) (hkj : k ≤ j) (hj : j ≤ S.L.length) (hL : S.L.length < 16384) :
    Calls Tryz.prog 84 #[.int .i64 (j : Int), .pointer (some ⟨rb, 0, none⟩), .pointer (some ⟨wb, 0, none⟩), .pointer (some ⟨sb, 0, none⟩), .pointer (some ⟨xb, 0, none⟩)] X fun e Y =>
      e = .returned (.agg (encSt (stAt W S.kept S.L j)).toArray) ∧ Hid (ReckAt b Y xb wb rb sb v W S j ∧ KeptOff (fun i => i = rb ∨ i = sb) X Y) := by
  have mixed := mixed
  have hb0 := Lib.hid ((Below.refl _ X).alloc (Nat.le_refl _) (.cells z10 34))
  have hZ0 := Lib.hid (heap_alloc_new X (.cells z10 34))
  have h0 := Lib.hid (h.below hb0.out)
  have hlt := Lib.hid (show rb < X.heap.size ∧ sb < X.heap.size from ⟨(Array.getElem?_eq_some_iff.1 h.hr).1, (Array.getElem?_eq_some_iff.1 h.hs).1⟩)
  clear h
  go_enter Tryz.func84, Tryz.ntmps84
  go_wp2_with fail
  simp only [z10] at hb0 hZ0 h0
  generalize X.alloc _ = X1 at *
  go_loopw [7] (fun _ wr => ∃ i : Nat, i ≤ j ∧ k ≤ i ∧ Hid (ReckAt b wr xb wb rb sb v W S i) ∧ Hid (KeptOff (fun i => i = rb ∨ i = sb) X1 wr)) (fun _ wr => j - numAt wr rb)
  case atStart => exact ⟨k, hkj, Nat.le_refl _, h0, Lib.hid (KeptOff.refl _ _)⟩
  case round =>
    obtain ⟨i, hij, hki, hR, hK⟩ := hrel
    have c0 := row_cell hR.out.hr 0 rfl
    by_cases hlt2 : i < j
    · have hlt3 : (i : Int) < (j : Int) := by omega
      obtain ⟨p, hp⟩ : ∃ p, S.L[i]? = some p := ⟨_, List.getElem?_eq_getElem (by omega)⟩
      obtain ⟨g, off, c, hv⟩ := hR.out.rd.stp.form (by omega)
      have hmeas := numAt_of hR.out.hr
      go_upto_region 3 with fail
      have hst : Hid (∀ w', Below wr.heap.size wr w' → w'.rangeAt sb 0 (encSt (stAt W S.kept S.L i))) := Lib.hid (fun w' hb => by
        have := range_block (hR.out.below hb).hs
        simpa using this)
      have hws : Hid (∀ w', Below wr.heap.size wr w' → w'.rangeAt wb 0 (wordC v W)) := Lib.hid (fun w' hb => by
        have := range_block (hR.out.below hb).hw
        simpa using this)
      have hxs : Hid (∀ w', Below wr.heap.size wr w' → w'.cell? ⟨xb, 10, none⟩ = some (.slice (some ⟨g, off, none⟩) S.L.length c)) := Lib.hid (fun w' hb => by
        rw [← hv]; exact (encT_range (hR.out.below hb).hx).2)
      have hrs : Hid (∀ w', Below wr.heap.size wr w' → w'.cell? ⟨rb, 0, none⟩ = some (.int .i64 (i : Int))) := Lib.hid (fun w' hb => row_cell (hR.out.below hb).hr 0 rfl)
      have hps : Hid (∀ w', Below wr.heap.size wr w' → w'.rangeAt g (off + i * 9) (encMs p.ev)) := Lib.hid (fun w' hb => (encP_range ((hR.out.below hb).rd.stp.range hv hp)).1)
      have hok : StaOk (stAt W S.kept S.L i) := behind_ok _ _ hR.out.ok.1 (fun q hq => hR.out.ok.2 q (List.mem_of_mem_take hq))
      have hev : In64 p.ev.v := hR.out.ok.2 p (List.mem_of_getElem? hp)
      have hst2 : (runW W (stAt W S.kept S.L i) p.ev).1 = stAt W S.kept S.L (i + 1) := (stAt_succ hp).symm
      have hrun : Hid (∀ w', Below wr.heap.size wr w' → Calls Tryz.prog 43 #[.agg (wordC v W).toArray, .agg (encSt (stAt W S.kept S.L i)).toArray, .agg (encMs p.ev).toArray] w' fun x w3 => ∃ a n cap fl, x = .returned (.tuple #[.agg (encSt (stAt W S.kept S.L (i + 1))).toArray, .slice a n cap, .int .i64 fl]) ∧ Below w'.heap.size w' w3) := Lib.hid (fun w' hb => by
        have hBw := hR.out.base.trans (hb.mono hR.out.base.size)
        have h1 := vmRun_new (hR.out.below hb).rd.wds (hE.below hBw) (hT.below hBw) hok.len hok.reg hev
        rw [Sta.val_eq hok.len] at h1
        refine h1.mono ?_
        rintro x w3 ⟨a, cap, h2, -, h3, -⟩
        refine ⟨a, (runW W (stAt W S.kept S.L i) p.ev).2.1.length, cap, (runW W (stAt W S.kept S.L i) p.ev).2.2, ?_, h3⟩
        rw [h2, ← hst2, Sta.val_eq (runW_ok hok hev).len])
      have hlm : (encMs p.ev).length = 7 := rfl
      have hlw : (wordC v W).length = 4 := rfl
      have hls : (encSt (stAt W S.kept S.L i)).length = 10 := rfl
      have hls2 : (encSt (stAt W S.kept S.L (i + 1))).length = 10 := rfl
      have hone2 := encSt_one (stAt W S.kept S.L (i + 1))
      have hbx := Lib.hid hR.out.hs
      have hge := hR.out.rge
      have hil : (i : Int) < (S.L.length : Int) := by omega
      have hi0 : (0 : Int) ≤ (i : Int) := by omega
      generalize hcst2 : encSt (stAt W S.kept S.L (i + 1)) = cst2 at *
      generalize encSt (stAt W S.kept S.L i) = cst at *
      generalize encMs p.ev = cm at *
      generalize wordC v W = cw at *
      have hcst2' := Lib.hid hcst2
      clear hcst2 hst2 hok hev c0
      refine wp_region_Z (fun w' => Below wr.heap.size wr w') 13 (by kernel_rfl) ?_
      have hHd : Below wr.heap.size wr wr.drew := (Below.refl _ wr).drew
      refine wpAnyZ_load (i := 0) (oi := { dst := some 13, op := Op.load 26 (Operand.tmp 2), type := 26, pos := "stretch.go:36", after := #[], guard := none }) (v := .agg (cw).toArray) rfl (by kernel_rfl) (by kernel_rfl) (by kernel_rfl) (fun _ _ _ h => h) (by decide) (by kernel_rfl) (by kernel_rfl) (yieldsIf_load_mid (by rfl) 26 (.tmp 2) (by rfl) wb 0 (by rfl) (cw) _ (fun w' h => hws.out w' h) Tryz.underlying26 rfl (by rw [hlw]; exact infoWo)) hHd ?_
      try simp only [Act.put, List.setIfInBounds_toArray, List.set_cons_zero, List.set_cons_succ]
      refine wpAnyZ_load (i := 1) (oi := { dst := some 14, op := Op.load 34 (Operand.tmp 3), type := 34, pos := "stretch.go:36", after := #[], guard := none }) (v := .agg (cst).toArray) rfl (by kernel_rfl) (by kernel_rfl) (by kernel_rfl) (fun _ _ _ h => h) (by decide) (by kernel_rfl) (by kernel_rfl) (yieldsIf_load_mid (by rfl) 34 (.tmp 3) (by rfl) sb 0 (by rfl) (cst) _ (fun w' h => hst.out w' h) Tryz.underlying34 rfl (by rw [hls]; exact infoS10)) hHd ?_
      try simp only [Act.put, List.setIfInBounds_toArray, List.set_cons_zero, List.set_cons_succ]
      refine wpAnyZ_take (i := 2) (oi := { dst := some 15, op := Op.fieldAddr 68 (Operand.tmp 4) 1, type := 0, pos := "stretch.go:36", after := #[], guard := none }) (v := ?zv2_1) rfl (by kernel_rfl) (by kernel_rfl) (by kernel_rfl) (fun _ _ _ h => h) (by decide) (Or.inl ⟨by rfl, ?zy2_1⟩) (fun _ => hHd) ?zrest2_1
      case zy2_1 =>
        intro w _
        go_simp
        try with_reducible rfl
      try simp only [Act.put, List.setIfInBounds_toArray, List.set_cons_zero, List.set_cons_succ]
      refine wpAnyZ_load (i := 3) (oi := { dst := some 16, op := Op.load 66 (Operand.tmp 15), type := 66, pos := "stretch.go:36", after := #[{ on := 2, ground := Ground.data }], guard := none }) (v := ?zv3_2) rfl (by kernel_rfl) (by kernel_rfl) (by kernel_rfl) (fun _ _ _ h => h) (by decide) (by kernel_rfl) (by kernel_rfl) (Or.inl ⟨by rfl, ?zy3_2⟩) hHd ?zrest3_2
      case zy3_2 =>
        intro w hSw
        have c := hxs.out w hSw
        go_simp
        try with_reducible rfl
      try simp only [Act.put, List.setIfInBounds_toArray, List.set_cons_zero, List.set_cons_succ]
      refine wpAnyZ_load (i := 4) (oi := { dst := some 17, op := Op.load 3 (Operand.tmp 1), type := 3, pos := "stretch.go:36", after := #[], guard := none }) (v := ?zv4_3) rfl (by kernel_rfl) (by kernel_rfl) (by kernel_rfl) (fun _ _ _ h => h) (by decide) (by kernel_rfl) (by kernel_rfl) (Or.inl ⟨by rfl, ?zy4_3⟩) hHd ?zrest4_3
      case zy4_3 =>
        intro w hSw
        have c := hrs.out w hSw
        go_simp
        try with_reducible rfl
      try simp only [Act.put, List.setIfInBounds_toArray, List.set_cons_zero, List.set_cons_succ]
      refine wpAnyZ_take (i := 5) (oi := { dst := some 18, op := Op.indexAddr 66 (Operand.tmp 16) (Operand.tmp 17), type := 0, pos := "stretch.go:36", after := #[{ on := 3, ground := Ground.data }, { on := 4, ground := Ground.data }], guard := none }) (v := ?zv5_4) rfl (by kernel_rfl) (by kernel_rfl) (by kernel_rfl) (fun _ _ _ h => h) (by decide) (Or.inl ⟨by rfl, ?zy5_4⟩) (fun _ => hHd) ?zrest5_4
      case zy5_4 =>
        intro w _
        go_simp
        try with_reducible rfl
      try simp only [Act.put, List.setIfInBounds_toArray, List.set_cons_zero, List.set_cons_succ]
      refine wpAnyZ_take (i := 6) (oi := { dst := some 19, op := Op.fieldAddr 101 (Operand.tmp 18) 0, type := 0, pos := "stretch.go:36", after := #[{ on := 5, ground := Ground.data }], guard := none }) (v := ?zv6_5) rfl (by kernel_rfl) (by kernel_rfl) (by kernel_rfl) (fun _ _ _ h => h) (by decide) (Or.inl ⟨by rfl, ?zy6_5⟩) (fun _ => hHd) ?zrest6_5
      case zy6_5 =>
        intro w _
        go_simp
        try with_reducible rfl
      try simp only [Act.put, List.setIfInBounds_toArray, List.set_cons_zero, List.set_cons_succ]
      refine wpAnyZ_load (i := 7) (oi := { dst := some 20, op := Op.load 42 (Operand.tmp 19), type := 42, pos := "stretch.go:36", after := #[{ on := 6, ground := Ground.data }], guard := none }) (v := .agg (cm).toArray) rfl (by kernel_rfl) (by kernel_rfl) (by kernel_rfl) (fun _ _ _ h => h) (by decide) (by kernel_rfl) (by kernel_rfl) (yieldsIf_load_mid (by rfl) 42 (.tmp 19) (by rfl) g (off + i * 9) (by rfl) (cm) _ (fun w' h => hps.out w' h) Tryz.underlying42 rfl (by rw [hlm]; exact infoMe)) hHd ?_
      try simp only [Act.put, List.setIfInBounds_toArray, List.set_cons_zero, List.set_cons_succ]
      refine wpAnyZ_ready (rs := [8]) (by kernel_rfl) (by simp) ?_
      refine AllReadyZ.cons (o := { dst := some 21, op := Op.call { callee := Callee.value (Operand.func 43), args := #[Operand.tmp 13, Operand.tmp 14, Operand.tmp 20], argTypes := #[26, 34, 42] }, type := 93, pos := "stretch.go:36", after := #[{ on := 0, ground := Ground.data }, { on := 1, ground := Ground.data }, { on := 7, ground := Ground.data }], guard := none }) rfl (fun K hK => ?_) AllReadyZ.nil
      go_simp
      refine (hrun.out _ hHd).mono ?_
      rintro x w3 ⟨ra, rn, rc, fl, rfl, hb3⟩
      have hHw := hHd.trans (hb3.mono hHd.size)
      refine hK.out _ _ (fun _ => hHw) ?_
      clear hK K
      try simp only [Act.put, List.setIfInBounds_toArray, List.set_cons_zero, List.set_cons_succ]
      refine wpAnyZ_take (i := 9) (oi := { dst := some 12, op := Op.move (Operand.tmp 21), type := 93, pos := "stretch.go:36", after := #[{ on := 8, ground := Ground.data }], guard := none }) (v := ?zv9_6) rfl (by kernel_rfl) (by kernel_rfl) (by kernel_rfl) (fun _ _ _ h => h) (by decide) (Or.inl ⟨by rfl, ?zy9_6⟩) (fun _ => hHw) ?zrest9_6
      case zy9_6 =>
        intro w _
        go_simp
        try with_reducible rfl
      try simp only [Act.put, List.setIfInBounds_toArray, List.set_cons_zero, List.set_cons_succ]
      refine wpAnyZ_take (i := 10) (oi := { dst := some 22, op := Op.extract (Operand.tmp 12) 0, type := 34, pos := "stretch.go:36", after := #[{ on := 9, ground := Ground.data }], guard := none }) (v := ?zv10_7) rfl (by kernel_rfl) (by kernel_rfl) (by kernel_rfl) (fun _ _ _ h => h) (by decide) (Or.inl ⟨by rfl, ?zy10_7⟩) (fun _ => hHw) ?zrest10_7
      case zy10_7 =>
        intro w _
        go_simp
        try with_reducible rfl
      try simp only [Act.put, List.setIfInBounds_toArray, List.set_cons_zero, List.set_cons_succ]
      refine wpAnyZ_take (i := 11) (oi := { dst := some 23, op := Op.extract (Operand.tmp 12) 1, type := 92, pos := "stretch.go:36", after := #[{ on := 9, ground := Ground.data }, { on := 13, ground := Ground.gcOnly Departure.lateStores }], guard := none }) (v := ?zv11_8) rfl (by kernel_rfl) (by kernel_rfl) (by kernel_rfl) (fun _ _ _ h => h) (by decide) (Or.inl ⟨by rfl, ?zy11_8⟩) (fun _ => hHw) ?zrest11_8
      case zy11_8 =>
        intro w _
        go_simp
        try with_reducible rfl
      try simp only [Act.put, List.setIfInBounds_toArray, List.set_cons_zero, List.set_cons_succ]
      refine wpAnyZ_take (i := 12) (oi := { dst := some 24, op := Op.extract (Operand.tmp 12) 2, type := 29, pos := "stretch.go:36", after := #[{ on := 9, ground := Ground.data }, { on := 13, ground := Ground.gcOnly Departure.lateStores }], guard := none }) (v := ?zv12_9) rfl (by kernel_rfl) (by kernel_rfl) (by kernel_rfl) (fun _ _ _ h => h) (by decide) (Or.inl ⟨by rfl, ?zy12_9⟩) (fun _ => hHw) ?zrest12_9
      case zy12_9 =>
        intro w _
        go_simp
        try with_reducible rfl
      try simp only [Act.put, List.setIfInBounds_toArray, List.set_cons_zero, List.set_cons_succ]
      have hbx3 := (hHw.block _ (Array.getElem?_eq_some_iff.1 hbx.out).1).trans hbx.out
      refine wpAnyZ_ready (rs := [13]) (by kernel_rfl) (by simp) ?_
      refine AllReadyZ.cons (o := { dst := none, op := Op.store 34 (Operand.tmp 3) (Operand.tmp 22), type := 0, pos := "stretch.go:36", after := #[{ on := 10, ground := Ground.data }, { on := 8, ground := Ground.chain }, { on := 0, ground := Ground.phase }, { on := 1, ground := Ground.phase }, { on := 2, ground := Ground.phase }, { on := 3, ground := Ground.phase }, { on := 4, ground := Ground.phase }, { on := 5, ground := Ground.phase }, { on := 6, ground := Ground.phase }, { on := 7, ground := Ground.phase }, { on := 8, ground := Ground.phase }, { on := 9, ground := Ground.phase }, { on := 10, ground := Ground.phase }, { on := 11, ground := Ground.textOnly Departure.lateStores }, { on := 12, ground := Ground.textOnly Departure.lateStores }], guard := none }) rfl (fun K hK => ?_) AllReadyZ.nil
      refine step_store_row rfl 34 (.tmp 3) (.tmp 22) (by rfl) sb cst2.toArray (by rfl) (by rfl) 34 cst.toArray hbx3 (by simp only [List.size_toArray, hls2]; exact infoS10) (by simp only [List.size_toArray, hls2, hls]) hone2 ?_
      refine hK.out _ _ (fun h => absurd h (by decide)) ?_
      clear hK K
      try simp only [Act.put, List.setIfInBounds_toArray, List.set_cons_zero, List.set_cons_succ]
      refine wpAnyZ_done (by kernel_rfl) ?_ _
      have hK4 : Hid (KeptOff (fun i => i = sb) wr (w3.setRow sb cst2.toArray)) := Lib.hid (((KeptOff.of_below (S := fun i => i = sb) hHw)).trans (KeptOff.row _ _ _))
      have hs4 := Lib.hid (setRow_heap (new := cst2.toArray) hbx3)
      have hrn : rb ≠ sb := block_ne hR.out.hr hbx.out (by decide)
      have hr4 := Lib.hid ((hK4.out.block rb (Array.getElem?_eq_some_iff.1 hR.out.hr).1 hrn).trans hR.out.hr)
      have c4 := row_cell hr4.out 0 rfl
      have f4 : (w3.setRow sb cst2.toArray).frozen? ⟨rb, 0, none⟩ = false := frozen_of_cells hr4.out
      have a4 : IntKind.i64.wrap ((i : Int) + 1) = (i : Int) + 1 := IntWalk.i64_in _ (by omega)
      clear hst hws hxs hrs hps hrun hbx hHd hHw hbx3 hb3
      generalize w3.setRow sb cst2.toArray = w4 at *
      have hR5 : Hid (ReckAt b (w4.setCell ⟨rb, 0, none⟩ (.int .i64 ((i : Int) + 1))) xb wb rb sb v W S (i + 1) ∧ KeptOff (fun i => i = rb ∨ i = sb) X1 (w4.setCell ⟨rb, 0, none⟩ (.int .i64 ((i : Int) + 1)))) := Lib.hid (by
        have hk5 := KeptOff.set w4 ⟨rb, 0, none⟩ (.int .i64 ((i : Int) + 1))
        have hkw : KeptOff (fun i => i = rb ∨ i = sb) wr (w4.setCell ⟨rb, 0, none⟩ (.int .i64 ((i : Int) + 1))) := (hK4.out.mono (fun _ _ e => .inr e)).trans (hk5.mono (fun _ _ e => .inl e))
        refine ⟨hR.out.turn hkw ?_ ?_, hK.out.trans hkw⟩
        · rw [Go.heap_setCell_same w4 rb 0 _ _ _ hr4.out]
          simp
        · rw [hcst2'.out]
          exact (hk5.block sb (Array.getElem?_eq_some_iff.1 hs4.out).1 (fun e => hrn e.symm)).trans hs4.out)
      clear hK4 hs4 hr4 hR hK
      go_wp2
      go_roundw
      case rel => exact ⟨i + 1, by omega, by omega, Lib.hid hR5.out.1, Lib.hid hR5.out.2⟩
      case measure => rw [hmeas, numAt_of hR5.out.1.hr]; omega
    · obtain rfl : i = j := by omega
      have hnl : ¬ (i : Int) < (i : Int) := by omega
      have hsr : Hid (wr.rangeAt sb 0 (encSt (stAt W S.kept S.L i))) := Lib.hid (by
        have := range_block hR.out.hs
        simpa using this)
      have hone2 := encSt_one (stAt W S.kept S.L i)
      have hls : (encSt (stAt W S.kept S.L i)).length = 10 := rfl
      have hgX : X.heap.size ≠ rb ∧ X.heap.size ≠ sb := by have := hlt.out; omega
      have hZr := (hK.out.block X.heap.size (Array.getElem?_eq_some_iff.1 hZ0.out).1 (fun e => e.elim hgX.1 hgX.2)).trans hZ0.out
      have hst8 : Hid ((encSt (stAt W S.kept S.L i)).toArray.size = 10) := Lib.hid rfl
      generalize hcs : encSt (stAt W S.kept S.L i) = cst at *
      go_wp2_with (first
        | (refine wpList_load_mid rfl 34 (.tmp 3) rfl sb 0 rfl cst _ hsr.out Tryz.underlying34 rfl (by rw [hls]; exact infoS10) ?_)
        | (refine wpList_store_row rfl 34 (.tmp 6) (.tmp 25) rfl X.heap.size cst.toArray rfl rfl 34 _ hZr (by rw [hst8.out]; exact infoS10) (by rw [hst8.out]; rfl) hone2 ?_))
      have hZ6 := setRow_heap (new := cst.toArray) hZr
      have hb6 : Below X.heap.size X (wr.setRow X.heap.size cst.toArray) ∨ True := .inr trivial
      have hkr := KeptOff.row wr X.heap.size cst.toArray
      have hRf : ReckAt b (wr.setRow X.heap.size cst.toArray) xb wb rb sb v W S i := hR.out.kept hkr (fun q e => by subst e; exact Nat.le_trans (by have := hR.out.rge; have := hlt.out; omega) (Nat.le_refl _))
        ⟨fun e => hgX.1 e.symm, fun e => hgX.2 e.symm, fun e => block_ne hR.out.hw hZr (by decide) e, fun e => block_ne hR.out.hx hZr (by decide) e⟩ (fun q hq e => by subst e; exact hR.out.rd.apart hZr (by decide) (by decide) (by decide) (by decide) hq)
      have hkX : KeptOff (fun i => i = rb ∨ i = sb) X (wr.setRow X.heap.size cst.toArray) := ((KeptOff.of_below (S := fun i => i = rb ∨ i = sb) hb0.out).trans hK.out).then_new (S' := fun q => q = X.heap.size) hkr (fun q hq e => by omega)
      refine bodyPost_ret (results_row (fn := Tryz.f84) rfl _ _ _ 34 _ _ rfl hZ6 Tryz.underlying34 rfl (by rw [hst8.out]; exact infoS10)) rfl ⟨rfl, hRf, hkX⟩
end Go.Proofs.YtminfmjgmmkaoaaGreatDoor
