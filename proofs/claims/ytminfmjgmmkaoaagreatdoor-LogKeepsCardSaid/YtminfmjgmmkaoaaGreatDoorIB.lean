/-
  A range over a function where the iterator's blocks and the body's are told apart; a body may leave early. No program in this text.
  A step as an entry.
-/
import Derived.Test.YtminfmjgmmkaoaaGreatDoorGU
import Derived.RangeFuncBox
import Derived.RangeFuncNested
namespace Go.Proofs.YtminfmjgmmkaoaaGreatDoor
open Go Go.RowKit
set_option linter.unusedVariables false

/-- It abides an iterator's step: written are blocks of Z and new ones; Z may lose blocks, and win new ones. -/
def StepsOn {α : Type} (J : (Nat → Prop) → List α → World → Prop) : Prop :=
  ∀ Z Z' s X Y, J Z s X → KeptOff Z X Y → (∀ k, Z' k → Z k ∨ X.heap.size ≤ k) → J Z' s Y
/-- A round, whatever it does: it leaves the iterator's blocks Z and what that reads, H; what it is handed, of the blocks G, is its own from then on. -/
def RoundsGo {α : Type} (P : Program) (l : Nat) (H : Nat → Prop) (Pay : (Nat → Prop) → α → Array Value → World → Prop) (T : List α) (J K : (Nat → Prop) → List α → World → Prop) : Prop :=
  ∀ Z G pre x vs X, J Z pre X → pre ++ [x] <+: T → Pay G x vs X → (∀ k, G k → Z k) → (∀ k, Z k → k < X.heap.size) →
    YieldAt Fence.wide 0 P l vs X fun e Y => ∃ b, e = .returned (.bool b) ∧ KeptOff (fun k => ¬ Z k ∧ ¬ H k) X Y ∧ (if b = true then J (fun k => Z k ∧ ¬ G k) (pre ++ [x]) Y else K (fun k => Z k ∧ ¬ G k) (pre ++ [x]) Y)
/-- The iterator hands over T, one by one, as long as rounds go on. -/
def GivesZ {α : Type} (P : Program) (g : Nat) (lb : Array Value) (Pay : (Nat → Prop) → α → Array Value → World → Prop) (T : List α) (H : Nat → Prop) (w : World) : Prop :=
  ∀ (l : Nat) (J K : (Nat → Prop) → List α → World → Prop) (W : World), KeptOff (fun k => ¬ H k) w W → StepsOn J → StepsOn K → RoundsGo P l H Pay T J K → J (fun _ => False) [] W →
    Calls P g (#[.func (.yield l) #[] #[]] ++ lb) W fun e W' => (∃ v, e = .returned v) ∧ ∃ Z, J Z T W' ∨ ∃ pre, pre <+: T ∧ K Z pre W'
theorem roundIn_wide {n n' : Nat} {P : Program} {l : Nat} {f : FuncId} {tmps : Array Value} {assign body : Code} {w : World} {R : Ending → World → Prop} (h : RoundIn Fence.wide n P l f tmps assign body w R) : RoundIn Fence.wide n' P l f tmps assign body w R :=
  ⟨trivial, fun c cs _ => h.2 c cs (room_wide _)⟩
theorem KeptOff.putObj (W : World) (l : Nat) (o : Obj) : KeptOff (fun k => k = l) W (W.putObj l o) :=
  ⟨rfl, rfl, rfl, by simp, fun k _ hk => World.putObj_heap_other (fun e => hk e)⟩
/-- How a round's body is left. -/
def LeftZ {α : Type} (I : (Nat → Prop) → List α → World → Prop) (Ix : Code → (Nat → Prop) → List α → World → Prop) (Z : Nat → Prop) (s : List α) (W : World) : Exit → Prop
  | .normal => I Z s W
  | .ret => Ix .ret Z s W
  | .exit id => Ix (.exit id) Z s W
  | .goto t => Ix (.goto t) Z s W
  | _ => False

theorem wpIn_rangeFunc_Z {n : Nat} {P : Program} {w : World} {α : Type} {g : Operand} {ps : Array Tmp} {assign body : Code} {Q : Exit → Act → World → Prop} {a : Act}
    {gf : Nat} {lb : Array Value} (hg : a.eval g = .func (.func gf) #[] lb) (eg : ∀ args w, (callFunc gf args).run P w = .ok (.enter gf args) w)
    {Pay : (Nat → Prop) → α → Array Value → World → Prop} {T : List α} {H : Nat → Prop} (hH : ∀ k, H k → k < w.heap.size) (hseq : GivesZ P gf lb Pay T H w) (hps : ∀ G x vs X, Pay G x vs X → vs.size = ps.size)
    (I : (Nat → Prop) → List α → World → Prop) (Ix : Code → (Nat → Prop) → List α → World → Prop) (hI : StepsOn I) (hIx : ∀ c, StepsOn (Ix c)) (h0 : I (fun _ => False) [] w)
    (hround : ∀ (l : Nat) (Z G : Nat → Prop) (pre : List α) (x : α) (vs : Array Value) (W : World), I Z pre W → pre ++ [x] <+: T → Pay G x vs W → (∀ k, G k → Z k) → (∀ k, Z k → k < W.heap.size) → w.heap.size + 2 ≤ W.heap.size → vs.size = ps.size →
      assign.wpIn (Fence.wide.inRound l) n P (Exit.then (fun a' Wa => KeptOff (fun k => ¬ Z k ∧ ¬ H k) W Wa ∧ ∀ Wb, KeptOff (fun k => Z k ∧ ¬ G k) Wa Wb → Wb.heap.size = Wa.heap.size →
        body.wpIn (Fence.wide.inRound l) n P (fun e _ W3 => KeptOff (fun k => ¬ Z k ∧ ¬ H k) Wb W3 ∧ LeftZ I Ix (fun k => Z k ∧ ¬ G k) (pre ++ [x]) W3 e) a' Wb) (fun _ _ _ => False))
        { tmps := (ps.zip vs).foldl (fun t (p, v) => t.setIfInBounds p v) a.tmps, defers := [] } W)
    (hdone : ∀ (D : Nat) (Z : Nat → Prop) (W : World), w.heap.size ≤ D → Z D → I Z T W → W.heap[D]? = some (.deferred (some [])) → Q .normal { a with defers := { target := .collected D, args := #[] } :: a.defers } W)
    (hstop : ∀ (D : Nat) (c : Code) (Z : Nat → Prop) (pre : List α) (W : World), w.heap.size ≤ D → Z D → pre <+: T → Ix c Z pre W → W.heap[D]? = some (.deferred (some [])) → c.wpIn Fence.wide n P Q { a with defers := { target := .collected D, args := #[] } :: a.defers } W) :
    (Code.rangeFunc g ps assign body).wpIn Fence.wide n P Q a w := by
  refine wpIn_rangeFunc fun fn hfn => ?_
  obtain ⟨rec_, hrec⟩ : ∃ rec_ : LoopState → Option Code → Loop, rec_ = fun st pe => { state := st, pending := pe, fn := fn, tmps := a.tmps, params := ps, assign := assign, body := body, defers := w.heap.size } := ⟨_, rfl⟩
  obtain ⟨W1, hW1⟩ : ∃ W1, W1 = (w.alloc (.deferred (some []))).alloc (.loop (rec_ .ready none)) := ⟨_, rfl⟩
  have hs1 : W1.heap.size = w.heap.size + 2 := by rw [hW1]; simp
  have hb1 : Below w.heap.size w W1 := by rw [hW1]; exact ((Below.refl _ w).alloc (Nat.le_refl _) _).alloc (by simp) _
  have hL1 : W1.heap[w.heap.size + 1]? = some (.loop (rec_ .ready none)) := by
    rw [hW1]
    have := World.alloc_heap_new (w.alloc (.deferred (some []))) (.loop (rec_ .ready none))
    rwa [World.size_alloc] at this
  have hD1 : W1.heap[w.heap.size]? = some (.deferred (some [])) := by
    rw [hW1]
    exact (Below.heap_alloc _ _ _ (by simp)).trans (World.alloc_heap_new w _)
  -- the loop's two blocks
  obtain ⟨D2, hD2⟩ : ∃ D2 : Nat → Prop, D2 = fun k => k = w.heap.size ∨ k = w.heap.size + 1 := ⟨_, rfl⟩
  have d0 : D2 w.heap.size := by rw [hD2]; exact .inl rfl
  have d1 : D2 (w.heap.size + 1) := by rw [hD2]; exact .inr rfl
  have dlt : ∀ k, D2 k → w.heap.size ≤ k ∧ k < w.heap.size + 2 := fun k hk => by
    rw [hD2] at hk
    rcases hk with rfl | rfl <;> omega
  refine ⟨w.heap.size + 1, [{ target := .collected w.heap.size, args := #[] }], W1, { target := .fn (.func gf) lb, args := #[.func (.yield (w.heap.size + 1)) #[] #[]] }, W1, gf, #[.func (.yield (w.heap.size + 1)) #[] #[]] ++ lb, W1, ?_, ?_, ?_, ?_, fun h => (by cases h), ?_⟩
  · rw [hW1, hrec]; exact run_enterLoop_outer _ _ _ _ _
  · simp only [resolve, hg]
    simp [go_sem]
  · intro f' hf'
    trivial
  · simp [invoke, go_sem, eg]
  · refine callsIn_wide.2 ?_
    -- what stands between two rounds, with the loop's blocks
    let Bk : LoopState → Option Code → (Nat → Prop) → World → Prop := fun st pe Z X => w.heap.size + 2 ≤ X.heap.size ∧ X.heap[w.heap.size + 1]? = some (.loop (rec_ st pe)) ∧ X.heap[w.heap.size]? = some (.deferred (some [])) ∧ ∀ k, D2 k → ¬ Z k
    have hBk : ∀ {st pe Z Z' X Y}, Bk st pe Z X → KeptOff Z X Y → (∀ k, Z' k → Z k ∨ X.heap.size ≤ k) → Bk st pe Z' Y := fun {st pe Z Z' X Y} h hk hz =>
      ⟨Nat.le_trans h.1 hk.size, (hk.block _ (by have := h.1; omega) (h.2.2.2 _ d1)).trans h.2.1, (hk.block _ (by have := h.1; omega) (h.2.2.2 _ d0)).trans h.2.2.1, fun k hd hz' => by
        rcases hz k hz' with e | e
        · exact h.2.2.2 k hd e
        · have := h.1; have := (dlt k hd).2; omega⟩
    have hZ2 : ∀ {Z Z' : Nat → Prop} {X : World}, (∀ k, Z' k → Z k ∨ X.heap.size ≤ k) → ∀ k, (Z' k ∨ D2 k) → (Z k ∨ D2 k) ∨ X.heap.size ≤ k := fun h k hk => by
      rcases hk with e | e
      · rcases h k e with e | e
        · exact .inl (.inl e)
        · exact .inr e
      · exact .inl (.inr e)
    refine (hseq (w.heap.size + 1) (fun Z pre X => I (fun k => Z k ∨ D2 k) pre X ∧ Bk .ready none Z X) (fun Z pre X => ∃ c, Ix c (fun k => Z k ∨ D2 k) pre X ∧ Bk .done (some c) Z X) W1 (.of_below hb1)
      (fun Z Z' s X Y h hk hz => ⟨hI _ _ s X Y h.1 (hk.mono (fun k _ e => .inl e)) (hZ2 hz), hBk h.2 hk hz⟩)
      (fun Z Z' s X Y h hk hz => by
        obtain ⟨c, h1, h2⟩ := h
        exact ⟨c, hIx c _ _ s X Y h1 (hk.mono (fun k _ e => .inl e)) (hZ2 hz), hBk h2 hk hz⟩)
      ?_ ⟨hI _ _ [] w W1 h0 (.of_below hb1) (fun k hk => by
        rcases hk with e | e
        · exact e.elim
        · exact .inr (dlt k e).1), by omega, hL1, hD1, fun _ _ e => e⟩).mono ?_
    · rintro Z G pre x vs X ⟨hi, hz, hl, hd, hn⟩ hpre hpay hG hZ
      have hvs := hps G x vs X hpay
      have hLH : ∀ k, D2 k → ¬ H k := fun k hk hh => by have := hH k hh; have := (dlt k hk).1; omega
      have hw := hround (w.heap.size + 1) (fun k => Z k ∨ D2 k) G pre x vs X hi hpre hpay (fun k e => .inl (hG k e)) (fun k e => by
        rcases e with e | e
        · exact hZ k e
        · have := (dlt k e).2; omega) hz hvs
      have hy := run_yield (P := P) (args := vs) hl (by rw [hrec]; exact hvs)
      rw [hrec] at hy
      refine ⟨fn, _, assign, body, hy, roundIn_wide (n := n) (roundIn_of_wpIn hfn ?_)⟩
      clear hy
      refine wpIn_mono hw ?_
      rintro e a' Wa hp
      cases e with
      | normal =>
        obtain ⟨hka, hbody⟩ := hp
        have hka0 : KeptOff (fun k => ¬ Z k ∧ ¬ H k) X Wa := hka.mono (fun k _ h => ⟨fun e => h.1 (.inl e), h.2⟩)
        have hla := (hka.block _ (by omega) (fun e => e.1 (.inr d1))).trans hl
        have hda := (hka.block _ (by omega) (fun e => e.1 (.inr d0))).trans hd
        have hsa : w.heap.size + 2 ≤ Wa.heap.size := Nat.le_trans hz hka.size
        have hkp := KeptOff.putObj Wa (w.heap.size + 1) (.loop { rec_ .ready none with state := .busy })
        refine ⟨_, run_beginRound hla (by rw [hrec]), wpIn_mono (hbody _ (hkp.mono (fun k _ e => by subst e; exact ⟨.inr d1, fun hg => hn _ d1 (hG _ hg)⟩)) (by simp)) ?_⟩
        have hl2 : (Wa.putObj (w.heap.size + 1) (.loop { rec_ .ready none with state := .busy })).heap[w.heap.size + 1]? = some (.loop { rec_ .ready none with state := .busy }) := World.putObj_heap_same (by omega)
        have hd2 : (Wa.putObj (w.heap.size + 1) (.loop { rec_ .ready none with state := .busy })).heap[w.heap.size]? = some (.deferred (some [])) := (World.putObj_heap_other (by omega)).trans hda
        have hs2 : (Wa.putObj (w.heap.size + 1) (.loop { rec_ .ready none with state := .busy })).heap.size = Wa.heap.size := by simp
        generalize Wa.putObj (w.heap.size + 1) (.loop { rec_ .ready none with state := .busy }) = Wb at *
        have fin : ∀ (jump : Option Code) (W3 : World), KeptOff (fun k => ¬ (Z k ∨ D2 k) ∧ ¬ H k) Wb W3 →
            (Instr.endRound (w.heap.size + 1) jump).run P W3 = .ok (.bool jump.isNone) (W3.putObj (w.heap.size + 1) (.loop (rec_ (if jump.isNone then .ready else .done) jump))) ∧
            KeptOff (fun k => ¬ Z k ∧ ¬ H k) X (W3.putObj (w.heap.size + 1) (.loop (rec_ (if jump.isNone then .ready else .done) jump))) ∧
            Bk (if jump.isNone then .ready else .done) jump (fun k => Z k ∧ ¬ G k) (W3.putObj (w.heap.size + 1) (.loop (rec_ (if jump.isNone then .ready else .done) jump))) := fun jump W3 hk3 => by
          have hs3 : w.heap.size + 2 ≤ W3.heap.size := Nat.le_trans (by omega) hk3.size
          have hl3 := (hk3.block _ (by omega) (fun e => e.1 (.inr d1))).trans hl2
          have hd3 := (hk3.block _ (by omega) (fun e => e.1 (.inr d0))).trans hd2
          have hr := run_endRound (P := P) jump hl3
          have hL' : ∀ k, k = w.heap.size + 1 → ¬ Z k ∧ ¬ H k := fun k e => by subst e; exact ⟨hn _ d1, hLH _ d1⟩
          have hkp' := (KeptOff.putObj W3 (w.heap.size + 1) (.loop (rec_ (if jump.isNone then .ready else .done) jump)))
          refine ⟨?_, ((hka0.trans (hkp.mono (fun k _ e => hL' k e))).trans (hk3.mono (fun k _ h => ⟨fun e => h.1 (.inl e), h.2⟩))).trans (hkp'.mono (fun k _ e => hL' k e)), by simpa using hs3, World.putObj_heap_same (by omega), (World.putObj_heap_other (by omega)).trans hd3, fun k hk e => hn k hk e.1⟩
          rw [hrec] at hr ⊢
          exact hr
        have hZf : ∀ (W3 : World) (k : Nat), ((Z k ∧ ¬ G k) ∨ D2 k) → ((Z k ∨ D2 k) ∧ ¬ G k) ∨ W3.heap.size ≤ k := fun W3 k hk => by
          rcases hk with e | e
          · exact .inl ⟨.inl e.1, e.2⟩
          · exact .inl ⟨.inr e, fun hg => hn k e (hG k hg)⟩
        have hLZ : ∀ k, k = w.heap.size + 1 → (Z k ∨ D2 k) ∧ ¬ G k := fun k e => by subst e; exact ⟨.inr d1, fun hg => hn _ d1 (hG _ hg)⟩
        rintro e2 a3 W3 ⟨hk3, hp3⟩
        cases e2 with
        | normal =>
          obtain ⟨hr, hkx, hbk⟩ := fin none W3 hk3
          exact ⟨_, _, hr, true, rfl, hkx, hI _ _ _ _ _ hp3 ((KeptOff.putObj W3 _ _).mono (fun k _ e => hLZ k e)) (hZf W3), hbk⟩
        | ret =>
          obtain ⟨hr, hkx, hbk⟩ := fin (some .ret) W3 hk3
          exact ⟨_, _, hr, false, rfl, hkx, .ret, hIx _ _ _ _ _ _ hp3 ((KeptOff.putObj W3 _ _).mono (fun k _ e => hLZ k e)) (hZf W3), hbk⟩
        | exit id =>
          obtain ⟨hr, hkx, hbk⟩ := fin (some (.exit id)) W3 hk3
          exact ⟨_, _, hr, false, rfl, hkx, .exit id, hIx _ _ _ _ _ _ hp3 ((KeptOff.putObj W3 _ _).mono (fun k _ e => hLZ k e)) (hZf W3), hbk⟩
        | goto t =>
          obtain ⟨hr, hkx, hbk⟩ := fin (some (.goto t)) W3 hk3
          exact ⟨_, _, hr, false, rfl, hkx, .goto t, hIx _ _ _ _ _ _ hp3 ((KeptOff.putObj W3 _ _).mono (fun k _ e => hLZ k e)) (hZf W3), hbk⟩
        | panic ch => exact hp3.elim
        | outgrown => exact hp3.elim
      | _ => exact hp.elim
    · rintro e W2 ⟨⟨v, rfl⟩, Z, (⟨hi, hz, hl, hd, hn⟩ | ⟨pre, hpre, c, hi, hz, hl, hd, hn⟩)⟩
      · have hr := run_endLoop (P := P) hl (by rw [hrec]; simp)
        rw [show (rec_ .ready none).pending = none by rw [hrec]] at hr
        refine ⟨none, _, hr, hdone _ (fun k => Z k ∨ D2 k) _ (Nat.le_refl _) (.inr d0) (hI _ _ _ _ _ hi ((KeptOff.putObj W2 _ _).mono (fun k _ e => .inr (e ▸ d1))) (fun k e => .inl e)) ((World.putObj_heap_other (by omega)).trans hd)⟩
      · have hr := run_endLoop (P := P) hl (by rw [hrec]; simp)
        rw [show (rec_ .done (some c)).pending = some c by rw [hrec]] at hr
        refine ⟨some c, _, hr, hstop _ c (fun k => Z k ∨ D2 k) pre _ (Nat.le_refl _) (.inr d0) hpre (hIx c _ _ _ _ _ hi ((KeptOff.putObj W2 _ _).mono (fun k _ e => .inr (e ▸ d1))) (fun k e => .inl e)) ((World.putObj_heap_other (by omega)).trans hd)⟩
end Go.Proofs.YtminfmjgmmkaoaaGreatDoor
namespace Go.Proofs.YtminfmjgmmkaoaaGreatDoor
open Go.ChangeShapes Go.WideShapes Go.ChangeAt Go.Shelf Go.RowKit Go.Lib Go.Sort Go.Deep
set_option linter.unusedVariables false
set_option maxRecDepth 4000
set_option linter.unusedSimpArgs false

theorem results_row {P : Program} {fn : Func} {p : Tmp} {ty : TypeId} (h : fn.results = #[.cell p ty]) (tmps : Array Value) (w : World) (g : Nat) (t : TypeId) (cs : Array Value) (d : TypeDesc)
    (hp : tmps.getD p undef = .pointer (some ⟨g, 0, none⟩)) (hg : w.heap[g]? = some (.cells cs t (0, 0)))
    (hu : P.underlying ty = some d) (hd : (match d with | .struct _ | .array _ _ => true | _ => false) = true) (hi : (P.info? ty).map (·.size) = some cs.size) :
    (results fn tmps).run P w = .ok (.agg cs) w := by
  have h1 := run_loadVar_row (P := P) w g t ty cs (0, 0) d hg hu hd hi
  have e1 : tmps[p]?.getD undef = .pointer (some ⟨g, 0, none⟩) := by simpa using hp
  simp [results, h, Sem.run_bind, Result.andThen, e1, asAddr, h1]
theorem encP_range {w : World} {g o : Nat} {p : Stp} (h : w.rangeAt g o (encP p)) : w.rangeAt g o (encMs p.ev) ∧ w.cell? ⟨g, o + 7, none⟩ = some (.int .i64 p.fl) ∧ w.cell? ⟨g, o + 8, none⟩ = some p.sv :=
  ⟨fun j u hj => h j u (by
    have hl : j < 7 := by have := (List.getElem?_eq_some_iff.1 hj).1; simpa [encMs] using this
    rcases (by omega : j = 0 ∨ j = 1 ∨ j = 2 ∨ j = 3 ∨ j = 4 ∨ j = 5 ∨ j = 6) with rfl | rfl | rfl | rfl | rfl | rfl | rfl <;> exact hj), h 7 _ rfl, h 8 _ rfl⟩
set_option maxHeartbeats 16000000 in
theorem lpEntry_any {w : World} {m : M} {fl : Int} {s : Sta} {sa : Option Addr} {n sc : Nat} {sent : List M} (hM : Mgs w sa n sc sent) (hG : TagV w 42 (.slice sa n sc)) (hn : n ≤ 16384) :
    Calls Tryz.prog 71 #[.agg (encP ⟨m, fl, .slice sa n sc, sent⟩).toArray, .agg (encSt s).toArray] w fun e w' => ∃ a c, e = .returned (.agg (entC m s fl (.slice a n c)).toArray) ∧ Hid (CloneQ w w' (.slice a n c) fun w' => Mgs w' a n c sent ∧ TagV w' 42 (.slice a n c)) := by
  have mixed := mixed
  have hb0 : Hid (Below w.heap.size w (((w.alloc (.cells (encP ⟨m, fl, .slice sa n sc, sent⟩).toArray 101)).alloc (.cells (encSt s).toArray 34)).alloc (.cells z19 44))) := Lib.hid ((((Below.refl _ w).alloc (Nat.le_refl _) _).alloc (by simp) _).alloc (by simp; omega) _)
  have T0 := Tri.mk3 w (.cells (encP ⟨m, fl, .slice sa n sc, sent⟩).toArray 101) (.cells (encSt s).toArray 34) (.cells z19 44)
  have hT0 := Lib.hid T0
  have hM' := Lib.hid hM
  have hlo := Lib.hid hG.lt
  clear hG
  have hlmm : (encMs m).length = 7 := rfl
  have hls : (encSt s).length = 10 := rfl
  have hPA : ∃ PA, (encP ⟨m, fl, .slice sa n sc, sent⟩).toArray = PA := ⟨_, rfl⟩
  obtain ⟨PA, hPA⟩ := hPA
  have hSA : ∃ SA, (encSt s).toArray = SA := ⟨_, rfl⟩
  obtain ⟨SA, hSA⟩ := hSA
  rw [hPA, hSA] at hb0 hT0 ⊢
  have hPA' := Lib.hid hPA
  have hSA' := Lib.hid hSA
  have hcP : (Value.agg PA).cells = PA := rfl
  have hcS : (Value.agg SA).cells = SA := rfl
  clear hM T0 hPA hSA
  go_enter Tryz.func71, Tryz.ntmps71
  go_wp2_with fail
  simp only [z19] at hb0 hT0
  generalize ((w.alloc (.cells PA 101)).alloc (.cells SA 34)).alloc _ = w0 at *
  have hst : Hid (∀ w', KeptOff (fun k => k = w.heap.size + 1 + 1) w0 w' → w'.rangeAt w.heap.size 0 (encMs m) ∧ w'.cell? ⟨w.heap.size, 7, none⟩ = some (.int .i64 fl) ∧ w'.cell? ⟨w.heap.size, 8, none⟩ = some (.slice sa n sc)) := Lib.hid (fun w' h => by
    have h1 := (h.block _ (Array.getElem?_eq_some_iff.1 hT0.out.a).1 (by omega)).trans hT0.out.a
    rw [← hPA'.out] at h1
    have h2 := range_block h1
    exact encP_range (p := ⟨m, fl, .slice sa n sc, sent⟩) (by simpa using h2))
  have hss : Hid (∀ w', KeptOff (fun k => k = w.heap.size + 1 + 1) w0 w' → w'.rangeAt (w.heap.size + 1) 0 (encSt s)) := Lib.hid (fun w' h => by
    have h1 := (h.block _ (Array.getElem?_eq_some_iff.1 hT0.out.s).1 (by omega)).trans hT0.out.s
    rw [← hSA'.out] at h1
    have h2 := range_block h1
    simpa using h2)
  have hcl : Hid (∀ w', KeptOff (fun k => k = w.heap.size + 1 + 1) w0 w' → _) := Lib.hid (fun w' h => cloneMs_any ((hM'.out.below hb0.out).keptOff h (fun k e e2 => by have := hlo.out k e; omega)) hn)
  have hHd : KeptOff (fun k => k = w.heap.size + 1 + 1) w0 w0.drew := ⟨rfl, rfl, rfl, Nat.le_refl _, fun _ _ _ => rfl⟩
  refine wp_region_held_drew (S := fun w' => KeptOff (fun k => k = w.heap.size + 1 + 1) w0 w') (by kernel_rfl) hHd (fun hHeld => ?_)
  clear hHeld
  refine wpAnyH_take (i := 0) (oi := { dst := some 5, op := Op.fieldAddr 101 (Operand.tmp 2) 0, type := 0, pos := "stretch.go:22", after := #[], guard := none }) (v := ?vv0_1) rfl (by kernel_rfl) (by kernel_rfl) (by kernel_rfl) (fun _ _ _ h => h) (Or.inl ⟨by rfl, ?hy0_1⟩) hHd ?rest0_1
  case hy0_1 =>
    intro w hSw
    go_simp
    try with_reducible rfl
  try simp only [Act.put, List.setIfInBounds_toArray, List.set_cons_zero, List.set_cons_succ]
  refine wpAnyH_take (i := 3) (oi := { dst := some 8, op := Op.fieldAddr 101 (Operand.tmp 2) 1, type := 0, pos := "stretch.go:22", after := #[], guard := none }) (v := ?vv3_2) rfl (by kernel_rfl) (by kernel_rfl) (by kernel_rfl) (fun _ _ _ h => h) (Or.inl ⟨by rfl, ?hy3_2⟩) hHd ?rest3_2
  case hy3_2 =>
    intro w hSw
    go_simp
    try with_reducible rfl
  try simp only [Act.put, List.setIfInBounds_toArray, List.set_cons_zero, List.set_cons_succ]
  refine wpAnyH_take (i := 5) (oi := { dst := some 10, op := Op.fieldAddr 101 (Operand.tmp 2) 2, type := 0, pos := "stretch.go:22", after := #[], guard := none }) (v := ?vv5_3) rfl (by kernel_rfl) (by kernel_rfl) (by kernel_rfl) (fun _ _ _ h => h) (Or.inl ⟨by rfl, ?hy5_3⟩) hHd ?rest5_3
  case hy5_3 =>
    intro w hSw
    go_simp
    try with_reducible rfl
  try simp only [Act.put, List.setIfInBounds_toArray, List.set_cons_zero, List.set_cons_succ]
  refine wpAnyH_take (i := 1) (oi := { dst := some 6, op := Op.load 42 (Operand.tmp 5), type := 42, pos := "stretch.go:22", after := #[{ on := 0, ground := Ground.data }], guard := none }) (v := .agg (encMs m).toArray) rfl (by kernel_rfl) (by kernel_rfl) (by kernel_rfl) (fun _ _ _ h => h) (yieldsIf_load_mid (by rfl) 42 (.tmp 5) (by rfl) w.heap.size 0 (by rfl) (encMs m) _ (fun w' h => (hst.out w' h).1) Tryz.underlying42 rfl (by rw [hlmm]; exact infoMe)) hHd ?_
  try simp only [Act.put, List.setIfInBounds_toArray, List.set_cons_zero, List.set_cons_succ]
  refine wpAnyH_take (i := 2) (oi := { dst := some 7, op := Op.load 34 (Operand.tmp 3), type := 34, pos := "stretch.go:22", after := #[], guard := none }) (v := .agg (encSt s).toArray) rfl (by kernel_rfl) (by kernel_rfl) (by kernel_rfl) (fun _ _ _ h => h) (yieldsIf_load_mid (by rfl) 34 (.tmp 3) (by rfl) (w.heap.size + 1) 0 (by rfl) (encSt s) _ (fun w' h => hss.out w' h) Tryz.underlying34 rfl (by rw [hls]; exact infoS10)) hHd ?_
  try simp only [Act.put, List.setIfInBounds_toArray, List.set_cons_zero, List.set_cons_succ]
  refine wpAnyH_take (i := 4) (oi := { dst := some 9, op := Op.load 29 (Operand.tmp 8), type := 29, pos := "stretch.go:22", after := #[{ on := 3, ground := Ground.data }], guard := none }) (v := ?vv4_4) rfl (by kernel_rfl) (by kernel_rfl) (by kernel_rfl) (fun _ _ _ h => h) (Or.inl ⟨by rfl, ?hy4_4⟩) hHd ?rest4_4
  case hy4_4 =>
    intro w hSw
    have c := (hst.out w hSw).2.1
    go_simp
    try with_reducible rfl
  try simp only [Act.put, List.setIfInBounds_toArray, List.set_cons_zero, List.set_cons_succ]
  refine wpAnyH_take (i := 6) (oi := { dst := some 11, op := Op.load 37 (Operand.tmp 10), type := 37, pos := "stretch.go:22", after := #[{ on := 5, ground := Ground.data }], guard := none }) (v := ?vv6_5) rfl (by kernel_rfl) (by kernel_rfl) (by kernel_rfl) (fun _ _ _ h => h) (Or.inl ⟨by rfl, ?hy6_5⟩) hHd ?rest6_5
  case hy6_5 =>
    intro w hSw
    have c := (hst.out w hSw).2.2
    go_simp
    try with_reducible rfl
  try simp only [Act.put, List.setIfInBounds_toArray, List.set_cons_zero, List.set_cons_succ]
  refine wpAnyH_ready (rs := [7]) (by kernel_rfl) (by simp) ?_
  refine AllReadyH.cons (o := { dst := some 12, op := Op.call { callee := Callee.value (Operand.func 47), args := #[Operand.tmp 11], argTypes := #[37] }, type := 37, pos := "stretch.go:22", after := #[{ on := 6, ground := Ground.data }], guard := none }) rfl (fun K hK => ?_) AllReadyH.nil
  go_simp
  refine (hcl.out _ hHd).mono ?_
  rintro x w5 ⟨a5, c5, rfl, hq5⟩
  have hHw := hHd.trans (KeptOff.of_below (S := fun k => k = w.heap.size + 1 + 1) hq5.out.2.1)
  refine hK.out _ _ hHw (fun hHeld => ?_)
  clear hHeld hK K
  try simp only [Act.put, List.setIfInBounds_toArray, List.set_cons_zero, List.set_cons_succ]
  refine wpAnyH_take (i := 8) (oi := { dst := some 13, op := Op.build 44 #[(0, Operand.tmp 6), (1, Operand.tmp 7), (2, Operand.tmp 9), (3, Operand.tmp 12)], type := 44, pos := "stretch.go:22", after := #[{ on := 1, ground := Ground.data }, { on := 2, ground := Ground.data }, { on := 4, ground := Ground.data }, { on := 7, ground := Ground.data }], guard := none }) (v := .agg (entC m s fl (.slice a5 n c5)).toArray) rfl (by kernel_rfl) (by kernel_rfl) (by kernel_rfl) (fun _ _ _ h => h) (yieldsIf_build (by rfl) 44 #[(0, .tmp 6), (1, .tmp 7), (2, .tmp 9), (3, .tmp 12)] (by rfl) #[(0, .agg (encMs m).toArray), (1, .agg (encSt s).toArray), (2, .int .i64 fl), (3, .slice a5 n c5)] (by simp only [List.map_toArray, List.map_cons, List.map_nil]; rfl) (fun w => build_entry m s fl a5 n c5 w)) hHw ?_
  try simp only [Act.put, List.setIfInBounds_toArray, List.set_cons_zero, List.set_cons_succ]
  have hbx5 : w5.heap[w.heap.size + 1 + 1]? = some (.cells z19 44 (0, 0)) := (hq5.out.2.1.block _ (Array.getElem?_eq_some_iff.1 hT0.out.m).1).trans hT0.out.m
  refine wpAnyH_ready (rs := [9]) (by kernel_rfl) (by simp) ?_
  refine AllReadyH.cons (o := { dst := none, op := Op.store 44 (Operand.tmp 4) (Operand.tmp 13), type := 0, pos := "stretch.go:22", after := #[{ on := 8, ground := Ground.data }, { on := 7, ground := Ground.chain }, { on := 0, ground := Ground.phase }, { on := 1, ground := Ground.phase }, { on := 2, ground := Ground.phase }, { on := 3, ground := Ground.phase }, { on := 4, ground := Ground.phase }, { on := 5, ground := Ground.phase }, { on := 6, ground := Ground.phase }, { on := 7, ground := Ground.phase }, { on := 8, ground := Ground.phase }], guard := none }) rfl (fun K hK => ?_) AllReadyH.nil
  refine step_store_row rfl 44 (.tmp 4) (.tmp 13) (by rfl) (w.heap.size + 1 + 1) (entC m s fl (.slice a5 n c5)).toArray (by rfl) (by rfl) 44 z19 hbx5 infoEn rfl (entC_one _ _ _ _ _ _) ?_
  refine hK.out _ _ (hHw.trans (KeptOff.row _ _ _)) (fun hHeld => ?_)
  clear hHeld hK K
  try simp only [Act.put, List.setIfInBounds_toArray, List.set_cons_zero, List.set_cons_succ]
  refine wpAnyH_done (by kernel_rfl) ?_ _
  have hZ6 := Lib.hid (setRow_heap (new := (entC m s fl (.slice a5 n c5)).toArray) hbx5)
  have hw5 : Below w.heap.size w w5 := hb0.out.trans (hHw.below (fun k _ e => by omega) hb0.out.size)
  have hb6 := Lib.hid (below_row (g := w.heap.size + 1 + 1) hw5 (by omega) (entC m s fl (.slice a5 n c5)).toArray)
  have hfr : Hid (∀ k, (Value.slice a5 n c5).ownBlock = some k → w.heap.size + 3 ≤ k) := Lib.hid (fun k e => by have := hq5.out.2.2 k e; have h3 : w0.drew.heap.size = w0.heap.size := rfl; have := hT0.out.sz; omega)
  have hM6 : Hid (Mgs (w5.setRow (w.heap.size + 1 + 1) (entC m s fl (.slice a5 n c5)).toArray) a5 n c5 sent ∧ TagV (w5.setRow (w.heap.size + 1 + 1) (entC m s fl (.slice a5 n c5)).toArray) 42 (.slice a5 n c5)) :=
    Lib.hid ⟨hq5.out.1.1.keptOff (KeptOff.row _ _ _) (fun k e e2 => by have := hfr.out k e; omega), hq5.out.1.2.kept (KeptOff.row _ _ _) (fun k e e2 => by have := hfr.out k e; omega)⟩
  have hEs : Hid ((Tryz.prog.info? 44).map (·.size) = some (entC m s fl (.slice a5 n c5)).toArray.size) := Lib.hid infoEn
  go_wp2_with fail
  refine bodyPost_ret (results_row (fn := Tryz.f71) rfl _ _ _ 44 _ _ rfl hZ6.out Tryz.underlying44 rfl hEs.out) rfl ⟨a5, c5, rfl, hM6.out, hb6.out, fun k e => by have := hfr.out k e; omega⟩
end Go.Proofs.YtminfmjgmmkaoaaGreatDoor
