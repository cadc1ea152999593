
/-
  What stands in the law of two colours: tallies, a token, times that are held, parcels on their way; whose block is whose.
-/
import Derived.Test.YtobfjfmaicmkdaaWB
namespace Go.Proofs.Ytobfjfmaicmkdaa
open Go.ChangeShapes Go.WideShapes Go.ChangeAt Go.Shelf Go.RowKit Go.Lib Go.Sort Go.Deep Col
set_option linter.unusedVariables false
set_option linter.unusedSimpArgs false
set_option maxRecDepth 4000

section
variable {w wr w' : World} {σ σ' : Nat → Nat} {D : Nat → Prop} {id g N n sz : Nat} {e : TypeId} {f : Nat → Value} {v : Value} {xs : List Value}
/-- A row with its owner. -/
structure InR (σ : Nat → Nat) (wr : World) (id : Nat) (e : TypeId) (sz : Nat) (v : Value) (n : Nat) (xs : List Value) : Prop where
  row : RowAt wr e sz v n xs
  own : ∀ j, v.ownBlock = some j → σ j = id
theorem InR.step (h : InR σ wr id e sz v n xs) (hT : Turns σ σ' D wr w') (hn : ¬ D id) : InR σ' w' id e sz v n xs :=
  ⟨h.row.kept hT.kept (fun j e e2 => hn (by rw [← h.own j e]; exact e2)), fun j e => (hT.ext j (h.row.lt j e)).trans (h.own j e)⟩
/-- An outer row with its owner. -/
structure Out (σ : Nat → Nat) (wr : World) (id : Nat) (e : TypeId) (g N : Nat) (f : Nat → Value) : Prop where
  row : RowIn wr e 1 g 0 N N (vals f N)
  own : σ g = id
theorem Out.step (h : Out σ wr id e g N f) (hT : Turns σ σ' D wr w') (hn : ¬ D id) : Out σ' w' id e g N f :=
  ⟨h.row.kept hT.kept (fun e2 => hn (by rw [← h.own]; exact e2)), (hT.ext g h.row.lt).trans h.own⟩
end
/-- The token. -/
def tok (N : Nat) (s : WS) : Tk := ⟨N, s.at', s.cnt, s.sum, s.least⟩
structure Sf (w : World) (σ : Nat → Nat) (vt : Value) (gh gm kb N : Nat) (pa : Nat → Nat) (hv mv : Nat → Value) (s : WS) (wr : World) : Prop where
  wl : Wld w σ wr
  tl : Tls σ wr vt N pa s.ta
  tk : TkO σ wr 2 kb (tok N s)
  ho : Out σ wr 3 58 gh N hv
  mo : Out σ wr 4 59 gm N mv
  hi : ∀ i, i < N → InR σ wr (i + 105) 2 1 (hv i) (s.held i).length (ints (s.held i))
  mi : ∀ i, i < N → InR σ wr (i + 205) 61 2 (mv i) (s.mov i).length (pcs (s.mov i))
section
variable {w wr w' : World} {σ σ' : Nat → Nat} {D : Nat → Prop} {vt : Value} {gh gm kb N : Nat} {pa : Nat → Nat} {hv mv : Nat → Value} {s : WS} {x : Nat}
theorem Sf.step (h : Sf w σ vt gh gm kb N pa hv mv s wr) (hT : Turns σ σ' D wr w') (hd : ∀ j, ¬ D j) : Sf w σ' vt gh gm kb N pa hv mv s w' :=
  ⟨h.wl.step hT (hd _), h.tl.step hT (hd _) (fun _ _ => hd _), h.tk.step hT (hd _), h.ho.step hT (hd _), h.mo.step hT (hd _), fun i hi => (h.hi i hi).step hT (hd _), fun i hi => (h.mi i hi).step hT (hd _)⟩
theorem Sf.below (h : Sf w σ vt gh gm kb N pa hv mv s wr) (hb : Below wr.heap.size wr w') : Sf w σ vt gh gm kb N pa hv mv s w' :=
  h.step (D := fun _ => False) (Turns.below _ hb) (fun _ e => e)
/-- What is new is this owner's. -/
theorem Sf.grow (h : Sf w σ vt gh gm kb N pa hv mv s wr) (hb : Below wr.heap.size wr w') (id : Nat) : Sf w (fun j => if j < wr.heap.size then σ j else id) vt gh gm kb N pa hv mv s w' :=
  h.step (D := fun _ => False) ⟨.of_below hb, fun j hj => if_pos hj⟩ (fun _ e => e)
/-- The blocks of one inner row have been turned, and what is new is its owner's: all but that row stands. -/
theorem Sf.turns (v : Value) (id : Nat) (ho : ∀ j, v.ownBlock = some j → σ j = id) (hk : KeptOff (fun k => v.ownBlock = some k) wr w') : Turns σ (fun j => if j < wr.heap.size then σ j else id) (fun j => j = id) wr w' :=
  ⟨hk.mono (fun k _ e => ho k e), fun j hj => if_pos hj⟩
/-- held[x] has a new value, a new row. -/
theorem Sf.setH (h : Sf w σ vt gh gm kb N pa hv mv s wr) (hN : N ≤ 6) (hx : x < N) {u : Value} {l : List Int} (hu : InR σ wr (x + 105) 2 1 u l.length (ints l)) : Sf w σ vt gh gm kb N pa (upd hv x u) mv { s with held := upd s.held x l } (wr.setCell ⟨gh, x, none⟩ u) := by
  have hT : Turns σ σ (fun d => d = 3) wr (wr.setCell ⟨gh, x, none⟩ u) := ⟨(KeptOff.set wr ⟨gh, x, none⟩ u).mono (fun k _ e => by rw [show k = gh from e]; exact h.ho.own), Ext.refl _ _⟩
  have hr := h.ho.row.set1 hx u
  rw [Nat.zero_add] at hr
  refine ⟨h.wl.step hT (by omega), h.tl.step hT (by omega) (fun _ _ => by omega), h.tk.step hT (by omega), ⟨hr, h.ho.own⟩, h.mo.step hT (by omega), fun i hi => ?_, fun i hi => (h.mi i hi).step hT (by omega)⟩
  by_cases e : i = x
  · subst e
    show InR σ _ (i + 105) _ 1 (upd hv i u i) (upd s.held i l i).length (ints (upd s.held i l i))
    rw [upd_same, upd_same]
    exact hu.step hT (by omega)
  · show InR σ _ (i + 105) _ 1 (upd hv x u i) (upd s.held x l i).length (ints (upd s.held x l i))
    rw [upd_ne _ _ e, upd_ne _ _ e]
    exact (h.hi i hi).step hT (by omega)
theorem Sf.setM (h : Sf w σ vt gh gm kb N pa hv mv s wr) (hN : N ≤ 6) (hx : x < N) {u : Value} {l : List (Int × Bool)} (hu : InR σ wr (x + 205) 61 2 u l.length (pcs l)) : Sf w σ vt gh gm kb N pa hv (upd mv x u) { s with mov := upd s.mov x l } (wr.setCell ⟨gm, x, none⟩ u) := by
  have hT : Turns σ σ (fun d => d = 4) wr (wr.setCell ⟨gm, x, none⟩ u) := ⟨(KeptOff.set wr ⟨gm, x, none⟩ u).mono (fun k _ e => by rw [show k = gm from e]; exact h.mo.own), Ext.refl _ _⟩
  have hr := h.mo.row.set1 hx u
  rw [Nat.zero_add] at hr
  refine ⟨h.wl.step hT (by omega), h.tl.step hT (by omega) (fun _ _ => by omega), h.tk.step hT (by omega), h.ho.step hT (by omega), ⟨hr, h.mo.own⟩, fun i hi => (h.hi i hi).step hT (by omega), fun i hi => ?_⟩
  by_cases e : i = x
  · subst e
    show InR σ _ (i + 205) _ 2 (upd mv i u i) (upd s.mov i l i).length (pcs (upd s.mov i l i))
    rw [upd_same, upd_same]
    exact hu.step hT (by omega)
  · show InR σ _ (i + 205) _ 2 (upd mv x u i) (upd s.mov x l i).length (pcs (upd s.mov x l i))
    rw [upd_ne _ _ e, upd_ne _ _ e]
    exact (h.mi i hi).step hT (by omega)
/-- An element has been appended to held[x], and the row stored. -/
theorem Sf.pushH (h : Sf w σ vt gh gm kb N pa hv mv s wr) (hN : N ≤ 6) (hx : x < N) {g off cap : Nat} {z : Int} (h1 : RowIn w' 2 1 g off ((s.held x).length + 1) cap (ints (s.held x) ++ [.int .i64 z])) (h2 : KeptOff (fun k => (hv x).ownBlock = some k) wr w') (h3 : (hv x).ownBlock = some g ∨ wr.heap.size ≤ g) :
    ∃ σ', Sf w σ' vt gh gm kb N pa (upd hv x (.slice (some ⟨g, off, none⟩) ((s.held x).length + 1) cap)) mv { s with held := upd s.held x (s.held x ++ [z]) } (w'.setCell ⟨gh, x, none⟩ (.slice (some ⟨g, off, none⟩) ((s.held x).length + 1) cap)) := by
  have hT := Sf.turns (hv x) (x + 105) (h.hi x hx).own h2
  have hg : (fun j => if j < wr.heap.size then σ j else x + 105) g = x + 105 := by
    dsimp only
    split
    · next hlt =>
      rcases h3 with h3 | h3
      · exact (h.hi x hx).own g h3
      · omega
    · rfl
  generalize (fun j => if j < wr.heap.size then σ j else x + 105) = σ' at hT hg
  refine ⟨σ', ?_⟩
  have hTs : Turns σ' σ' (fun d => d = 3) w' (w'.setCell ⟨gh, x, none⟩ (.slice (some ⟨g, off, none⟩) ((s.held x).length + 1) cap)) := ⟨(KeptOff.set w' ⟨gh, x, none⟩ _).mono (fun k _ e => by rw [show k = gh from e]; exact (h.ho.step hT (by omega)).own), Ext.refl _ _⟩
  have hr := (h.ho.step hT (by omega)).row.set1 hx (.slice (some ⟨g, off, none⟩) ((s.held x).length + 1) cap)
  rw [Nat.zero_add] at hr
  refine ⟨(h.wl.step hT (by omega)).step hTs (by omega), (h.tl.step hT (by omega) (fun _ _ => by omega)).step hTs (by omega) (fun _ _ => by omega), (h.tk.step hT (by omega)).step hTs (by omega), ⟨hr, (h.ho.step hT (by omega)).own⟩, (h.mo.step hT (by omega)).step hTs (by omega), fun i hi => ?_, fun i hi => ((h.mi i hi).step hT (by omega)).step hTs (by omega)⟩
  by_cases e : i = x
  · subst e
    show InR σ' _ (i + 105) _ 1 (upd hv i _ i) (upd s.held i (s.held i ++ [z]) i).length (ints (upd s.held i (s.held i ++ [z]) i))
    rw [upd_same, upd_same, ints_snoc, List.length_append]
    exact InR.step ⟨.inr ⟨g, off, cap, rfl, h1⟩, fun j e => by simp [Value.ownBlock] at e; subst e; exact hg⟩ hTs (by omega)
  · show InR σ' _ (i + 105) _ 1 (upd hv x _ i) (upd s.held x (s.held x ++ [z]) i).length (ints (upd s.held x (s.held x ++ [z]) i))
    rw [upd_ne _ _ e, upd_ne _ _ e]
    exact ((h.hi i hi).step hT (by omega)).step hTs (by omega)
/-- A parcel has been appended to moving[x], and the row stored. -/
theorem Sf.pushM (h : Sf w σ vt gh gm kb N pa hv mv s wr) (hN : N ≤ 6) (hx : x < N) {g off cap : Nat} {m : Int × Bool} (h1 : RowIn w' 61 2 g off ((s.mov x).length + 1) cap (pcs (s.mov x) ++ [.int .i64 m.1, .int .i64 (colI m.2)])) (h2 : KeptOff (fun k => (mv x).ownBlock = some k) wr w') (h3 : (mv x).ownBlock = some g ∨ wr.heap.size ≤ g) :
    ∃ σ', Sf w σ' vt gh gm kb N pa hv (upd mv x (.slice (some ⟨g, off, none⟩) ((s.mov x).length + 1) cap)) { s with mov := upd s.mov x (s.mov x ++ [m]) } (w'.setCell ⟨gm, x, none⟩ (.slice (some ⟨g, off, none⟩) ((s.mov x).length + 1) cap)) := by
  have hT := Sf.turns (mv x) (x + 205) (h.mi x hx).own h2
  have hg : (fun j => if j < wr.heap.size then σ j else x + 205) g = x + 205 := by
    dsimp only
    split
    · next hlt =>
      rcases h3 with h3 | h3
      · exact (h.mi x hx).own g h3
      · omega
    · rfl
  generalize (fun j => if j < wr.heap.size then σ j else x + 205) = σ' at hT hg
  refine ⟨σ', ?_⟩
  have hTs : Turns σ' σ' (fun d => d = 4) w' (w'.setCell ⟨gm, x, none⟩ (.slice (some ⟨g, off, none⟩) ((s.mov x).length + 1) cap)) := ⟨(KeptOff.set w' ⟨gm, x, none⟩ _).mono (fun k _ e => by rw [show k = gm from e]; exact (h.mo.step hT (by omega)).own), Ext.refl _ _⟩
  have hr := (h.mo.step hT (by omega)).row.set1 hx (.slice (some ⟨g, off, none⟩) ((s.mov x).length + 1) cap)
  rw [Nat.zero_add] at hr
  refine ⟨(h.wl.step hT (by omega)).step hTs (by omega), (h.tl.step hT (by omega) (fun _ _ => by omega)).step hTs (by omega) (fun _ _ => by omega), (h.tk.step hT (by omega)).step hTs (by omega), (h.ho.step hT (by omega)).step hTs (by omega), ⟨hr, (h.mo.step hT (by omega)).own⟩, fun i hi => ((h.hi i hi).step hT (by omega)).step hTs (by omega), fun i hi => ?_⟩
  by_cases e : i = x
  · subst e
    show InR σ' _ (i + 205) _ 2 (upd mv i _ i) (upd s.mov i (s.mov i ++ [m]) i).length (pcs (upd s.mov i (s.mov i ++ [m]) i))
    rw [upd_same, upd_same, pcs_snoc, List.length_append]
    exact InR.step ⟨.inr ⟨g, off, cap, rfl, h1⟩, fun j e => by simp [Value.ownBlock] at e; subst e; exact hg⟩ hTs (by omega)
  · show InR σ' _ (i + 205) _ 2 (upd mv x _ i) (upd s.mov x (s.mov x ++ [m]) i).length (pcs (upd s.mov x (s.mov x ++ [m]) i))
    rw [upd_ne _ _ e, upd_ne _ _ e]
    exact ((h.mi i hi).step hT (by omega)).step hTs (by omega)
/-- A tally has been called. -/
theorem Sf.call (h : Sf w σ vt gh gm kb N pa hv mv s wr) (hN : N ≤ 6) (hx : x < N) {t' : Ta} {S S' : Nat → Prop} (a1 : TaAt wr (pa x) S (s.ta x)) (a2 : In σ (x + 5) S) (a3 : TaAt w' (pa x) S' t') (a4 : CStep wr w' S S') : ∃ σ', Sf w σ' vt gh gm kb N pa hv mv { s with ta := upd s.ta x t' } w' := by
  obtain ⟨σ', hT, r1⟩ := TaO.turns a1 a2 a3 a4
  exact ⟨σ', h.wl.step hT (by omega), h.tl.turn hx hT (by omega) (fun j hj hne e => by omega) r1, h.tk.step hT (by omega), h.ho.step hT (by omega), h.mo.step hT (by omega), fun i hi => (h.hi i hi).step hT (by omega), fun i hi => (h.mi i hi).step hT (by omega)⟩
theorem Sf.callSent (h : Sf w σ vt gh gm kb N pa hv mv s wr) (hN : N ≤ 6) (hx : x < N) (hok : Ta.ok (s.ta x)) (a : Int) : Calls Try.prog 12 #[.pointer (some ⟨pa x, 0, none⟩), .int .i64 a] wr fun e w' => e = .returned (.int .i64 (colI (s.ta x).c)) ∧ Hid (∃ σ', Sf w σ' vt gh gm kb N pa hv mv { s with ta := upd s.ta x ((s.ta x).sent a) } w') := by
  obtain ⟨S, a1, a2⟩ := h.tl.tas x hx
  refine (coSent_any a1 hok a).mono ?_
  rintro e w2 ⟨he, hq⟩
  obtain ⟨S', q1, q2⟩ := hq.out
  exact ⟨he, h.call hN hx a1 a2 q1 q2⟩
theorem gotT_col (t : Ta) (c : Bool) : gotT t (colI c) = t.got c := by cases c <;> simp [gotT, colI]
theorem gotC_col (c : Bool) : gotC (colI c) = 0 := by cases c <;> simp [gotC, colI]
theorem Sf.callGot (h : Sf w σ vt gh gm kb N pa hv mv s wr) (hN : N ≤ 6) (hx : x < N) (hok : Ta.ok (s.ta x)) (c : Bool) : Calls Try.prog 14 #[.pointer (some ⟨pa x, 0, none⟩), .int .i64 (colI c)] wr fun e w' => e = .returned (.int .i64 0) ∧ Hid (∃ σ', Sf w σ' vt gh gm kb N pa hv mv { s with ta := upd s.ta x ((s.ta x).got c) } w') := by
  obtain ⟨S, a1, a2⟩ := h.tl.tas x hx
  have hc := coGot_any a1 hok (colI c)
  rw [gotT_col, gotC_col] at hc
  refine hc.mono ?_
  rintro e w2 ⟨he, hq⟩
  obtain ⟨S', q1, q2⟩ := hq.out
  exact ⟨he, h.call hN hx a1 a2 q1 q2⟩
/-- What a visit makes of it. -/
def visTo (s : WS) (V : Tk × Ta × Int × Bool) (g : Int) : WS := { s with ta := upd s.ta s.at' V.2.1, at' := V.1.at', cnt := V.1.cnt, sum := V.1.sum, least := V.1.least, g := g }
theorem vis_n (k : Tk) (t : Ta) (l : Int) : (k.vis t l).1.n = k.n := by
  unfold Tk.vis
  split
  · split <;> rfl
  · split
    · split <;> rfl
    · rfl
theorem Sf.callVisit (h : Sf w σ vt gh gm kb N pa hv mv s wr) (hN : N ≤ 6) (hat : s.at' < N) (hok : (tok N s).ok) (hsm : Ta.small (s.ta s.at')) (l : Int) : Calls Try.prog 19 #[.pointer (some ⟨kb, 0, none⟩), .pointer (some ⟨pa s.at', 0, none⟩), .int .i64 l] wr fun e w' =>
    e = .returned (.tuple #[.int .i64 ((tok N s).vis (s.ta s.at') l).2.2.1, .bool ((tok N s).vis (s.ta s.at') l).2.2.2, .int .i64 0]) ∧ Hid (∀ gg, ∃ σ', Sf w σ' vt gh gm kb N pa hv mv (visTo s ((tok N s).vis (s.ta s.at') l) gg) w') := by
  obtain ⟨S, a1, a2⟩ := h.tl.tas s.at' hat
  obtain ⟨X, hX1, hX2⟩ := h.tk
  refine (coVisit_any hX1 a1 (fun j e e2 => by have := hX2 j e; have := a2 j e2; omega) hok hsm l).mono ?_
  rintro e w2 ⟨he, hq⟩
  obtain ⟨S', X', q1, q2, q3⟩ := hq.out
  obtain ⟨σ', hT, r1, r2⟩ := TkO.turns hX2 a2 q1 q2 q3
  refine ⟨he, Lib.hid fun gg => ⟨σ', h.wl.step hT (by omega), h.tl.turn hat hT (by omega) (fun j hj hne e => by omega) r1, ?_, h.ho.step hT (by omega), h.mo.step hT (by omega), fun i hi => (h.hi i hi).step hT (by omega), fun i hi => (h.mi i hi).step hT (by omega)⟩⟩
  have hn := vis_n (tok N s) (s.ta s.at') l
  generalize (tok N s).vis (s.ta s.at') l = V at *
  obtain ⟨⟨n, a, c, sm, le⟩, t, z, o⟩ := V
  have hn' : n = N := hn
  subst hn'
  exact r2
/-- A visit is one of the document's. -/
theorem visited_of (hat : s.at' < N) : ∃ gg, Visited N s (visTo s ((tok N s).vis (s.ta s.at') (leastL (s.held s.at'))) gg) ((tok N s).vis (s.ta s.at') (leastL (s.held s.at'))).2.2.1 ((tok N s).vis (s.ta s.at') (leastL (s.held s.at'))).2.2.2 := by
  have hsame : upd s.ta s.at' (s.ta s.at') = s.ta := by
    funext j
    by_cases e : j = s.at'
    · subst e; rw [upd_same]
    · rw [upd_ne _ _ e]
  obtain ⟨held, mov, ta, a, cnt, sum, least, g⟩ := s
  dsimp only at hat hsame ⊢
  cases cnt with
  | false =>
    by_cases hl : a + 1 = N
    · have hv : (tok N ⟨held, mov, ta, a, false, sum, least, g⟩).vis (ta a) (leastL (held a)) = (⟨N, 0, true, 0, never⟩, (ta a).flip, 0, false) := by simp [Tk.vis, tok, hl, never]
      rw [hv]
      exact ⟨g, .turnLast rfl hl⟩
    · have hv : (tok N ⟨held, mov, ta, a, false, sum, least, g⟩).vis (ta a) (leastL (held a)) = (⟨N, a + 1, false, sum, least⟩, (ta a).flip, 0, false) := by simp [Tk.vis, tok, hl]
      rw [hv]
      exact ⟨g, .turn rfl (by show a + 1 < N; omega)⟩
  | true =>
    by_cases hl : a + 1 = N
    · by_cases h0 : sum + (ta a).net (!(ta a).c) = 0
      · have hv : (tok N ⟨held, mov, ta, a, true, sum, least, g⟩).vis (ta a) (leastL (held a)) = (⟨N, 0, false, 0, never⟩, ta a, min (min least (leastL (held a))) (ta a).red, true) := by
          unfold Tk.vis tok
          dsimp only
          rw [if_neg (by decide), if_pos hl, if_pos h0]
          rfl
        rw [hv]
        refine ⟨WS.least1 ⟨held, mov, ta, a, true, sum, least, g⟩, ?_⟩
        have := Visited.done (N := N) (s := ⟨held, mov, ta, a, true, sum, least, g⟩) rfl hl h0
        unfold visTo
        dsimp only
        rw [hsame]
        exact this
      · have hv : (tok N ⟨held, mov, ta, a, true, sum, least, g⟩).vis (ta a) (leastL (held a)) = (⟨N, 0, true, 0, never⟩, ta a, 0, false) := by
          unfold Tk.vis tok
          dsimp only
          rw [if_neg (by decide), if_pos hl, if_neg h0]
          rfl
        rw [hv]
        refine ⟨g, ?_⟩
        have := Visited.again (N := N) (s := ⟨held, mov, ta, a, true, sum, least, g⟩) rfl hl h0
        unfold visTo
        dsimp only
        rw [hsame]
        exact this
    · have hv : (tok N ⟨held, mov, ta, a, true, sum, least, g⟩).vis (ta a) (leastL (held a)) = (⟨N, a + 1, true, sum + (ta a).net (!(ta a).c), min (min least (leastL (held a))) (ta a).red⟩, ta a, 0, false) := by
        unfold Tk.vis tok
        dsimp only
        rw [if_neg (by decide), if_neg hl]
      rw [hv]
      refine ⟨g, ?_⟩
      have := Visited.count (N := N) (s := ⟨held, mov, ta, a, true, sum, least, g⟩) rfl (by show a + 1 < N; omega)
      unfold visTo
      dsimp only
      rw [hsame]
      exact this
end
end Go.Proofs.Ytobfjfmaicmkdaa
