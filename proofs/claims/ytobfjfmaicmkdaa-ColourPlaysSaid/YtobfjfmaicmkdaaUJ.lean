
/-
  Whose block is whose: many tallies under a slice, a token, in one world.
-/
import Derived.Test.YtobfjfmaicmkdaaUF
import Derived.Test.YtobfjfmaicmkdaaUR
namespace Go.Proofs.Ytobfjfmaicmkdaa
open Go.ChangeShapes Go.WideShapes Go.ChangeAt Go.Shelf Go.RowKit Go.Lib Go.Sort Go.Deep Col
set_option linter.unusedVariables false
set_option maxRecDepth 4000

/-- All of these blocks are the owner's. -/
def In (σ : Nat → Nat) (id : Nat) (S : Nat → Prop) : Prop := ∀ j, S j → σ j = id
/-- The owners go on, in a world that has grown. -/
def Ext (n : Nat) (σ σ' : Nat → Nat) : Prop := ∀ j, j < n → σ' j = σ j
theorem Ext.refl (n : Nat) (σ : Nat → Nat) : Ext n σ σ := fun _ _ => rfl
theorem In.ext {σ σ' : Nat → Nat} {id n : Nat} {S : Nat → Prop} (h : In σ id S) (he : Ext n σ σ') (hlt : ∀ j, S j → j < n) : In σ' id S := fun j e => (he j (hlt j e)).trans (h j e)
/-- A call turns blocks of some owners alone. -/
structure Turns (σ σ' : Nat → Nat) (D : Nat → Prop) (wr w' : World) : Prop where
  kept : KeptOff (fun j => D (σ j)) wr w'
  ext : Ext wr.heap.size σ σ'
theorem Turns.below {σ : Nat → Nat} {wr w' : World} (D : Nat → Prop) (h : Below wr.heap.size wr w') : Turns σ σ D wr w' := ⟨.of_below h, Ext.refl _ _⟩
structure Wld (w : World) (σ : Nat → Nat) (wr : World) : Prop where
  b : Below w.heap.size w wr
  old : ∀ j, j < w.heap.size → σ j = 0
section
variable {w wr w' : World} {σ σ' : Nat → Nat} {D : Nat → Prop} {b n id : Nat} {S X : Nat → Prop} {t : Ta} {k : Tk} {v : Value} {pa : Nat → Nat} {ts : Nat → Ta}
theorem Wld.step (h : Wld w σ wr) (hT : Turns σ σ' D wr w') (h0 : ¬ D 0) : Wld w σ' w' :=
  ⟨h.b.trans (hT.kept.below (fun j hj e => by
    by_cases hlt : j < w.heap.size
    · rw [h.old j hlt] at e; exact absurd e h0
    · omega) h.b.size), fun j hj => (hT.ext j (Nat.lt_of_lt_of_le hj h.b.size)).trans (h.old j hj)⟩
/-- A tally with its owner. -/
def TaO (σ : Nat → Nat) (wr : World) (id b : Nat) (t : Ta) : Prop := ∃ S, TaAt wr b S t ∧ In σ id S
theorem TaO.step (h : TaO σ wr id b t) (hT : Turns σ σ' D wr w') (hn : ¬ D id) : TaO σ' w' id b t := by
  obtain ⟨S, h1, h2⟩ := h
  exact ⟨S, h1.kept hT.kept (fun j e e2 => hn (by rw [← h2 j e]; exact e2)), h2.ext hT.ext (fun j e => h1.lt e)⟩
def TkO (σ : Nat → Nat) (wr : World) (id b : Nat) (k : Tk) : Prop := ∃ X, TkAt wr b X k ∧ In σ id X
theorem TkO.step (h : TkO σ wr id b k) (hT : Turns σ σ' D wr w') (hn : ¬ D id) : TkO σ' w' id b k := by
  obtain ⟨S, h1, h2⟩ := h
  exact ⟨S, h1.kept hT.kept (fun j e e2 => hn (by rw [← h2 j e]; exact e2)), h2.ext hT.ext (fun j e => h1.lt e)⟩
/-- The cells of a slice of pointers. -/
def ptrs (pa : Nat → Nat) (n : Nat) : List Value := (List.range n).map fun i => Value.pointer (some ⟨pa i, 0, none⟩)
theorem ptrs_len (pa : Nat → Nat) (n : Nat) : (ptrs pa n).length = n := by simp [ptrs]
theorem ptrs_get (pa : Nat → Nat) {n i : Nat} (h : i < n) : (ptrs pa n)[i]? = some (Value.pointer (some ⟨pa i, 0, none⟩)) := by simp [ptrs, h]
theorem ptrs_more (pa : Nat → Nat) (n p : Nat) : ptrs (upd pa n p) (n + 1) = ptrs pa n ++ [Value.pointer (some ⟨p, 0, none⟩)] := by
  unfold ptrs
  rw [List.range_succ, List.map_append]
  congr 1
  · exact List.map_congr_left (fun i hi => by rw [upd_ne _ _ (by have := List.mem_range.1 hi; omega)])
  · simp [upd_same]
/-- A slice of n tallies: the row is owner 1's, tally i is owner i + 5's. -/
structure Tls (σ : Nat → Nat) (wr : World) (v : Value) (n : Nat) (pa : Nat → Nat) (ts : Nat → Ta) : Prop where
  row : RowAt wr 33 1 v n (ptrs pa n)
  own : ∀ j, v.ownBlock = some j → σ j = 1
  tas : ∀ i, i < n → TaO σ wr (i + 5) (pa i) (ts i)
theorem Tls.nil (σ : Nat → Nat) (wr : World) (pa : Nat → Nat) (ts : Nat → Ta) : Tls σ wr (.slice none 0 0) 0 pa ts := ⟨RowAt.nil _ _ _, fun j e => (by cases e), fun i hi => by omega⟩
theorem Tls.step (h : Tls σ wr v n pa ts) (hT : Turns σ σ' D wr w') (h1 : ¬ D 1) (h5 : ∀ i, i < n → ¬ D (i + 5)) : Tls σ' w' v n pa ts :=
  ⟨h.row.kept hT.kept (fun j e e2 => h1 (by rw [← h.own j e]; exact e2)), fun j e => (hT.ext j (h.row.lt j e)).trans (h.own j e), fun i hi => (h.tas i hi).step hT (h5 i hi)⟩
theorem Tls.below (h : Tls σ wr v n pa ts) (hb : Below wr.heap.size wr w') : Tls σ w' v n pa ts := h.step (D := fun _ => False) (Turns.below _ hb) (fun e => e) (fun _ _ e => e)
/-- One tally has been turned. -/
theorem Tls.turn (h : Tls σ wr v n pa ts) {i : Nat} (hi : i < n) {t' : Ta} (hT : Turns σ σ' D wr w') (h1 : ¬ D 1) (h5 : ∀ j, j < n → j ≠ i → ¬ D (j + 5)) (ht : TaO σ' w' (i + 5) (pa i) t') : Tls σ' w' v n pa (upd ts i t') := by
  refine ⟨h.row.kept hT.kept (fun j e e2 => h1 (by rw [← h.own j e]; exact e2)), fun j e => (hT.ext j (h.row.lt j e)).trans (h.own j e), fun j hj => ?_⟩
  by_cases e : j = i
  · subst e; rw [upd_same]; exact ht
  · rw [upd_ne _ _ e]; exact (h.tas j hj).step hT (h5 j hj e)
theorem Tls.cell (h : Tls σ wr v n pa ts) (hn : 0 < n) : ∃ g off cap, v = .slice (some ⟨g, off, none⟩) n cap ∧ g < wr.heap.size ∧ (∀ i, i < n → wr.cell? ⟨g, off + i, none⟩ = some (.pointer (some ⟨pa i, 0, none⟩))) ∧ n ≤ cap := by
  rcases h.row with ⟨_, h0, _⟩ | ⟨g, off, cap, hv, hR⟩
  · omega
  · refine ⟨g, off, cap, hv, hR.lt, fun i hi => ?_, hR.bounds.1⟩
    exact hR.cell (ptrs_get pa hi)
/-- A call of a tally: what it turns. -/
theorem TaO.turns {S' : Nat → Prop} {t' : Ta} (h1 : TaAt wr b S t) (h2 : In σ id S) (h3 : TaAt w' b S' t') (hc : CStep wr w' S S') : ∃ σ', Turns σ σ' (fun j => j = id) wr w' ∧ TaO σ' w' id b t' := by
  refine ⟨fun j => if j < wr.heap.size then σ j else id, ⟨hc.1.mono (fun j _ e => h2 j e), fun j hj => if_pos hj⟩, S', h3, fun j e => ?_⟩
  dsimp only
  by_cases hj : j < wr.heap.size
  · rw [if_pos hj]
    exact (hc.2 j e).elim (h2 j) (fun e => by omega)
  · rw [if_neg hj]
/-- A visit: what it turns. -/
theorem TkO.turns {kid kb : Nat} {S' X' : Nat → Prop} {k' : Tk} {t' : Ta} (hk : In σ kid X) (ht : In σ id S) (h3 : TkAt w' kb X' k') (h4 : TaAt w' b S' t') (hv : VStep wr w' S X S' X') : ∃ σ', Turns σ σ' (fun j => j = id ∨ j = kid) wr w' ∧ TaO σ' w' id b t' ∧ TkO σ' w' kid kb k' := by
  obtain ⟨hv1, hv2, hv3, hv4⟩ := hv
  refine ⟨fun j => if j < wr.heap.size then σ j else @ite _ (X' j) (Classical.propDecidable _) kid id, ⟨hv1.mono (fun j _ e => e.imp (ht j) (hk j)), fun j hj => if_pos hj⟩, ⟨S', h4, fun j e => ?_⟩, X', h3, fun j e => ?_⟩
  · dsimp only
    by_cases hj : j < wr.heap.size
    · rw [if_pos hj]
      exact (hv2 j e).elim (ht j) (fun e => by omega)
    · rw [if_neg hj, if_neg (fun e2 => hv4 j e2 e)]
  · dsimp only
    by_cases hj : j < wr.heap.size
    · rw [if_pos hj]
      exact (hv3 j e).elim (hk j) (fun e => by omega)
    · rw [if_neg hj, if_pos e]
end
/-- What stands in a law of tallies and a token. -/
def Lw (w : World) (v : Value) (kb n : Nat) (ts : Nat → Ta) (k : Tk) (wr : World) : Prop := ∃ σ pa, Wld w σ wr ∧ Tls σ wr v n pa ts ∧ TkO σ wr 2 kb k
section
variable {w wr w' : World} {v : Value} {kb n : Nat} {ts : Nat → Ta} {k : Tk}
theorem Lw.below (h : Lw w v kb n ts k wr) (hb : Below wr.heap.size wr w') : Lw w v kb n ts k w' := by
  obtain ⟨σ, pa, h1, h2, h3⟩ := h
  have hT : Turns σ σ (fun _ => False) wr w' := Turns.below _ hb
  exact ⟨σ, pa, h1.step hT (fun e => e), h2.step hT (fun e => e) (fun _ _ e => e), h3.step hT (fun e => e)⟩
theorem Lw.b (h : Lw w v kb n ts k wr) : Below w.heap.size w wr := by obtain ⟨σ, pa, h1, _⟩ := h; exact h1.b
theorem Lw.cell (h : Lw w v kb n ts k wr) (hn : 0 < n) : ∃ (g off cap : Nat) (pa : Nat → Nat), v = .slice (some ⟨g, off, none⟩) n cap ∧ g < wr.heap.size ∧ (∀ i, i < n → wr.cell? ⟨g, off + i, none⟩ = some (.pointer (some ⟨pa i, 0, none⟩))) ∧ n ≤ cap ∧
    (∀ i l, i < n → k.ok → Ta.small (ts i) → Calls Try.prog 19 #[.pointer (some ⟨kb, 0, none⟩), .pointer (some ⟨pa i, 0, none⟩), .int .i64 l] wr fun e w' => e = .returned (.tuple #[.int .i64 (k.vis (ts i) l).2.2.1, .bool (k.vis (ts i) l).2.2.2, .int .i64 0]) ∧ Hid (Lw w v kb n (upd ts i (k.vis (ts i) l).2.1) (k.vis (ts i) l).1 w')) := by
  obtain ⟨σ, pa, h1, h2, h3⟩ := h
  obtain ⟨g, off, cap, e1, e2, e3, e4⟩ := h2.cell hn
  refine ⟨g, off, cap, pa, e1, e2, e3, e4, fun i l hi hok hsm => ?_⟩
  obtain ⟨S, hS1, hS2⟩ := h2.tas i hi
  obtain ⟨X, hX1, hX2⟩ := h3
  refine (coVisit_any hX1 hS1 (fun j e e2 => by have := hX2 j e; have := hS2 j e2; omega) hok hsm l).mono ?_
  rintro e w2 ⟨he, hq⟩
  obtain ⟨S', X', q1, q2, q3⟩ := hq.out
  obtain ⟨σ', hT, r1, r2⟩ := TkO.turns hX2 hS2 q1 q2 q3
  exact ⟨he, σ', pa, h1.step hT (by omega), h2.turn hi hT (by omega) (fun j hj hne e => by omega) r1, r2⟩
theorem Lw.tok (h : Lw w v kb n ts k wr) : (Calls Try.prog 18 #[.pointer (some ⟨kb, 0, none⟩)] wr fun e w' => e = .returned (.int .i64 k.at') ∧ Below wr.heap.size wr w') ∧ Calls Try.prog 24 #[.pointer (some ⟨kb, 0, none⟩)] wr fun e w' => e = .returned (.bool k.cnt) ∧ Below wr.heap.size wr w' := by
  obtain ⟨σ, pa, h1, h2, X, h3, h4⟩ := h
  exact ⟨coAt_any h3, coCounting_any h3⟩
/-- The token has been made; no tally yet. -/
theorem Lw.start {w wr : World} {kb : Nat} {X : Nat → Prop} {k : Tk} (h1 : TkAt wr kb X k) (h2 : ∀ j, X j → w.heap.size ≤ j) (h3 : Below w.heap.size w wr) (ts : Nat → Ta) : Lw w (.slice none 0 0) kb 0 ts k wr := by
  refine ⟨fun j => @ite _ (X j) (Classical.propDecidable _) 2 0, fun _ => 0, ⟨h3, fun j hj => if_neg (fun e => by have := h2 j e; omega)⟩, Tls.nil _ _ _ _, X, h1, fun j e => if_pos e⟩
/-- One tally more. -/
theorem Lw.more {w wr w1 : World} {σ : Nat → Nat} {v : Value} {kb n : Nat} {pa : Nat → Nat} {ts : Nat → Ta} {k : Tk} (h1 : Wld w σ wr) (h2 : Tls σ wr v n pa ts) (h3 : TkO σ wr 2 kb k) {p : Nat} {S : Nat → Prop} (hN : TaAt w1 p S Ta.new) (hS : ∀ j, S j → wr.heap.size ≤ j) (hb : Below wr.heap.size wr w1) :
    RowAt (w1.alloc (.cells #[.pointer (some ⟨p, 0, none⟩)] 33)) 33 1 v n (ptrs pa n) ∧ ∀ g off cap w4, RowIn w4 33 1 g off (n + 1) cap (ptrs pa n ++ [Value.pointer (some ⟨p, 0, none⟩)]) → KeptOff (fun j => v.ownBlock = some j) (w1.alloc (.cells #[.pointer (some ⟨p, 0, none⟩)] 33)) w4 →
      (v.ownBlock = some g ∨ (w1.alloc (.cells #[.pointer (some ⟨p, 0, none⟩)] 33)).heap.size ≤ g) → Lw w (.slice (some ⟨g, off, none⟩) (n + 1) cap) kb (n + 1) (upd ts n Ta.new) k w4 := by
  have hba := (Below.refl _ w1).alloc (Nat.le_refl _) (.cells #[.pointer (some ⟨p, 0, none⟩)] 33)
  have hb2 : Below wr.heap.size wr (w1.alloc (.cells #[.pointer (some ⟨p, 0, none⟩)] 33)) := hb.trans (hba.mono hb.size)
  have hsz := hb2.size
  have hN2 := hN.below hba
  generalize w1.alloc (.cells #[.pointer (some ⟨p, 0, none⟩)] 33) = W at *
  refine ⟨(h2.below hb2).row, fun g off cap w4 hR hk hg => ?_⟩
  obtain ⟨σ', hσ⟩ : ∃ σ' : Nat → Nat, σ' = fun j => if j < wr.heap.size then σ j else @ite _ (S j) (Classical.propDecidable _) (n + 5) 1 := ⟨_, rfl⟩
  have hT : Turns σ σ' (fun _ => False) wr W := ⟨.of_below hb2, fun j hj => by rw [hσ]; exact if_pos hj⟩
  have hIn : In σ' (n + 5) S := fun j e => by
    rw [hσ]
    dsimp only
    rw [if_neg (by have := hS j e; omega), if_pos e]
  have h1' := h1.step hT (fun e => e)
  have h2' := h2.step hT (fun e => e) (fun _ _ e => e)
  have h3' := h3.step hT (fun e => e)
  have hT2 : Turns σ' σ' (fun j => j = 1) W w4 := ⟨hk.mono (fun j _ e => h2'.own j e), Ext.refl _ _⟩
  refine ⟨σ', upd pa n p, h1'.step hT2 (by omega), ⟨.inr ⟨g, off, cap, rfl, by rw [ptrs_more]; exact hR⟩, fun j e => ?_, fun i hi => ?_⟩, h3'.step hT2 (by omega)⟩
  · simp [Value.ownBlock] at e
    subst e
    rcases hg with e | e
    · exact h2'.own g e
    · rw [hσ]
      dsimp only
      rw [if_neg (by omega), if_neg (fun e2 => by have := hN2.lt e2; omega)]
  · by_cases e : i = n
    · subst e
      rw [upd_same, upd_same]
      exact TaO.step (D := fun j => j = 1) ⟨S, hN2, hIn⟩ hT2 (by omega)
    · rw [upd_ne _ _ e, upd_ne _ _ e]
      exact (h2'.tas i (by omega)).step hT2 (by omega)
end
end Go.Proofs.Ytobfjfmaicmkdaa
