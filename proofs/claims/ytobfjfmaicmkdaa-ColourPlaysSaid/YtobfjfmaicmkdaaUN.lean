
/-
  Both sides in one world: one tally more on either side; the start.
-/
import Derived.Test.YtobfjfmaicmkdaaUM
namespace Go.Proofs.Ytobfjfmaicmkdaa
open Go.ChangeShapes Go.WideShapes Go.ChangeAt Go.Shelf Go.RowKit Go.Lib Go.Sort Go.Deep Col
set_option linter.unusedVariables false
set_option maxRecDepth 4000
section
variable {w wr w' w1 w2 : World} {v u : Value} {kb kd n m : Nat} {ts ts2 : Nat → Ta} {k k2 : Tk}
/-- One tally more (the program's). -/
theorem Mx.moreP {σ : Nat → Nat} {pa qa : Nat → Nat} (h1 : Wld w σ wr) (h2 : Tls σ wr v n pa ts) (h3 : DTls σ wr u m qa ts2) (h4 : TkO σ wr 2 kb k) (h5 : DTkO σ wr 4 kd k2) {p : Nat} {S : Nat → Prop} (hN : TaAt w1 p S Ta.new) (hS : ∀ j, S j → wr.heap.size ≤ j) (hb : Below wr.heap.size wr w1) :
    RowAt (w1.alloc (.cells #[.pointer (some ⟨p, 0, none⟩)] 33)) 33 1 v n (ptrs pa n) ∧ ∀ g off cap w4, RowIn w4 33 1 g off (n + 1) cap (ptrs pa n ++ [Value.pointer (some ⟨p, 0, none⟩)]) → KeptOff (fun j => v.ownBlock = some j) (w1.alloc (.cells #[.pointer (some ⟨p, 0, none⟩)] 33)) w4 →
      (v.ownBlock = some g ∨ (w1.alloc (.cells #[.pointer (some ⟨p, 0, none⟩)] 33)).heap.size ≤ g) → Mx w (.slice (some ⟨g, off, none⟩) (n + 1) cap) u kb kd (n + 1) m (upd ts n Ta.new) ts2 k k2 w4 := by
  have hba := (Below.refl _ w1).alloc (Nat.le_refl _) (.cells #[.pointer (some ⟨p, 0, none⟩)] 33)
  have hb2 : Below wr.heap.size wr (w1.alloc (.cells #[.pointer (some ⟨p, 0, none⟩)] 33)) := hb.trans (hba.mono hb.size)
  have hsz := hb2.size
  have hN2 := hN.below hba
  generalize w1.alloc (.cells #[.pointer (some ⟨p, 0, none⟩)] 33) = W at *
  refine ⟨(h2.step (D := fun _ => False) (Turns.below _ hb2) (fun e => e) (fun _ _ e => e)).row, fun g off cap w4 hR hk hg => ?_⟩
  obtain ⟨σ', hσ⟩ : ∃ σ' : Nat → Nat, σ' = fun j => if j < wr.heap.size then σ j else @ite _ (S j) (Classical.propDecidable _) (n + 5) 1 := ⟨_, rfl⟩
  have hT : Turns σ σ' (fun _ => False) wr W := ⟨.of_below hb2, fun j hj => by rw [hσ]; exact if_pos hj⟩
  have hIn : In σ' (n + 5) S := fun j e => by
    rw [hσ]
    dsimp only
    rw [if_neg (by have := hS j e; omega), if_pos e]
  have h1' := h1.step hT (fun e => e)
  have h2' := h2.step hT (fun e => e) (fun _ _ e => e)
  have h3' := h3.step hT (fun e => e) (fun _ _ e => e)
  have h4' := h4.step hT (fun e => e)
  have h5' := h5.step hT (fun e => e)
  have hT2 : Turns σ' σ' (fun j => j = 1) W w4 := ⟨hk.mono (fun j _ e => h2'.own j e), Ext.refl _ _⟩
  exact ⟨σ', upd pa n p, qa, h1'.step hT2 (by omega), ⟨.inr ⟨g, off, cap, rfl, by rw [ptrs_more]; exact hR⟩, fun j e => by
    simp [Value.ownBlock] at e
    subst e
    rcases hg with e | e
    · exact h2'.own g e
    · rw [hσ]
      dsimp only
      rw [if_neg (by omega), if_neg (fun e2 => by have := hN2.lt e2; omega)], fun i hi => by
    by_cases e : i = n
    · subst e
      rw [upd_same, upd_same]
      exact TaO.step (D := fun j => j = 1) ⟨S, hN2, hIn⟩ hT2 (by omega)
    · rw [upd_ne _ _ e, upd_ne _ _ e]
      exact (h2'.tas i (by omega)).step hT2 (by omega)⟩, h3'.step hT2 (by omega) (fun i hi e => by omega), h4'.step hT2 (by omega), h5'.step hT2 (by omega)⟩
/-- One tally more (the document's). -/
theorem Mx.moreD {σ : Nat → Nat} {pa qa : Nat → Nat} (h1 : Wld w σ wr) (h2 : Tls σ wr v n pa ts) (h3 : DTls σ wr u m qa ts2) (h4 : TkO σ wr 2 kb k) (h5 : DTkO σ wr 4 kd k2) {p : Nat} {S : Nat → Prop} (hN : DTaAt w1 p S Ta.new) (hS : ∀ j, S j → wr.heap.size ≤ j) (hb : Below wr.heap.size wr w1) :
    RowAt (w1.alloc (.cells #[.pointer (some ⟨p, 0, none⟩)] 35)) 35 1 u m (ptrs qa m) ∧ ∀ g off cap w4, RowIn w4 35 1 g off (m + 1) cap (ptrs qa m ++ [Value.pointer (some ⟨p, 0, none⟩)]) → KeptOff (fun j => u.ownBlock = some j) (w1.alloc (.cells #[.pointer (some ⟨p, 0, none⟩)] 35)) w4 →
      (u.ownBlock = some g ∨ (w1.alloc (.cells #[.pointer (some ⟨p, 0, none⟩)] 35)).heap.size ≤ g) → Mx w v (.slice (some ⟨g, off, none⟩) (m + 1) cap) kb kd n (m + 1) ts (upd ts2 m Ta.new) k k2 w4 := by
  have hba := (Below.refl _ w1).alloc (Nat.le_refl _) (.cells #[.pointer (some ⟨p, 0, none⟩)] 35)
  have hb2 : Below wr.heap.size wr (w1.alloc (.cells #[.pointer (some ⟨p, 0, none⟩)] 35)) := hb.trans (hba.mono hb.size)
  have hsz := hb2.size
  have hN2 := hN.below hba
  generalize w1.alloc (.cells #[.pointer (some ⟨p, 0, none⟩)] 35) = W at *
  refine ⟨(h3.step (D := fun _ => False) (Turns.below _ hb2) (fun e => e) (fun _ _ e => e)).row, fun g off cap w4 hR hk hg => ?_⟩
  obtain ⟨σ', hσ⟩ : ∃ σ' : Nat → Nat, σ' = fun j => if j < wr.heap.size then σ j else @ite _ (S j) (Classical.propDecidable _) (m + 1005) 3 := ⟨_, rfl⟩
  have hT : Turns σ σ' (fun _ => False) wr W := ⟨.of_below hb2, fun j hj => by rw [hσ]; exact if_pos hj⟩
  have hIn : In σ' (m + 1005) S := fun j e => by
    rw [hσ]
    dsimp only
    rw [if_neg (by have := hS j e; omega), if_pos e]
  have h1' := h1.step hT (fun e => e)
  have h2' := h2.step hT (fun e => e) (fun _ _ e => e)
  have h3' := h3.step hT (fun e => e) (fun _ _ e => e)
  have h4' := h4.step hT (fun e => e)
  have h5' := h5.step hT (fun e => e)
  have hT2 : Turns σ' σ' (fun j => j = 3) W w4 := ⟨hk.mono (fun j _ e => h3'.own j e), Ext.refl _ _⟩
  exact ⟨σ', pa, upd qa m p, h1'.step hT2 (by omega), h2'.step hT2 (by omega) (fun i hi e => by omega), ⟨.inr ⟨g, off, cap, rfl, by rw [ptrs_more]; exact hR⟩, fun j e => by
    simp [Value.ownBlock] at e
    subst e
    rcases hg with e | e
    · exact h3'.own g e
    · rw [hσ]
      dsimp only
      rw [if_neg (by omega), if_neg (fun e2 => by have := hN2.lt e2; omega)], fun i hi => by
    by_cases e : i = m
    · subst e
      rw [upd_same, upd_same]
      exact DTaO.step (D := fun j => j = 3) ⟨S, hN2, hIn⟩ hT2 (by omega)
    · rw [upd_ne _ _ e, upd_ne _ _ e]
      exact (h3'.tas i (by omega)).step hT2 (by omega)⟩, h4'.step hT2 (by omega), h5'.step hT2 (by omega)⟩
/-- Both tokens have been made; no tally yet. -/
theorem Mx.start {X Y : Nat → Prop} (h1 : TkAt w1 kb X k) (h2 : ∀ j, X j → w.heap.size ≤ j) (h3 : Below w.heap.size w w1) (h4 : DTkAt w2 kd Y k2) (h5 : ∀ j, Y j → w1.heap.size ≤ j) (h6 : Below w1.heap.size w1 w2) (ts ts2 : Nat → Ta) : Mx w (.slice none 0 0) (.slice none 0 0) kb kd 0 0 ts ts2 k k2 w2 := by
  have hs := h3.size
  refine ⟨fun j => @ite _ (X j) (Classical.propDecidable _) 2 (@ite _ (Y j) (Classical.propDecidable _) 4 0), fun _ => 0, fun _ => 0, ⟨h3.trans (h6.mono hs), fun j hj => ?_⟩, Tls.nil _ _ _ _, DTls.nil _ _ _ _, ⟨X, h1.below h6, fun j e => if_pos e⟩, Y, h4, fun j e => ?_⟩
  · rw [if_neg (fun e => by have := h2 j e; omega), if_neg (fun e => by have := h5 j e; omega)]
  · dsimp only
    rw [if_neg (fun e2 => by have := h1.lt e2; have := h5 j e; omega), if_pos e]
end
end Go.Proofs.Ytobfjfmaicmkdaa
