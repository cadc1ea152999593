
/-
  The document's tallies and token beside the program's, in one world.
-/
import Derived.Test.YtobfjfmaicmkdaaUJ
import Derived.Test.YtobfjfmaicmkdaaUI
namespace Go.Proofs.Ytobfjfmaicmkdaa
open Go.ChangeShapes Go.WideShapes Go.ChangeAt Go.Shelf Go.RowKit Go.Lib Go.Sort Go.Deep Col
set_option linter.unusedVariables false
set_option maxRecDepth 4000
section
variable {w wr w' : World} {σ σ' : Nat → Nat} {D : Nat → Prop} {b n id : Nat} {S X : Nat → Prop} {t : Ta} {k : Tk} {v : Value} {pa : Nat → Nat} {ts : Nat → Ta}
/-- The document's: a tally with its owner. -/
def DTaO (σ : Nat → Nat) (wr : World) (id b : Nat) (t : Ta) : Prop := ∃ S, DTaAt wr b S t ∧ In σ id S
theorem DTaO.step (h : DTaO σ wr id b t) (hT : Turns σ σ' D wr w') (hn : ¬ D id) : DTaO σ' w' id b t := by
  obtain ⟨S, h1, h2⟩ := h
  exact ⟨S, h1.kept hT.kept (fun j e e2 => hn (by rw [← h2 j e]; exact e2)), h2.ext hT.ext (fun j e => h1.lt e)⟩
def DTkO (σ : Nat → Nat) (wr : World) (id b : Nat) (k : Tk) : Prop := ∃ X, DTkAt wr b X k ∧ In σ id X
theorem DTkO.step (h : DTkO σ wr id b k) (hT : Turns σ σ' D wr w') (hn : ¬ D id) : DTkO σ' w' id b k := by
  obtain ⟨S, h1, h2⟩ := h
  exact ⟨S, h1.kept hT.kept (fun j e e2 => hn (by rw [← h2 j e]; exact e2)), h2.ext hT.ext (fun j e => h1.lt e)⟩
/-- A slice of n tallies: the row is owner 3's, tally i is owner i + 1005's. -/
structure DTls (σ : Nat → Nat) (wr : World) (v : Value) (n : Nat) (pa : Nat → Nat) (ts : Nat → Ta) : Prop where
  row : RowAt wr 35 1 v n (ptrs pa n)
  own : ∀ j, v.ownBlock = some j → σ j = 3
  tas : ∀ i, i < n → DTaO σ wr (i + 1005) (pa i) (ts i)
theorem DTls.nil (σ : Nat → Nat) (wr : World) (pa : Nat → Nat) (ts : Nat → Ta) : DTls σ wr (.slice none 0 0) 0 pa ts := ⟨RowAt.nil _ _ _, fun j e => (by cases e), fun i hi => by omega⟩
theorem DTls.step (h : DTls σ wr v n pa ts) (hT : Turns σ σ' D wr w') (h1 : ¬ D 3) (h5 : ∀ i, i < n → ¬ D (i + 1005)) : DTls σ' w' v n pa ts :=
  ⟨h.row.kept hT.kept (fun j e e2 => h1 (by rw [← h.own j e]; exact e2)), fun j e => (hT.ext j (h.row.lt j e)).trans (h.own j e), fun i hi => (h.tas i hi).step hT (h5 i hi)⟩
theorem DTls.below (h : DTls σ wr v n pa ts) (hb : Below wr.heap.size wr w') : DTls σ w' v n pa ts := h.step (D := fun _ => False) (Turns.below _ hb) (fun e => e) (fun _ _ e => e)
/-- One tally has been turned. -/
theorem DTls.turn (h : DTls σ wr v n pa ts) {i : Nat} (hi : i < n) {t' : Ta} (hT : Turns σ σ' D wr w') (h1 : ¬ D 3) (h5 : ∀ j, j < n → j ≠ i → ¬ D (j + 1005)) (ht : DTaO σ' w' (i + 1005) (pa i) t') : DTls σ' w' v n pa (upd ts i t') := by
  refine ⟨h.row.kept hT.kept (fun j e e2 => h1 (by rw [← h.own j e]; exact e2)), fun j e => (hT.ext j (h.row.lt j e)).trans (h.own j e), fun j hj => ?_⟩
  by_cases e : j = i
  · subst e; rw [upd_same]; exact ht
  · rw [upd_ne _ _ e]; exact (h.tas j hj).step hT (h5 j hj e)
theorem DTls.cell (h : DTls σ wr v n pa ts) (hn : 0 < n) : ∃ g off cap, v = .slice (some ⟨g, off, none⟩) n cap ∧ g < wr.heap.size ∧ (∀ i, i < n → wr.cell? ⟨g, off + i, none⟩ = some (.pointer (some ⟨pa i, 0, none⟩))) ∧ n ≤ cap := by
  rcases h.row with ⟨_, h0, _⟩ | ⟨g, off, cap, hv, hR⟩
  · omega
  · refine ⟨g, off, cap, hv, hR.lt, fun i hi => ?_, hR.bounds.1⟩
    exact hR.cell (ptrs_get pa hi)
/-- A call of a tally: what it turns. -/
theorem DTaO.turns {S' : Nat → Prop} {t' : Ta} (h1 : DTaAt wr b S t) (h2 : In σ id S) (h3 : DTaAt w' b S' t') (hc : CStep wr w' S S') : ∃ σ', Turns σ σ' (fun j => j = id) wr w' ∧ DTaO σ' w' id b t' := by
  refine ⟨fun j => if j < wr.heap.size then σ j else id, ⟨hc.1.mono (fun j _ e => h2 j e), fun j hj => if_pos hj⟩, S', h3, fun j e => ?_⟩
  dsimp only
  by_cases hj : j < wr.heap.size
  · rw [if_pos hj]
    exact (hc.2 j e).elim (h2 j) (fun e => by omega)
  · rw [if_neg hj]
/-- A visit: what it turns. -/
theorem DTkO.turns {kid kb : Nat} {S' X' : Nat → Prop} {k' : Tk} {t' : Ta} (hk : In σ kid X) (ht : In σ id S) (h3 : DTkAt w' kb X' k') (h4 : DTaAt w' b S' t') (hv : VStep wr w' S X S' X') : ∃ σ', Turns σ σ' (fun j => j = id ∨ j = kid) wr w' ∧ DTaO σ' w' id b t' ∧ DTkO σ' w' kid kb k' := by
  obtain ⟨hv1, hv2, hv3, hv4⟩ := hv
  refine ⟨fun j => if j < wr.heap.size then σ j else @ite _ (X' j) (Classical.propDecidable _) kid id, ⟨hv1.mono (fun j _ e => e.imp (ht j) (hk j)), fun j hj => if_pos hj⟩, ⟨S', h4, fun j e => ?_⟩, X', h3, fun j e => ?_⟩
  · dsimp only
    by_cases hj : j < wr.heap.size
    · rw [if_pos hj]
      exact (hv2 j e).elim (ht j) (fun e => by omega)
    · rw [if_neg hj, if_neg (fun e2 => hv4 j e2 e)]
  · dsimp only
    by_cases hj : j < wr.heap.size
    · rw [if_pos hj]
      exact (hv3 j e).elim (hk j) (fun e => by omega)
    · rw [if_neg hj, if_pos e]
end
/-- What stands in the law of plays: n tallies on both sides, a token on both; the program's stand at ts, k, the document's at ts2, k2. -/
def Mx (w : World) (v u : Value) (kb kd n m : Nat) (ts ts2 : Nat → Ta) (k k2 : Tk) (wr : World) : Prop := ∃ σ pa qa, Wld w σ wr ∧ Tls σ wr v n pa ts ∧ DTls σ wr u m qa ts2 ∧ TkO σ wr 2 kb k ∧ DTkO σ wr 4 kd k2
section
variable {w wr w' w1 : World} {v u : Value} {kb kd n m : Nat} {ts ts2 : Nat → Ta} {k k2 : Tk}
theorem Mx.below (h : Mx w v u kb kd n m ts ts2 k k2 wr) (hb : Below wr.heap.size wr w') : Mx w v u kb kd n m ts ts2 k k2 w' := by
  obtain ⟨σ, pa, qa, h1, h2, h3, h4, h5⟩ := h
  have hT : Turns σ σ (fun _ => False) wr w' := Turns.below _ hb
  exact ⟨σ, pa, qa, h1.step hT (fun e => e), h2.step hT (fun e => e) (fun _ _ e => e), h3.step hT (fun e => e) (fun _ _ e => e), h4.step hT (fun e => e), h5.step hT (fun e => e)⟩
theorem Mx.b (h : Mx w v u kb kd n m ts ts2 k k2 wr) : Below w.heap.size w wr := by obtain ⟨σ, pa, qa, h1, _⟩ := h; exact h1.b
/-- A call of one of the program's tallies. -/
theorem Mx.callP {σ : Nat → Nat} {pa qa : Nat → Nat} (h1 : Wld w σ wr) (h2 : Tls σ wr v n pa ts) (h3 : DTls σ wr u m qa ts2) (h4 : TkO σ wr 2 kb k) (h5 : DTkO σ wr 4 kd k2) (hn : n ≤ 16) {i : Nat} (hi : i < n) {t' : Ta} {S S' : Nat → Prop} (a1 : TaAt wr (pa i) S (ts i)) (a2 : In σ (i + 5) S) (a3 : TaAt w' (pa i) S' t') (a4 : CStep wr w' S S') : Mx w v u kb kd n m (upd ts i t') ts2 k k2 w' := by
  obtain ⟨σ', hT, r1⟩ := TaO.turns a1 a2 a3 a4
  exact ⟨σ', pa, qa, h1.step hT (by omega), h2.turn hi hT (by omega) (fun j hj hne e => by omega) r1, h3.step hT (by omega) (fun j hj e => by omega), h4.step hT (by omega), h5.step hT (by omega)⟩
/-- A call of one of the document's tallies. -/
theorem Mx.callD {σ : Nat → Nat} {pa qa : Nat → Nat} (h1 : Wld w σ wr) (h2 : Tls σ wr v n pa ts) (h3 : DTls σ wr u m qa ts2) (h4 : TkO σ wr 2 kb k) (h5 : DTkO σ wr 4 kd k2) (hn : n ≤ 16) {i : Nat} (hi : i < m) {t' : Ta} {S S' : Nat → Prop} (a1 : DTaAt wr (qa i) S (ts2 i)) (a2 : In σ (i + 1005) S) (a3 : DTaAt w' (qa i) S' t') (a4 : CStep wr w' S S') : Mx w v u kb kd n m ts (upd ts2 i t') k k2 w' := by
  obtain ⟨σ', hT, r1⟩ := DTaO.turns a1 a2 a3 a4
  exact ⟨σ', pa, qa, h1.step hT (by omega), h2.step hT (by omega) (fun j hj e => by omega), h3.turn hi hT (by omega) (fun j hj hne e => by omega) r1, h4.step hT (by omega), h5.step hT (by omega)⟩
/-- The program's visit. -/
theorem Mx.visP {σ : Nat → Nat} {pa qa : Nat → Nat} (h1 : Wld w σ wr) (h2 : Tls σ wr v n pa ts) (h3 : DTls σ wr u m qa ts2) (h4 : TkO σ wr 2 kb k) (h5 : DTkO σ wr 4 kd k2) (hn : n ≤ 16) {i : Nat} (hi : i < n) (l : Int) (hok : k.ok) (hsm : Ta.small (ts i)) : Calls Try.prog 19 #[.pointer (some ⟨kb, 0, none⟩), .pointer (some ⟨pa i, 0, none⟩), .int .i64 l] wr fun e w' => e = .returned (.tuple #[.int .i64 (k.vis (ts i) l).2.2.1, .bool (k.vis (ts i) l).2.2.2, .int .i64 0]) ∧ Hid (Mx w v u kb kd n m (upd ts i (k.vis (ts i) l).2.1) ts2 (k.vis (ts i) l).1 k2 w') := by
  obtain ⟨S, hS1, hS2⟩ := h2.tas i hi
  obtain ⟨X, hX1, hX2⟩ := h4
  refine (coVisit_any hX1 hS1 (fun j e e2 => by have := hX2 j e; have := hS2 j e2; omega) hok hsm l).mono ?_
  rintro e w2 ⟨he, hq⟩
  obtain ⟨S', X', q1, q2, q3⟩ := hq.out
  obtain ⟨σ', hT, r1, r2⟩ := TkO.turns hX2 hS2 q1 q2 q3
  exact ⟨he, σ', pa, qa, h1.step hT (by omega), h2.turn hi hT (by omega) (fun j hj hne e => by omega) r1, h3.step hT (by omega) (fun j hj e => by omega), r2, h5.step hT (by omega)⟩
/-- The document's visit. -/
theorem Mx.visD {σ : Nat → Nat} {pa qa : Nat → Nat} (h1 : Wld w σ wr) (h2 : Tls σ wr v n pa ts) (h3 : DTls σ wr u m qa ts2) (h4 : TkO σ wr 2 kb k) (h5 : DTkO σ wr 4 kd k2) (hn : n ≤ 16) {i : Nat} (hi : i < m) (l : Int) (hok : k2.ok) (hsm : Ta.small (ts2 i)) : Calls Try.prog 20 #[.pointer (some ⟨kd, 0, none⟩), .pointer (some ⟨qa i, 0, none⟩), .int .i64 l] wr fun e w' => e = .returned (.tuple #[.int .i64 (k2.vis (ts2 i) l).2.2.1, .bool (k2.vis (ts2 i) l).2.2.2]) ∧ Hid (Mx w v u kb kd n m ts (upd ts2 i (k2.vis (ts2 i) l).2.1) k (k2.vis (ts2 i) l).1 w') := by
  obtain ⟨S, hS1, hS2⟩ := h3.tas i hi
  obtain ⟨X, hX1, hX2⟩ := h5
  refine (rcVisit_any hX1 hS1 (fun j e e2 => by have := hX2 j e; have := hS2 j e2; omega) hok hsm l).mono ?_
  rintro e w2 ⟨he, hq⟩
  obtain ⟨S', X', q1, q2, q3⟩ := hq.out
  obtain ⟨σ', hT, r1, r2⟩ := DTkO.turns hX2 hS2 q1 q2 q3
  exact ⟨he, σ', pa, qa, h1.step hT (by omega), h2.step hT (by omega) (fun j hj e => by omega), h3.turn hi hT (by omega) (fun j hj hne e => by omega) r1, h4.step hT (by omega), r2⟩
end
end Go.Proofs.Ytobfjfmaicmkdaa
