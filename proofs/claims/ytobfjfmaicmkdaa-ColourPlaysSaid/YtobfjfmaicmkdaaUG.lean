
/-
  The document's own tallies and token.
-/
import Derived.Test.YtobfjfmaicmkdaaUF
import Derived.StillTail
import Derived.StillTailTactics
namespace Go.Proofs.Ytobfjfmaicmkdaa
open Go.ChangeShapes Go.WideShapes Go.ChangeAt Go.Shelf Go.RowKit Go.Lib Go.Sort Go.Deep Col
set_option linter.unusedVariables false
set_option maxRecDepth 4000

/-- The document's tally in memory: its struct at b, its counts at g. -/
structure DRow (w : World) (b g : Nat) (S : Nat → Prop) (t : Ta) : Prop where
  row : w.heap[b]? = some (.cells #[.int .i64 (colI t.c), .slice (some ⟨g, 0, none⟩) 2 2, .int .i64 t.red] 52 (0, 0))
  net : w.heap[g]? = some (.cells #[.int .i64 t.n0, .int .i64 t.n1] 3 (0, 0))
  ne : g ≠ b
  own : S b
  owng : S g
  lt : ∀ k, S k → k < w.heap.size
def DTaAt (w : World) (b : Nat) (S : Nat → Prop) (t : Ta) : Prop := ∃ g, DRow w b g S t
section
variable {w w' : World} {b g : Nat} {S X : Nat → Prop} {t : Ta}
theorem DRow.kept (h : DRow w b g S t) (hk : KeptOff X w w') (hn : ∀ k, S k → ¬ X k) : DRow w' b g S t :=
  ⟨(hk.block b (h.lt b h.own) (hn b h.own)).trans h.row, (hk.block g (h.lt g h.owng) (hn g h.owng)).trans h.net, h.ne, h.own, h.owng, fun k e => Nat.lt_of_lt_of_le (h.lt k e) hk.size⟩
theorem DRow.below (h : DRow w b g S t) (hb : Below w.heap.size w w') : DRow w' b g S t := h.kept (X := fun _ => False) (.of_below hb) (fun _ _ e => e)
theorem DTaAt.kept (h : DTaAt w b S t) (hk : KeptOff X w w') (hn : ∀ k, S k → ¬ X k) : DTaAt w' b S t := let ⟨g, h⟩ := h; ⟨g, h.kept hk hn⟩
theorem DTaAt.below (h : DTaAt w b S t) (hb : Below w.heap.size w w') : DTaAt w' b S t := let ⟨g, h⟩ := h; ⟨g, h.below hb⟩
theorem DTaAt.lt (h : DTaAt w b S t) {k : Nat} (hk : S k) : k < w.heap.size := let ⟨_, h⟩ := h; h.lt k hk
theorem DTaAt.own (h : DTaAt w b S t) : S b := let ⟨_, h⟩ := h; h.own
theorem DRow.c (h : DRow w b g S t) : w.cell? ⟨b, 0, none⟩ = some (.int .i64 (colI t.c)) := cell_of_block h.row rfl
theorem DRow.v (h : DRow w b g S t) : w.cell? ⟨b, 1, none⟩ = some (.slice (some ⟨g, 0, none⟩) 2 2) := cell_of_block h.row rfl
theorem DRow.r (h : DRow w b g S t) : w.cell? ⟨b, 2, none⟩ = some (.int .i64 t.red) := cell_of_block h.row rfl
theorem DRow.n0 (h : DRow w b g S t) : w.cell? ⟨g, 0, none⟩ = some (.int .i64 t.n0) := cell_of_block h.net rfl
theorem DRow.n1 (h : DRow w b g S t) : w.cell? ⟨g, 1, none⟩ = some (.int .i64 t.n1) := cell_of_block h.net rfl
theorem DRow.fb (h : DRow w b g S t) (o : Nat) : w.frozen? ⟨b, o, none⟩ = false := frozen_of_cells h.row
theorem DRow.fg (h : DRow w b g S t) (o : Nat) : w.frozen? ⟨g, o, none⟩ = false := frozen_of_cells h.net
theorem DRow.setB (h : DRow w b g S t) (o : Nat) (v : Value) {t' : Ta} (e : (#[.int .i64 (colI t.c), .slice (some ⟨g, 0, none⟩) 2 2, .int .i64 t.red] : Array Value).setIfInBounds o v = #[.int .i64 (colI t'.c), .slice (some ⟨g, 0, none⟩) 2 2, .int .i64 t'.red]) (e0 : t'.n0 = t.n0) (e1 : t'.n1 = t.n1) : DRow (w.setCell ⟨b, o, none⟩ v) b g S t' ∧ KeptOff S w (w.setCell ⟨b, o, none⟩ v) := by
  have hk := KeptOff.set w ⟨b, o, none⟩ v
  refine ⟨⟨?_, ?_, h.ne, h.own, h.owng, fun k e => Nat.lt_of_lt_of_le (h.lt k e) hk.size⟩, hk.mono (fun k _ e => by rw [e]; exact h.own)⟩
  · have := Go.heap_setCell_same w b o _ _ v h.row
    rw [e] at this
    exact this
  · rw [e0, e1]
    exact (hk.block g (h.lt g h.owng) (fun e => h.ne e)).trans h.net
theorem DRow.setG (h : DRow w b g S t) (o : Nat) (v : Value) {t' : Ta} (e : (#[.int .i64 t.n0, .int .i64 t.n1] : Array Value).setIfInBounds o v = #[.int .i64 t'.n0, .int .i64 t'.n1]) (e0 : t'.c = t.c) (e1 : t'.red = t.red) : DRow (w.setCell ⟨g, o, none⟩ v) b g S t' ∧ KeptOff S w (w.setCell ⟨g, o, none⟩ v) := by
  have hk := KeptOff.set w ⟨g, o, none⟩ v
  refine ⟨⟨?_, ?_, h.ne, h.own, h.owng, fun k e => Nat.lt_of_lt_of_le (h.lt k e) hk.size⟩, hk.mono (fun k _ e => by rw [e]; exact h.owng)⟩
  · rw [e0, e1]
    exact (hk.block b (h.lt b h.own) (fun e => h.ne e.symm)).trans h.row
  · have := Go.heap_setCell_same w g o _ _ v h.net
    rw [e] at this
    exact this
theorem rcNew_any (w : World) : Calls Try.prog 11 #[] w fun e w' => ∃ b S, e = .returned (.pointer (some ⟨b, 0, none⟩)) ∧ Hid (DTaAt w' b S Ta.new ∧ (∀ k, S k → w.heap.size ≤ k) ∧ Below w.heap.size w w') := by
  have hb1 : Below w.heap.size w (w.alloc (.cells #[.int .i64 0, .int .i64 0] 3)) := (Below.refl _ w).alloc (Nat.le_refl _) _
  have hb2 : Below w.heap.size w ((w.alloc (.cells #[.int .i64 0, .int .i64 0] 3)).alloc (.cells #[.int .i64 0, .slice (some ⟨w.heap.size, 0, none⟩) 2 2, .int .i64 4611686018427387904] 52)) := hb1.alloc hb1.size _
  have hf : Hid (DTaAt ((w.alloc (.cells #[.int .i64 0, .int .i64 0] 3)).alloc (.cells #[.int .i64 0, .slice (some ⟨w.heap.size, 0, none⟩) 2 2, .int .i64 4611686018427387904] 52)) (w.heap.size + 1) (fun k => k = w.heap.size ∨ k = w.heap.size + 1) Ta.new ∧ (∀ k, (k = w.heap.size ∨ k = w.heap.size + 1) → w.heap.size ≤ k) ∧ Below w.heap.size w ((w.alloc (.cells #[.int .i64 0, .int .i64 0] 3)).alloc (.cells #[.int .i64 0, .slice (some ⟨w.heap.size, 0, none⟩) 2 2, .int .i64 4611686018427387904] 52))) := by
    refine ⟨⟨w.heap.size, ?_, ?_, by omega, .inr rfl, .inl rfl, fun k e => by simp; omega⟩, fun k e => by omega, hb2⟩
    · have := heap_alloc_new (w.alloc (.cells #[.int .i64 0, .int .i64 0] 3)) (.cells #[.int .i64 0, .slice (some ⟨w.heap.size, 0, none⟩) 2 2, .int .i64 4611686018427387904] 52)
      rw [show (w.alloc (.cells #[.int .i64 0, .int .i64 0] 3)).heap.size = w.heap.size + 1 by simp] at this
      exact this
    · have := heap_alloc_new w (.cells #[.int .i64 0, .int .i64 0] 3)
      exact (((Below.refl _ (w.alloc (.cells #[.int .i64 0, .int .i64 0] 3))).alloc (Nat.le_refl _) (.cells #[.int .i64 0, .slice (some ⟨w.heap.size, 0, none⟩) 2 2, .int .i64 4611686018427387904] 52)).block w.heap.size (by simp)).trans this
  clear hb1 hb2
  go_enter Try.func11, Try.ntmps11
  go_wp2
  go_ret
  exact ⟨_, _, rfl, hf⟩
end
end Go.Proofs.Ytobfjfmaicmkdaa
