
/-
  The document's own World of a process of a model that may be.
-/
import Derived.Test.YtofkfajcibdneaaDoorNG
import Derived.Test.YtofkfajcibdneaaDoorGZ
import Derived.Deep.MidRow
namespace Go.Proofs.YtofkfajcibdneaaDoor
open Go.ChangeShapes Go.WideShapes Go.ChangeAt Go.Shelf Go.RowKit Go.Lib Go.Sort Go.Deep
set_option linter.unusedVariables false
set_option linter.unusedSimpArgs false
set_option maxRecDepth 4000

theorem frozen_of_cells13 {w : World} {b o : Nat} {cs : Array Value} {t : TypeId} (h : w.heap[b]? = some (.cells cs t (0, 0))) : w.frozen? ⟨b, o, none⟩ = false := by simp [World.frozen?, h]
def lkC (l : Lk) : List Value := [.int .i64 l.src, .int .i64 l.dst, .int .i64 l.look, .bool l.loose]
/-- The links at these places, as cells. -/
def lksC (ls : List Lk) : List Nat → List Value
  | [] => []
  | j :: is => lkC (ls.getD j default) ++ lksC ls is
theorem lksC_snoc (ls : List Lk) (j : Nat) : ∀ is, lksC ls (is ++ [j]) = lksC ls is ++ lkC (ls.getD j default)
  | [] => by simp [lksC]
  | k :: is => by rw [List.cons_append, lksC, lksC_snoc ls j is, lksC, List.append_assoc]
theorem lkC_one (l : Lk) : ∀ u ∈ lkC l, u.oneCell' = true := by
  intro u hu
  simp only [lkC, List.mem_cons, List.not_mem_nil, or_false] at hu
  rcases hu with rfl | rfl | rfl | rfl <;> rfl
theorem infoLk13 : (Tryd.prog.info? 43).map (fun i => (i.zero, i.size, i.bytes)) = some (some (.agg #[.int .i64 0, .int .i64 0, .int .i64 0, .bool false]), 4, 32) := by kernel_rfl
theorem infoLkS : (Tryd.prog.info? 43).map (·.size) = some 4 := by kernel_rfl
theorem lit_lk (l : Lk) (w : World) : (Instr.buildSlice 23 1 #[(0, .agg (lkC l).toArray)]).run Tryd.prog w = .ok (.slice (some ⟨w.heap.size, 0, none⟩) 1 1) (w.alloc (.cells (lkC l).toArray 43)) := by kernel_rfl
theorem LkAt.range {w : World} {b o : Nat} {l : Lk} (h : LkAt w b o l) : w.rangeAt b o (lkC l) := by
  obtain ⟨hlt, h0, h1, h2, h3⟩ := h
  intro j u hj
  match j, hj with
  | 0, hj => simp [lkC] at hj; subst hj; exact h0
  | 1, hj => simp [lkC] at hj; subst hj; exact h1
  | 2, hj => simp [lkC] at hj; subst hj; exact h2
  | 3, hj => simp [lkC] at hj; subst hj; exact h3
  | j + 4, hj => simp [lkC] at hj
/-- What stands between two rounds of World. -/
structure WoI (w : World) (B X R : Nat) (v : Mv) (M : Md) (k : Nat) (pv av : Value) (L : List Nat) (i : Nat) (lu : Value) (wr : World) : Prop where
  b : Below w.heap.size w wr
  hp : wr.heap[B]? = some (.cells (v.cells M) 27 (0, 0))
  md : Mds w v M
  wo : wr.heap[X]? = some (.cells (woC pv k lu M.seed) 35 (0, 0))
  rz : wr.heap[R]? = some (.cells woZ 35 (0, 0))
  ways : RowAt wr 3 1 av L.length (nats L)
  row : RowAt wr 43 4 lu i (lksC M.links (L.take i))
  bX : w.heap.size ≤ X
  bR : w.heap.size ≤ R
  nX : X ≠ B ∧ X ≠ R
  ownA : ∀ j, av.ownBlock = some j → j ≠ X
  own : ∀ j, lu.ownBlock = some j → w.heap.size ≤ j ∧ j ≠ B ∧ j ≠ X ∧ j ≠ R ∧ av.ownBlock ≠ some j
section
variable {w wr w' : World} {B X R : Nat} {v : Mv} {M : Md} {k i : Nat} {pv av lu : Value} {L : List Nat}
theorem WoI.box (h : WoI w B X R v M k pv av L i lu wr) : MdBox wr B v M := ⟨h.hp, h.md.below h.b⟩
theorem WoI.xlt (h : WoI w B X R v M k pv av L i lu wr) : X < wr.heap.size := (Array.getElem?_eq_some_iff.1 h.wo).1
theorem WoI.rlt (h : WoI w B X R v M k pv av L i lu wr) : R < wr.heap.size := (Array.getElem?_eq_some_iff.1 h.rz).1
theorem WoI.below (h : WoI w B X R v M k pv av L i lu wr) (hb : Below wr.heap.size wr w') : WoI w B X R v M k pv av L i lu w' :=
  ⟨h.b.trans (hb.mono h.b.size), (h.box.below hb).1, h.md, (hb.block X h.xlt).trans h.wo, (hb.block R h.rlt).trans h.rz, h.ways.kept (S := fun _ => False) (.of_below hb) (fun _ _ e => e), h.row.kept (S := fun _ => False) (.of_below hb) (fun _ _ e => e), h.bX, h.bR, h.nX, h.ownA, h.own⟩
/-- What an append to the links keeps. -/
theorem WoI.keep (h : WoI w B X R v M k pv av L i lu wr) (hk : KeptOff (fun j => lu.ownBlock = some j) wr w') :
    (Below w.heap.size w w' ∧ w'.heap[B]? = some (.cells (v.cells M) 27 (0, 0))) ∧ (w'.heap[X]? = some (.cells (woC pv k lu M.seed) 35 (0, 0)) ∧ w'.heap[R]? = some (.cells woZ 35 (0, 0))) ∧ RowAt w' 3 1 av L.length (nats L) :=
  ⟨⟨h.b.trans (hk.below (fun j _ e => (h.own j e).1) h.b.size), (hk.block B h.box.lt (fun e => (h.own B e).2.1 rfl)).trans h.hp⟩, ⟨(hk.block X h.xlt (fun e => (h.own X e).2.2.1 rfl)).trans h.wo, (hk.block R h.rlt (fun e => (h.own R e).2.2.2.1 rfl)).trans h.rz⟩, h.ways.kept hk (fun j e e2 => (h.own j e2).2.2.2.2 e)⟩
theorem WoI.more (h : WoI w B X R v M k pv av L i lu wr) (hi : i < L.length) {g off cap : Nat} (h1 : RowIn w' 43 4 g off (i + 1) cap (lksC M.links (L.take i) ++ lkC (M.links.getD (L.getD i 0) default))) (h2 : KeptOff (fun j => lu.ownBlock = some j) wr w') (h3 : lu.ownBlock = some g ∨ wr.heap.size ≤ g) :
    WoI w B X R v M k pv av L (i + 1) (.slice (some ⟨g, off, none⟩) (i + 1) cap) (w'.setCell ⟨X, 2, none⟩ (.slice (some ⟨g, off, none⟩) (i + 1) cap)) := by
  obtain ⟨⟨a1, a2⟩, ⟨a3, a4⟩, a5⟩ := h.keep h2
  have hks := KeptOff.set w' ⟨X, 2, none⟩ (.slice (some ⟨g, off, none⟩) (i + 1) cap)
  have hw := Go.heap_setCell_same w' X 2 _ _ (.slice (some ⟨g, off, none⟩) (i + 1) cap) a3
  have hgX : w.heap.size ≤ g ∧ g ≠ B ∧ g ≠ X ∧ g ≠ R ∧ av.ownBlock ≠ some g := by
    rcases h3 with h3 | h3
    · exact h.own g h3
    · exact ⟨Nat.le_trans h.b.size h3, fun e => by have := h.box.lt; omega, fun e => by have := h.xlt; omega, fun e => by have := h.rlt; omega, fun e => by have := h.ways.lt g e; omega⟩
  refine ⟨a1.trans (hks.below (fun j _ e => by rw [show j = X from e]; exact h.bX) a1.size), (hks.block B (Array.getElem?_eq_some_iff.1 a2).1 (fun e => h.nX.1 e.symm)).trans a2, h.md, hw, (hks.block R (Array.getElem?_eq_some_iff.1 a4).1 (fun e => h.nX.2 e.symm)).trans a4, a5.kept hks (fun j e e2 => h.ownA j e e2), ?_, h.bX, h.bR, h.nX, h.ownA, fun j e => ?_⟩
  · have hL : L.take (i + 1) = L.take i ++ [L.getD i 0] := by rw [List.take_succ_eq_append_getElem hi, List.getD_eq_getElem?_getD, List.getElem?_eq_getElem hi]; rfl
    rw [hL, lksC_snoc]
    exact .inr ⟨g, off, cap, rfl, h1.kept hks (fun e => hgX.2.2.1 e)⟩
  · simp [Value.ownBlock] at e
    subst e
    exact hgX
/-- The cells that a round reads. -/
def WoS (X B ag ao i j lb lo ll lc : Nat) (lu : Value) (l : Lk) (W : World) : Prop := (W.cell? ⟨X, 2, none⟩ = some lu ∧ W.cell? ⟨B, 1, none⟩ = some (.slice (some ⟨lb, lo, none⟩) ll lc)) ∧ W.cell? ⟨ag, ao + i, none⟩ = some (.int .i64 (j : Nat)) ∧ W.rangeAt lb (lo + j * 4) (lkC l)
theorem WoI.look (h : WoI w B X R v M k pv av L i lu wr) (hi : i < L.length) (hL : ∀ j ∈ L, j < v.ll) : ∃ (ag ao ac j lb lo : Nat) (l : Lk), av = .slice (some ⟨ag, ao, none⟩) L.length ac ∧ L.length ≤ ac ∧ j < v.ll ∧ v.la = some ⟨lb, lo, none⟩ ∧ Hid (∀ W, Below wr.heap.size wr W → WoS X B ag ao i j lb lo v.ll v.lc lu l W ∧ RowAt W 43 4 lu i (lksC M.links (L.take i)) ∧
    ∀ w4, KeptOff (fun j => lu.ownBlock = some j) W w4 → WoS X B ag ao i j lb lo v.ll v.lc lu l w4 ∧ w4.frozen? ⟨X, 2, none⟩ = false ∧ ∀ g off cap, RowIn w4 43 4 g off (i + 1) cap (lksC M.links (L.take i) ++ lkC l) → (lu.ownBlock = some g ∨ W.heap.size ≤ g) →
      WoI w B X R v M k pv av L (i + 1) (.slice (some ⟨g, off, none⟩) (i + 1) cap) (w4.setCell ⟨X, 2, none⟩ (.slice (some ⟨g, off, none⟩) (i + 1) cap))) := by
  obtain ⟨ag, ao, ac, hv, hR⟩ := h.ways.form (by omega)
  have hj : L.getD i 0 < v.ll := hL _ (by rw [List.getD_eq_getElem?_getD, List.getElem?_eq_getElem hi]; exact List.getElem_mem hi)
  obtain ⟨lb, lo, hla, hlk⟩ := h.md.2.1.get hj
  have hsee : ∀ w5, Below w.heap.size w w5 → w5.heap[B]? = some (.cells (v.cells M) 27 (0, 0)) → w5.heap[X]? = some (.cells (woC pv k lu M.seed) 35 (0, 0)) → RowAt w5 3 1 av L.length (nats L) → WoS X B ag ao i (L.getD i 0) lb lo v.ll v.lc lu (M.links.getD (L.getD i 0) default) w5 := by
    intro w5 q1 q2 q3 q4
    obtain ⟨g', o', c', e1, e2⟩ := q4.form (by omega)
    rw [hv] at e1
    simp only [Value.slice.injEq, Option.some.injEq, Addr.mk.injEq, and_true, true_and] at e1
    obtain ⟨⟨rfl, rfl⟩, rfl⟩ := e1
    refine ⟨⟨cell_of_block q3 rfl, ?_⟩, e2.cell (nats_get hi), (hlk.below q1).range⟩
    rw [← hla]
    exact cell_of_block q2 rfl
  refine ⟨ag, ao, ac, L.getD i 0, lb, lo, M.links.getD (L.getD i 0) default, hv, hR.bounds.1, hj, hla, Lib.hid fun W hb => ?_⟩
  have h4 := h.below hb
  refine ⟨hsee W h4.b h4.hp h4.wo h4.ways, h4.row, fun w4 hk => ?_⟩
  obtain ⟨⟨a1, a2⟩, ⟨a3, a4⟩, a5⟩ := h4.keep hk
  exact ⟨hsee w4 a1 a2 a3 a5, frozen_of_cells13 a3, fun g off cap r1 r2 => h4.more hi r1 hk r2⟩
end
end Go.Proofs.YtofkfajcibdneaaDoor
