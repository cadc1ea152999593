/-
  The document's own way: Take.
-/
import Derived.Test.YtjbammgnkegecaaKU
namespace Go.Proofs.Ytjbammgnkegecaa
open Go.ChangeShapes Go.WideShapes Go.ChangeAt Go.Shelf Go.RowKit Go.Lib Go.Sort Go.Deep
set_option linter.unusedVariables false
set_option maxRecDepth 4000
set_option linter.unusedSimpArgs false

theorem wpP {ops : Array Oper} {rest : List Oper} {o : Oper} {t : Act} {w : World} {Q : Exit → Act → World → Prop} (hgd : o.guard = none) (s x : Operand)
    (ho : o.op = .call { callee := .builtin .append, args := #[s, x], argTypes := #[48, 48] }) (base : Nat) (v : Value) (n : Nat) (xs : List Value) (hs : t.eval s = v) (hown : w.ownsRow base 37 8 v n xs)
    (ad : Addr) (k c : Nat) (ms : List Pc) (hx : t.eval x = .slice (some ad) k c) (hl : ms.length = k) (hc : ∀ j u, (flatP ms)[j]? = some u → w.cell? (ad.add j) = some u) (hbytes : (n + k) * 64 ≤ 140737488355328) (hbase : base ≤ w.heap.size)
    (h : ∀ v' w', Hid (w'.ownsRow base 37 8 v' (n + k) (xs ++ flatP ms)) → Hid (w.grownBy w' v.ownBlock) → wpList Try.prog ops Q rest (t.put o.dst v') w') : wpList Try.prog ops Q (o :: rest) t w := by
  obtain ⟨i0, hi, hz0, hz1, hz2⟩ := info_parts infoP
  exact wpList_append_own w hgd s x 48 ho base 37 i0 _ 8 64 Try.underlying48 hi hz0 hz1 hz2 rfl (by omega) v n xs hs hown ad k c (flatP ms) hx (by rw [flatP_length, hl]) hc (flatP_one ms) (by unfold maxLen; omega) hbytes hbase
    fun v' w' h1 h2 _ => h v' w' h1 h2
theorem takeP_cells {w : World} {g off cap : Nat} {L : List Pc} (h : RowP w g off cap L) (k : Nat) (hk : k ≤ L.length) (j : Nat) (u : Value) (hj : (flatP (L.take k))[j]? = some u) : w.cell? ((⟨g, off, none⟩ : Addr).add j) = some u := by
  rw [flatP_take] at hj
  have hj8 : j < k * 8 := by have := (List.getElem?_eq_some_iff.1 hj).1; rw [List.length_take] at this; omega
  rw [List.getElem?_take_of_lt hj8] at hj
  have := RowIn.cellA h 0 (j := j) (u := u) (by rwa [Nat.zero_add])
  simpa using this
theorem dropP_cells {w : World} {g off cap : Nat} {L : List Pc} (h : RowP w g off cap L) (k : Nat) (j : Nat) (u : Value) (hj : (flatP (L.drop k))[j]? = some u) : w.cell? ((⟨g, off + k * 8, none⟩ : Addr).add j) = some u := by
  rw [flatP_drop, List.getElem?_drop] at hj
  exact RowIn.cellA h _ hj
theorem DyOf.rowP {w : World} {hb : Nat} {S : Nat → Prop} {y : Wy} {lk : Int} {g off n cap : Nat} {L : List Pc} (h : DyOf w hb S y lk (.slice (some ⟨g, off, none⟩) n cap) L) : RowP w g off cap L := by
  rcases h.list with ⟨e, _⟩ | ⟨g', off', cap', e, hr⟩
  · cases e
  · cases e
    exact hr
/-- What a Take leaves of the document's way. -/
def RTook (w : World) (hb : Nat) (S : Nat → Prop) (y : Wy) (L' : List Pc) (w' : World) : Prop := ∃ S', DyAt w' hb S' y L' ∧ CStep w w' S S'
section
variable {w : World} {hb : Nat} {S : Nat → Prop} {y : Wy} {lk : Int} {v : Value} {L : List Pc}
/-- The new row in the way. -/
theorem DyOf.less {w5 w7 : World} {base k : Nat} {v2 : Value} (h : DyOf w5 hb S y lk v L) (hb7 : Below w5.heap.size w5 w7) (ho : w7.ownsRow base 37 8 v2 (L.length - 1) (flatP (L.take k) ++ flatP (L.drop (k + 1)))) (hk : k < L.length) (hbase : w5.heap.size ≤ base) :
    ∃ a c, v2 = .slice a (L.length - 1) c ∧ w7.cell? ⟨hb, 5, none⟩ = some v ∧ w7.frozen? ⟨hb, 5, none⟩ = false ∧ ∀ X : World → Prop, (∃ S', DyAt (w7.setCell ⟨hb, 5, none⟩ v2) hb S' y (L.eraseIdx k) ∧ CStep w5 (w7.setCell ⟨hb, 5, none⟩ v2) S S' ∧ ∀ x, S' x → S x ∨ w5.heap.size ≤ x ∧ v2.ownBlock = some x) := by
  have hrow := (hb7.block hb (h.lt hb h.own)).trans h.row
  have hra := RowAt.of_own ho
  have hks := KeptOff.set w7 ⟨hb, 5, none⟩ v2
  have hkk : KeptOff S w5 (w7.setCell ⟨hb, 5, none⟩ v2) := (KeptOff.of_below hb7).trans (hks.mono (fun x _ e => by rw [e]; exact h.own))
  have hel : (L.eraseIdx k).length = L.length - 1 := List.length_eraseIdx_of_lt hk
  have hnew : ∀ x, v2.ownBlock = some x → w5.heap.size ≤ x := fun x e => Nat.le_trans hbase ((ho.lt x e).1)
  have hne : ∀ x, v2.ownBlock = some x → x ≠ hb := fun x e e2 => by have := hnew x e; have := h.lt hb h.own; omega
  obtain ⟨a, c, hv2, -⟩ := RowAt.shape hra
  refine ⟨a, c, hv2, cell_of_block hrow rfl, frozen_of_cells hrow, fun _ => ⟨fun x => S x ∨ (w5.heap.size ≤ x ∧ v2.ownBlock = some x), ⟨lk, v2, ⟨?_, ?_, h.ok, .inl h.own, fun x e => .inr ⟨hnew x e, e⟩, fun x e => ?_⟩⟩, ⟨hkk, fun x e => e.imp id (fun e => e.1)⟩, fun x e => e⟩⟩
  · unfold DyRow
    simp [World.setCell, Array.getElem?_modify, hrow]
  · unfold AtP
    rw [hel, flatP_erase]
    exact RowAt.kept hra hks hne
  · rcases e with e | e
    · exact Nat.lt_of_lt_of_le (h.lt x e) hkk.size
    · exact Nat.lt_of_lt_of_le (RowAt.lt hra x e.2) hks.size
set_option maxHeartbeats 1000000 in
theorem rlTake_none (h : DyOf w hb S y lk v []) (n : Int) : Calls Try.prog 16 #[.pointer (some ⟨hb, 0, none⟩), .int .i64 n] w fun e w' => e = .returned (.tuple #[zeroP.val, .int .i64 6]) ∧ Below w.heap.size w w' := by
  have hbx : Hid (BoxP (w.alloc (.cells zeroP.cells 37)) w.heap.size zeroP) := BoxP.mk w zeroP
  have hb0 : Hid (Below w.heap.size w (w.alloc (.cells zeroP.cells 37))) := (Below.refl _ w).alloc (Nat.le_refl _) _
  have hpk := Lib.hid (rlPeek_none (h.below hb0.out) n)
  rw [zeroP_val] at hpk
  have hfin : Hid (∀ w1, Below (w.alloc (.cells zeroP.cells 37)).heap.size (w.alloc (.cells zeroP.cells 37)) w1 → BoxP (w1.alloc (.cells zeroP.cells 37)) w.heap.size zeroP ∧ Below w.heap.size w ((w1.alloc (.cells zeroP.cells 37)).setRow w.heap.size zeroP.cells)) := by
    intro w1 h1
    have h2 := h1.alloc h1.size (.cells zeroP.cells 37)
    refine ⟨hbx.out.below h2, ((KeptOff.of_below (S := fun k => False) (hb0.out.trans (h2.mono hb0.out.size))).then_new (KeptOff.setRow _ _ _) (fun k hk e => by omega)).below (fun _ _ e => e.elim) (Nat.le_refl _)⟩
  clear h
  go_enter Try.func16, Try.ntmps16
  go_upto_region 1 with (fail)
  rw [show w.alloc (.cells #[.int .i64 0, .int .i64 0, .int .i64 0, .int .i64 0, .int .i64 0, .int .i64 0, .bool false, .int .i64 0] 37) = w.alloc (.cells zeroP.cells 37) from rfl]
  generalize w.alloc (.cells zeroP.cells 37) = W0 at *
  go_upto_region 3 with (go_at_call 14; refine hpk.out.mono ?_; rintro e w1 ⟨rfl, h1⟩; have hF := Lib.hid (hfin.out w1 h1); clear h1)
  rw [show w1.alloc (.cells #[.int .i64 0, .int .i64 0, .int .i64 0, .int .i64 0, .int .i64 0, .int .i64 0, .bool false, .int .i64 0] 37) = w1.alloc (.cells zeroP.cells 37) from rfl]
  generalize w1.alloc (.cells zeroP.cells 37) = W2 at *
  go_wp2_with (refine wpList_store_row rfl 37 (.tmp 4) (.tmp 18) rfl w.heap.size zeroP.cells rfl rfl 37 zeroP.cells hF.out.1 infoPs rfl (Pc.cells_one zeroP) ?_)
  obtain ⟨s0, s1, s2, s3, s4, s5, s6, s7⟩ := (hF.out.1.row zeroP).at
  simp only [Nat.zero_add] at s0 s1 s2 s3 s4 s5 s6 s7
  exact bodyPost_ret (v := .tuple #[zeroP.val, .int .i64 6]) (by simp [results, Try.results16, go_sem, s0, s1, s2, s3, s4, s5, s6, s7, Pc.val]) rfl ⟨rfl, hF.out.2⟩
end
end Go.Proofs.Ytjbammgnkegecaa
