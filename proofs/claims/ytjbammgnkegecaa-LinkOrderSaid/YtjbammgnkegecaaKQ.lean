/-
  What is taken off a way, one by one: each once; in order, if the link is not loose.
-/
import Derived.Test.YtjbammgnkegecaaKP
namespace Go.Proofs.Ytjbammgnkegecaa
open Go.ChangeShapes Go.WideShapes Go.ChangeAt Go.Shelf Go.RowKit Go.Lib Go.Sort Go.Deep
set_option linter.unusedVariables false
set_option maxRecDepth 4000

/-- The colour of a parcel of the number i. -/
def c2 (i : Nat) : Int := ((i % 2 : Nat) : Int)
/-- A row of words. -/
def Seen (w : World) (sb N : Nat) (f : Nat → Bool) : Prop := ∃ cs, w.heap[sb]? = some (.cells cs 4 (0, 0)) ∧ ∀ u, u < N → cs[u]? = some (.bool (f u))
theorem Seen.kept {X : Nat → Prop} {w w' : World} {sb N : Nat} {f : Nat → Bool} (h : Seen w sb N f) (hk : KeptOff X w w') (hn : ¬ X sb) : Seen w' sb N f := by
  obtain ⟨cs, h1, h2⟩ := h
  exact ⟨cs, (hk.block sb (Array.getElem?_eq_some_iff.1 h1).1 hn).trans h1, h2⟩
theorem Seen.lt {w : World} {sb N : Nat} {f : Nat → Bool} (h : Seen w sb N f) : sb < w.heap.size := by obtain ⟨cs, h1, h2⟩ := h; exact (Array.getElem?_eq_some_iff.1 h1).1
theorem Seen.cell {w : World} {sb N : Nat} {f : Nat → Bool} (h : Seen w sb N f) {u : Nat} (hu : u < N) : w.cell? ⟨sb, u, none⟩ = some (.bool (f u)) := by obtain ⟨cs, h1, h2⟩ := h; exact cell_of_block h1 (h2 u hu)
theorem Seen.fz {w : World} {sb N : Nat} {f : Nat → Bool} (h : Seen w sb N f) (o : Nat) : w.frozen? ⟨sb, o, none⟩ = false := by obtain ⟨cs, h1, h2⟩ := h; exact frozen_of_cells h1
theorem Seen.set {w : World} {sb N : Nat} {f g : Nat → Bool} (h : Seen w sb N f) (u : Nat) (hg : ∀ v, v < N → g v = if v = u then true else f v) : Seen (w.setCell ⟨sb, u, none⟩ (.bool true)) sb N g := by
  obtain ⟨cs, h1, h2⟩ := h
  refine ⟨_, Go.heap_setCell_same w sb u cs _ (.bool true) h1, fun v hv => ?_⟩
  rw [Array.getElem?_setIfInBounds, hg v hv]
  by_cases e : v = u
  · subst e
    have := (Array.getElem?_eq_some_iff.1 (h2 v hv)).1
    rw [if_pos rfl, if_pos rfl, if_pos this]
  · rw [if_neg (fun e2 => e e2.symm), if_neg e]
    exact h2 v hv
theorem Fresh.kept {w wr w' : World} {hb : Nat} {S X : Nat → Prop} {y : Wy} {L : List Pc} (h : Fresh w wr hb S y L) (hk : KeptOff X wr w') (hn : ∀ k, S k → ¬ X k) (hX : ∀ k, X k → w.heap.size ≤ k) : Fresh w w' hb S y L :=
  ⟨h.at'.kept hk hn, h.b.trans (hk.below (fun k _ e => hX k e) h.b.size), h.new⟩

/-- What stands between two takes. -/
structure OrdI (w : World) (hb : Nat) (lo : Bool) (N j sb : Nat) (S : Nat → Prop) (U : List Nat) (wr : World) : Prop where
  fr : Fresh w wr hb S ⟨0, 1, 1024, lo⟩ (U.map (bp c2))
  len : U.length + j = N
  nd : U.Nodup
  lt : ∀ u ∈ U, u < N
  ord : lo = false → U = (List.range N).drop j
  seen : Seen wr sb N (fun u => decide (u ∉ U))
  off : ¬ S sb
  base : w.heap.size ≤ sb
/-- Which number comes. -/
def nextU (lo : Bool) (U : List Nat) (z : Int) : Nat := U.getD (placeN lo z U.length) 0
section
variable {w wr w' : World} {hb N j sb : Nat} {lo : Bool} {S : Nat → Prop} {U : List Nat}
theorem OrdI.below (h : OrdI w hb lo N j sb S U wr) (hb' : Below wr.heap.size wr w') : OrdI w hb lo N j sb S U w' :=
  ⟨h.fr.below hb', h.len, h.nd, h.lt, h.ord, h.seen.kept (X := fun _ => False) (.of_below hb') (fun e => e), h.off, h.base⟩
theorem split_at {U : List Nat} {k : Nat} (hk : k < U.length) : ∃ A B, U = A ++ U.getD k 0 :: B ∧ U.eraseIdx k = A ++ B := by
  refine ⟨U.take k, U.drop (k + 1), ?_, List.eraseIdx_eq_take_drop_succ U k⟩
  have e : U.getD k 0 = U[k] := by simp [List.getD_eq_getElem?_getD, hk]
  rw [e]
  simp
theorem OrdI.next (h : OrdI w hb lo N j sb S U wr) (hj : j < N) (z : Int) : nextU lo U z ∈ U ∧ nextU lo U z < N ∧ (lo = false → nextU lo U z = j) := by
  have hl := h.len
  have hk := placeN_lt lo z (k := U.length) (by omega)
  have hm : nextU lo U z ∈ U := by
    unfold nextU
    rw [List.getD_eq_getElem?_getD, List.getElem?_eq_getElem hk]
    exact List.getElem_mem hk
  refine ⟨hm, h.lt _ hm, fun e => ?_⟩
  have hU := h.ord e
  subst e
  unfold nextU placeN
  rw [if_neg (by simp), hU, List.getD_eq_getElem?_getD, List.getElem?_drop]
  simp [hj]
theorem map_get {U : List Nat} {k : Nat} (hk : k < U.length) : (U.map (bp c2)).getD k default = bp c2 (U.getD k 0) := by simp [List.getD_eq_getElem?_getD, hk]
theorem OrdI.peek (h : OrdI w hb lo N j sb S U wr) (hj : j < N) (hN : N < 1000) (z : Int) : Calls Try.prog 13 #[.pointer (some ⟨hb, 0, none⟩), .int .i64 z] wr fun e w' => e = .returned (.tuple #[(bp c2 (nextU lo U z)).val, .int .i64 0]) ∧ Hid (OrdI w hb lo N j sb S U w' ∧ Below wr.heap.size wr w') := by
  have hl := h.len
  have hne : U.map (bp c2) ≠ [] := fun e => by have := congrArg List.length e; simp at this; subst this; simp at hl; omega
  refine (peek_any h.fr.at' z (by rw [List.length_map]; omega)).mono ?_
  rintro e w' ⟨he, h2⟩
  refine ⟨?_, h.below h2, h2⟩
  rw [he]
  unfold peekP peekC
  rw [if_neg hne, if_neg hne, List.length_map, map_get (placeN_lt _ _ (by omega))]
  rfl
/-- Behind a take, ahead of the word. -/
structure OrdT (w : World) (hb : Nat) (lo : Bool) (N j sb : Nat) (S : Nat → Prop) (U : List Nat) (k : Nat) (wr : World) : Prop where
  fr : Fresh w wr hb S ⟨0, 1, 1024, lo⟩ ((U.eraseIdx k).map (bp c2))
  len : U.length + j = N
  nd : U.Nodup
  lt : ∀ u ∈ U, u < N
  ord : lo = false → U = (List.range N).drop j
  seen : Seen wr sb N (fun u => decide (u ∉ U))
  off : ¬ S sb
  base : w.heap.size ≤ sb
theorem OrdT.below {k : Nat} (h : OrdT w hb lo N j sb S U k wr) (hb' : Below wr.heap.size wr w') : OrdT w hb lo N j sb S U k w' :=
  ⟨h.fr.below hb', h.len, h.nd, h.lt, h.ord, h.seen.kept (X := fun _ => False) (.of_below hb') (fun e => e), h.off, h.base⟩
theorem OrdI.take (h : OrdI w hb lo N j sb S U wr) (hj : j < N) (hN : N < 1000) (z : Int) : Calls Try.prog 15 #[.pointer (some ⟨hb, 0, none⟩), .int .i64 z] wr fun e w' => e = .returned (.tuple #[(bp c2 (nextU lo U z)).val, .int .i64 0]) ∧ Hid (OrdT w hb lo N j sb S U (placeN lo z U.length) w' ∧ KeptOff S wr w') := by
  have hl := h.len
  have hne : U.map (bp c2) ≠ [] := fun e => by have := congrArg List.length e; simp at this; subst this; simp at hl; omega
  refine (h.fr.take z (by rw [List.length_map]; omega)).mono ?_
  rintro e w' ⟨he, h2⟩
  have h3 := h2.out.1
  unfold takeL at h3
  rw [List.length_map, show ∀ k, (U.map (bp c2)).eraseIdx k = (U.eraseIdx k).map (bp c2) from fun k => by simp [List.eraseIdx_eq_take_drop_succ, List.map_take, List.map_drop]] at h3
  refine ⟨?_, ⟨h3, h.len, h.nd, h.lt, h.ord, h.seen.kept h2.out.2 h.off, h.off, h.base⟩, h2.out.2⟩
  rw [he]
  unfold peekP peekC
  rw [if_neg hne, if_neg hne, List.length_map, map_get (placeN_lt _ _ (by omega))]
  rfl
theorem OrdT.step {z : Int} (h : OrdT w hb lo N j sb S U (placeN lo z U.length) wr) (hj : j < N) : OrdI w hb lo N (j + 1) sb S (U.eraseIdx (placeN lo z U.length)) (wr.setCell ⟨sb, nextU lo U z, none⟩ (.bool true)) := by
  have hl := h.len
  have hk := placeN_lt lo z (k := U.length) (by omega)
  have hks := KeptOff.set wr ⟨sb, nextU lo U z, none⟩ (.bool true)
  have hsub : (U.eraseIdx (placeN lo z U.length)).Sublist U := List.eraseIdx_sublist U _
  refine ⟨h.fr.kept hks (fun k e e2 => h.off (by rw [show k = sb from e2] at e; exact e)) (fun k e => by rw [e]; exact h.base), ?_, h.nd.sublist hsub, fun u hu => h.lt u (hsub.subset hu), fun e => ?_, h.seen.set _ (fun v hv => ?_), h.off, h.base⟩
  · rw [List.length_eraseIdx_of_lt hk]; omega
  · have hU := h.ord e
    subst e
    have hp0 : placeN false z U.length = 0 := rfl
    rw [hp0]
    cases hUU : U with
    | nil => rw [hUU] at hl; simp at hl; omega
    | cons a B =>
      rw [hUU] at hU
      rw [List.eraseIdx_cons_zero, ← List.drop_drop, ← hU]
      rfl
  · obtain ⟨A, B, h1, h2⟩ := split_at hk
    have hnd := h.nd
    have e : nextU lo U z = U.getD (placeN lo z U.length) 0 := rfl
    rw [e, h2]
    generalize U.getD (placeN lo z U.length) 0 = u at *
    rw [h1] at hnd ⊢
    rw [List.nodup_append] at hnd
    by_cases hv : v = u
    · rw [if_pos hv]
      subst hv
      obtain ⟨hA, hB, hd⟩ := hnd
      have h3 : v ∉ A := fun hh => hd v hh v (by simp) rfl
      have h4 : v ∉ B := (List.nodup_cons.1 hB).1
      simp [h3, h4]
    · rw [if_neg hv]
      simp [hv]
end
/-- Nothing is left. -/
theorem OrdI.end_take {w wr : World} {hb N sb : Nat} {lo : Bool} {S : Nat → Prop} {U : List Nat} (h : OrdI w hb lo N N sb S U wr) : Calls Try.prog 15 #[.pointer (some ⟨hb, 0, none⟩), .int .i64 0] wr fun e w' => e = .returned (.tuple #[zeroP.val, .int .i64 6]) ∧ Hid (∀ W, Below w'.heap.size w' W → (Calls Try.prog 21 #[.pointer (some ⟨hb, 0, none⟩)] W fun e w'' => e = .returned (.int .i64 0) ∧ W = w'') ∧ Below w.heap.size w W) := by
  have hl := h.len
  have hU : U = [] := List.eq_nil_of_length_eq_zero (by omega)
  subst hU
  refine (h.fr.take 0 (by simp)).mono ?_
  rintro e w' ⟨he, h2⟩
  refine ⟨he, fun W hW => ?_⟩
  have h3 := h2.out.1.below hW
  exact ⟨lkLen_any h3.at', h3.b⟩
end Go.Proofs.Ytjbammgnkegecaa
