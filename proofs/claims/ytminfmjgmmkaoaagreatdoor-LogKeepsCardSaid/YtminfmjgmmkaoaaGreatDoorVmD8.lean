/-
  The contract of the document's own Run.
-/
import Derived.Test.YtminfmjgmmkaoaaGreatDoorVmF
import Derived.BigRegion
import Derived.OneCell
import Derived.StillTailTactics
import Derived.Deep.RegionHeld3
import Derived.IntWalk
namespace Go.Proofs.YtminfmjgmmkaoaaGreatDoor
open Go.ChangeShapes Go.WideShapes Go.ChangeAt Go.RowKit Go.Sort
set_option linter.unusedVariables false
set_option maxRecDepth 4000

/-- Where a sending lies. -/
def OtAt (w : World) (b o : Nat) (i : Ot) : Prop :=
  b < w.heap.size ∧ w.cell? ⟨b, o, none⟩ = some (.int .i64 i.link) ∧ w.cell? ⟨b, o + 1, none⟩ = some (.int .i64 i.delay) ∧ w.cell? ⟨b, o + 2, none⟩ = some (.int .i64 i.value)
/-- A slice value reads as the sendings os. -/
def Ots (w : World) (a : Option Addr) (len cap : Nat) (os : List Ot) : Prop :=
  os.length = len ∧ len ≤ cap ∧ cap ≤ maxLen ∧ (len = 0 ∨ ∃ b off, a = some ⟨b, off, none⟩ ∧ ∀ k, k < len → OtAt w b (off + k * 3) (os.getD k default))
theorem OtAt.below {w w' : World} {b o : Nat} {i : Ot} (h : OtAt w b o i) (hb : Below w.heap.size w w') : OtAt w' b o i := by
  obtain ⟨hlt, h0, h1, h2⟩ := h
  have hc : ∀ {c : Nat} {v : Value}, w.cell? ⟨b, c, none⟩ = some v → w'.cell? ⟨b, c, none⟩ = some v := fun h => by rw [hb.cell hlt]; exact h
  exact ⟨Nat.lt_of_lt_of_le hlt hb.size, hc h0, hc h1, hc h2⟩
theorem Ots.below {w w' : World} {a : Option Addr} {len cap : Nat} {is : List Ot} (h : Ots w a len cap is) (hb : Below w.heap.size w w') : Ots w' a len cap is := by
  obtain ⟨h1, h2, h3, h4⟩ := h
  refine ⟨h1, h2, h3, h4.imp id ?_⟩
  rintro ⟨b, off, ha, hm⟩
  exact ⟨b, off, ha, fun i hi => (hm i hi).below hb⟩
theorem flatO_get : ∀ (os : List Ot) (i c : Nat), i < os.length → c < 3 → (flatO os)[i * 3 + c]? = (os.getD i default).cells[c]?
  | [], i, c, h, _ => by simp at h
  | m :: ms, 0, c, _, hc => by
    have : flatO (m :: ms) = flatO [m] ++ flatO ms := flatO_append [m] ms
    rw [this, List.getElem?_append_left (by rw [flatO_one]; simp; omega)]
    simp [flatO, Ot.cells]
  | m :: ms, i + 1, c, h, hc => by
    have ih := flatO_get ms i c (by simpa using h) hc
    have : flatO (m :: ms) = flatO [m] ++ flatO ms := flatO_append [m] ms
    rw [this, List.getElem?_append_right (by rw [flatO_one]; simp; omega), flatO_one]
    have e : (i + 1) * 3 + c - [Value.int .i64 m.link, Value.int .i64 m.delay, Value.int .i64 m.value].length = i * 3 + c := by simp; omega
    rw [e, ih]
    simp
theorem ots_of_own {w : World} {base : Nat} {v : Value} {n : Nat} {os : List Ot} (h : w.ownsRow base 129 3 v n (flatO os)) : ∃ a cap, v = .slice a n cap ∧ Ots w a n cap os := by
  obtain ⟨hl, hv⟩ := h
  rw [flatO_length] at hl
  have hn : os.length = n := by omega
  rcases hv with ⟨rfl, rfl⟩ | ⟨g, cap, cur, rfl, _, hg, hn', hm, hs, ht⟩
  · exact ⟨none, 0, rfl, hn, Nat.le_refl _, by unfold maxLen; omega, .inl rfl⟩
  · refine ⟨some ⟨g, 0, none⟩, cap, rfl, hn, hn', hm, .inr ⟨g, 0, rfl, fun k hk => ?_⟩⟩
    have hc : ∀ c, c < 3 → w.cell? ⟨g, 0 + k * 3 + c, none⟩ = (os.getD k default).cells[c]? := by
      intro c hc
      have h1 : w.cell? ⟨g, 0 + k * 3 + c, none⟩ = cur[k * 3 + c]? := by simp [World.cell?, hg]
      rw [h1]
      have h2 : (cur.toList.take (n * 3))[k * 3 + c]? = cur[k * 3 + c]? := by rw [List.getElem?_take_of_lt (by omega), Array.getElem?_toList]
      rw [← h2, ht]
      exact flatO_get os k c (by omega) hc
    refine ⟨(Array.getElem?_eq_some_iff.1 hg).1, ?_, ?_, ?_⟩
    · exact hc 0 (by omega)
    · exact hc 1 (by omega)
    · exact hc 2 (by omega)
theorem Ots.nil (w : World) : Ots w none 0 0 [] := ⟨rfl, Nat.le_refl _, by unfold maxLen; omega, .inl rfl⟩
theorem infoSt : (Tryz.prog.info? 34).map (·.size) = some 10 := by kernel_rfl
def st10 (r0 r1 r2 r3 r4 r5 r6 r7 d n : Int) : Array Value := #[.int .i64 r0, .int .i64 r1, .int .i64 r2, .int .i64 r3, .int .i64 r4, .int .i64 r5, .int .i64 r6, .int .i64 r7, .int .i64 d, .int .i64 n]
theorem st10_one (r0 r1 r2 r3 r4 r5 r6 r7 d n : Int) : (st10 r0 r1 r2 r3 r4 r5 r6 r7 d n).all (·.oneCell') = true := by simp [st10, Value.oneCell']
theorem setRow_heap {w : World} {g : Nat} {old new : Array Value} {t : TypeId} (h : w.heap[g]? = some (.cells old t (0, 0))) : (w.setRow g new).heap[g]? = some (.cells new t (0, 0)) := by
  simp [World.setRow, Array.getElem?_modify, h]
theorem below_row {B : Nat} {a w : World} (h : Below B a w) {g : Nat} (hg : B ≤ g) (cs : Array Value) : Below B a (w.setRow g cs) := by
  refine h.trans ⟨rfl, rfl, rfl, by simp [World.setRow], fun k hk => ?_⟩
  simp only [World.setRow, Array.getElem?_modify]
  rw [if_neg (by omega)]
/-- The four blocks that Run begins with. -/
structure Four (w w1 : World) (A S M Z : Obj) : Prop where
  a : w1.heap[w.heap.size]? = some A
  s : w1.heap[w.heap.size + 1]? = some S
  m : w1.heap[w.heap.size + 1 + 1]? = some M
  z : w1.heap[w.heap.size + 1 + 1 + 1]? = some Z
  b : Below w.heap.size w w1
  sz : w.heap.size + 4 ≤ w1.heap.size
theorem Four.mk4 (w : World) (A S M Z : Obj) : Four w ((((w.alloc A).alloc S).alloc M).alloc Z) A S M Z := by
  refine ⟨?_, ?_, ?_, ?_, ((((Below.refl _ w).alloc (Nat.le_refl _) A).alloc (by simp) S).alloc (by simp; omega) M).alloc (by simp; omega) Z, by simp⟩
  · rw [Below.heap_alloc _ _ _ (by simp; omega), Below.heap_alloc _ _ _ (by simp; omega), Below.heap_alloc _ _ _ (by simp)]; exact heap_alloc_new w A
  · rw [Below.heap_alloc _ _ _ (by simp), Below.heap_alloc _ _ _ (by simp)]; have := heap_alloc_new (w.alloc A) S; rwa [World.size_alloc] at this
  · rw [Below.heap_alloc _ _ _ (by simp)]; have := heap_alloc_new ((w.alloc A).alloc S) M; rwa [World.size_alloc, World.size_alloc] at this
  · have := heap_alloc_new (((w.alloc A).alloc S).alloc M) Z; rwa [World.size_alloc, World.size_alloc, World.size_alloc] at this
theorem Four.below {w w1 w2 : World} {A S M Z : Obj} (h : Four w w1 A S M Z) (hb : Below (w.heap.size + 4) w1 w2) : Four w w2 A S M Z :=
  ⟨(hb.block _ (by omega)).trans h.a, (hb.block _ (by omega)).trans h.s, (hb.block _ (by omega)).trans h.m, (hb.block _ (by omega)).trans h.z, h.b.trans (hb.mono (by omega)), Nat.le_trans h.sz hb.size⟩
theorem row_cell {w : World} {g : Nat} {C : Array Value} {t : TypeId} (h : w.heap[g]? = some (.cells C t (0, 0))) (j : Nat) {u : Value} (hj : C[j]? = some u) : w.cell? ⟨g, j, none⟩ = some u := by
  simp [World.cell?, h, hj]
/-! Run, refused and run. -/
theorem checkN_mayAll {is : List I} (h : checkN is = 0) (k : Nat) (hk : k < is.length) : mayB (is.getD k default) is.length = true := by
  have hs : ¬ 256 < is.length := fun g => by rw [checkN_long g] at h; omega
  cases hm : mayB (is.getD k default) is.length with
  | true => rfl
  | false => rw [checkN_bad hs k hk hm] at h; omega
theorem checkW_zero {W : Wd} (h : checkW W = 0) : checkN W.prog = 0 ∧ (0 ≤ W.self ∧ W.self < 16) ∧ W.links.length ≤ 1024 := by
  by_cases g : checkN W.prog = 0
  · by_cases g2 : ¬ (0 ≤ W.self ∧ W.self < 16) ∨ 1024 < W.links.length
    · rw [checkW_lane g g2] at h; omega
    · exact ⟨g, by omega, by omega⟩
  · rw [checkW_prog g] at h; exact absurd h g
theorem chkM_time {m : M} (h : chkM m = 0) : 0 ≤ m.k.t ∧ m.k.t ≤ 4611686018427387903 := by
  unfold chkM at h
  split at h
  · rename_i g; exact g.1
  · omega
theorem ots_own {w : World} {base : Nat} {a : Option Addr} {n cap : Nat} {os : List Ot} (h : w.ownsRow base 129 3 (.slice a n cap) n (flatO os)) : Ots w a n cap os := by
  obtain ⟨a', c', he, hO⟩ := ots_of_own h
  cases he
  exact hO
theorem heap_set {w : World} {T j : Nat} {C : Array Value} {t : TypeId} {u : Value} (h : w.heap[T]? = some (.cells C t (0, 0))) : (w.setCell ⟨T, j, none⟩ u).heap[T]? = some (.cells (C.setIfInBounds j u) t (0, 0)) := by
  simp [World.setCell, Array.getElem?_modify, h]
theorem cell_far {w : World} {g j b o : Nat} {u : Value} (h : b ≠ g) : (w.setCell ⟨g, j, none⟩ u).cell? ⟨b, o, none⟩ = w.cell? ⟨b, o, none⟩ :=
  World.cell?_of_block (w := w) (Below.heap_setCell _ _ _ _ (by simpa using h))
theorem far10 {w : World} {g b o : Nat} {v0 v1 v2 v3 v4 v5 v6 v7 v8 v9 : Value} (h : b ≠ g) : ((((((((((w.setCell ⟨g, 0, none⟩ v0).setCell ⟨g, 1, none⟩ v1).setCell ⟨g, 2, none⟩ v2).setCell ⟨g, 3, none⟩ v3).setCell ⟨g, 4, none⟩ v4).setCell ⟨g, 5, none⟩ v5).setCell ⟨g, 6, none⟩ v6).setCell ⟨g, 7, none⟩ v7).setCell ⟨g, 8, none⟩ v8).setCell ⟨g, 9, none⟩ v9).cell? ⟨b, o, none⟩ = w.cell? ⟨b, o, none⟩ :=
  (cell_far h).trans ((cell_far h).trans ((cell_far h).trans ((cell_far h).trans ((cell_far h).trans ((cell_far h).trans ((cell_far h).trans ((cell_far h).trans ((cell_far h).trans (cell_far h)))))))))
theorem heap10 {w : World} {g : Nat} {v0 v1 v2 v3 v4 v5 v6 v7 v8 v9 : Value} (h : w.heap[g]? = some (.cells (st10 0 0 0 0 0 0 0 0 0 0) 34 (0, 0))) : ((((((((((w.setCell ⟨g, 0, none⟩ v0).setCell ⟨g, 1, none⟩ v1).setCell ⟨g, 2, none⟩ v2).setCell ⟨g, 3, none⟩ v3).setCell ⟨g, 4, none⟩ v4).setCell ⟨g, 5, none⟩ v5).setCell ⟨g, 6, none⟩ v6).setCell ⟨g, 7, none⟩ v7).setCell ⟨g, 8, none⟩ v8).setCell ⟨g, 9, none⟩ v9).heap[g]? = some (.cells #[v0, v1, v2, v3, v4, v5, v6, v7, v8, v9] 34 (0, 0)) := by
  have h10 := (heap_set (j := 9) (u := v9) (heap_set (j := 8) (u := v8) (heap_set (j := 7) (u := v7) (heap_set (j := 6) (u := v6) (heap_set (j := 5) (u := v5) (heap_set (j := 4) (u := v4) (heap_set (j := 3) (u := v3) (heap_set (j := 2) (u := v2) (heap_set (j := 1) (u := v1) (heap_set (j := 0) (u := v0) h))))))))))
  have e10 : (((((((((((st10 0 0 0 0 0 0 0 0 0 0).setIfInBounds 0 v0).setIfInBounds 1 v1).setIfInBounds 2 v2).setIfInBounds 3 v3).setIfInBounds 4 v4).setIfInBounds 5 v5).setIfInBounds 6 v6).setIfInBounds 7 v7).setIfInBounds 8 v8).setIfInBounds 9 v9) = #[v0, v1, v2, v3, v4, v5, v6, v7, v8, v9] := by simp [st10]
  rw [e10] at h10
  exact h10
theorem below10 {B : Nat} {a w : World} (hb : Below B a w) {g : Nat} (hg : B ≤ g) {v0 v1 v2 v3 v4 v5 v6 v7 v8 v9 : Value} : Below B a ((((((((((w.setCell ⟨g, 0, none⟩ v0).setCell ⟨g, 1, none⟩ v1).setCell ⟨g, 2, none⟩ v2).setCell ⟨g, 3, none⟩ v3).setCell ⟨g, 4, none⟩ v4).setCell ⟨g, 5, none⟩ v5).setCell ⟨g, 6, none⟩ v6).setCell ⟨g, 7, none⟩ v7).setCell ⟨g, 8, none⟩ v8).setCell ⟨g, 9, none⟩ v9) :=
  ((((((((((hb.setCell (p := ⟨g, 0, none⟩) hg v0).setCell (p := ⟨g, 1, none⟩) hg v1).setCell (p := ⟨g, 2, none⟩) hg v2).setCell (p := ⟨g, 3, none⟩) hg v3).setCell (p := ⟨g, 4, none⟩) hg v4).setCell (p := ⟨g, 5, none⟩) hg v5).setCell (p := ⟨g, 6, none⟩) hg v6).setCell (p := ⟨g, 7, none⟩) hg v7).setCell (p := ⟨g, 8, none⟩) hg v8).setCell (p := ⟨g, 9, none⟩) hg v9)
theorem own10 {w : World} {base : Nat} {e : TypeId} {size : Nat} {v : Value} {n : Nat} {xs : List Value} (h : w.ownsRow base e size v n xs) {g : Nat} (hg : g < base) {v0 v1 v2 v3 v4 v5 v6 v7 v8 v9 : Value} : ((((((((((w.setCell ⟨g, 0, none⟩ v0).setCell ⟨g, 1, none⟩ v1).setCell ⟨g, 2, none⟩ v2).setCell ⟨g, 3, none⟩ v3).setCell ⟨g, 4, none⟩ v4).setCell ⟨g, 5, none⟩ v5).setCell ⟨g, 6, none⟩ v6).setCell ⟨g, 7, none⟩ v7).setCell ⟨g, 8, none⟩ v8).setCell ⟨g, 9, none⟩ v9).ownsRow base e size v n xs :=
  (ownsRow_setCell_below (ownsRow_setCell_below (ownsRow_setCell_below (ownsRow_setCell_below (ownsRow_setCell_below (ownsRow_setCell_below (ownsRow_setCell_below (ownsRow_setCell_below (ownsRow_setCell_below (ownsRow_setCell_below h (a := ⟨g, 0, none⟩) hg v0) (a := ⟨g, 1, none⟩) hg v1) (a := ⟨g, 2, none⟩) hg v2) (a := ⟨g, 3, none⟩) hg v3) (a := ⟨g, 4, none⟩) hg v4) (a := ⟨g, 5, none⟩) hg v5) (a := ⟨g, 6, none⟩) hg v6) (a := ⟨g, 7, none⟩) hg v7) (a := ⟨g, 8, none⟩) hg v8) (a := ⟨g, 9, none⟩) hg v9)
theorem eight {r : List Int} (h : r.length = 8) : ∃ r0 r1 r2 r3 r4 r5 r6 r7, r = [r0, r1, r2, r3, r4, r5, r6, r7] := by
  match r, h with
  | [r0, r1, r2, r3, r4, r5, r6, r7], _ => exact ⟨_, _, _, _, _, _, _, _, rfl⟩
end Go.Proofs.YtminfmjgmmkaoaaGreatDoor
