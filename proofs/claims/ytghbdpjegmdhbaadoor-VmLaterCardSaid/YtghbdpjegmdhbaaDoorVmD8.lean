/-
  The contract of the document's own Run.
-/
import Derived.Test.YtghbdpjegmdhbaaDoorVmQ
import Derived.BigRegion
import Derived.OneCell
import Derived.StillTailTactics
import Derived.Deep.RegionHeld3
import Derived.IntWalk
namespace Go.Proofs.YtghbdpjegmdhbaaDoor
open Go.ChangeShapes Go.WideShapes Go.ChangeAt Go.RowKit Go.Sort
set_option linter.unusedVariables false
set_option maxRecDepth 4000

/-- Where a sending lies. -/
def OtAt (w : World) (b o : Nat) (i : Ot) : Prop :=
  b < w.heap.size ∧ w.cell? ⟨b, o, none⟩ = some (.int .i64 i.link) ∧ w.cell? ⟨b, o + 1, none⟩ = some (.int .i64 i.delay) ∧ w.cell? ⟨b, o + 2, none⟩ = some (.int .i64 i.value)
/-- A slice value reads as the sendings os. -/
def Ots (w : World) (a : Option Addr) (len cap : Nat) (os : List Ot) : Prop :=
  os.length = len ∧ len ≤ cap ∧ cap ≤ maxLen ∧ (len = 0 ∨ ∃ b off, a = some ⟨b, off, none⟩ ∧ ∀ k, k < len → OtAt w b (off + k * 3) (os.getD k default))
theorem OtAt.below {w w' : World} {b o : Nat} {i : Ot} (h : OtAt w b o i) (hb : Below w.heap.size w w') : OtAt w' b o i := by
  obtain ⟨hlt, h0, h1, h2⟩ := h
  have hc : ∀ {c : Nat} {v : Value}, w.cell? ⟨b, c, none⟩ = some v → w'.cell? ⟨b, c, none⟩ = some v := fun h => by rw [hb.cell hlt]; exact h
  exact ⟨Nat.lt_of_lt_of_le hlt hb.size, hc h0, hc h1, hc h2⟩
theorem Ots.below {w w' : World} {a : Option Addr} {len cap : Nat} {is : List Ot} (h : Ots w a len cap is) (hb : Below w.heap.size w w') : Ots w' a len cap is := by
  obtain ⟨h1, h2, h3, h4⟩ := h
  refine ⟨h1, h2, h3, h4.imp id ?_⟩
  rintro ⟨b, off, ha, hm⟩
  exact ⟨b, off, ha, fun i hi => (hm i hi).below hb⟩
theorem flatO_get : ∀ (os : List Ot) (i c : Nat), i < os.length → c < 3 → (flatO os)[i * 3 + c]? = (os.getD i default).cells[c]?
  | [], i, c, h, _ => by simp at h
  | m :: ms, 0, c, _, hc => by
    have : flatO (m :: ms) = flatO [m] ++ flatO ms := flatO_append [m] ms
    rw [this, List.getElem?_append_left (by rw [flatO_one]; simp; omega)]
    simp [flatO, Ot.cells]
  | m :: ms, i + 1, c, h, hc => by
    have ih := flatO_get ms i c (by simpa using h) hc
    have : flatO (m :: ms) = flatO [m] ++ flatO ms := flatO_append [m] ms
    rw [this, List.getElem?_append_right (by rw [flatO_one]; simp; omega), flatO_one]
    have e : (i + 1) * 3 + c - [Value.int .i64 m.link, Value.int .i64 m.delay, Value.int .i64 m.value].length = i * 3 + c := by simp; omega
    rw [e, ih]
    simp
theorem ots_of_own {w : World} {base : Nat} {v : Value} {n : Nat} {os : List Ot} (h : w.ownsRow base 47 3 v n (flatO os)) : ∃ a cap, v = .slice a n cap ∧ Ots w a n cap os := by
  obtain ⟨hl, hv⟩ := h
  rw [flatO_length] at hl
  have hn : os.length = n := by omega
  rcases hv with ⟨rfl, rfl⟩ | ⟨g, cap, cur, rfl, _, hg, hn', hm, hs, ht⟩
  · exact ⟨none, 0, rfl, hn, Nat.le_refl _, by unfold maxLen; omega, .inl rfl⟩
  · refine ⟨some ⟨g, 0, none⟩, cap, rfl, hn, hn', hm, .inr ⟨g, 0, rfl, fun k hk => ?_⟩⟩
    have hc : ∀ c, c < 3 → w.cell? ⟨g, 0 + k * 3 + c, none⟩ = (os.getD k default).cells[c]? := by
      intro c hc
      have h1 : w.cell? ⟨g, 0 + k * 3 + c, none⟩ = cur[k * 3 + c]? := by simp [World.cell?, hg]
      rw [h1]
      have h2 : (cur.toList.take (n * 3))[k * 3 + c]? = cur[k * 3 + c]? := by rw [List.getElem?_take_of_lt (by omega), Array.getElem?_toList]
      rw [← h2, ht]
      exact flatO_get os k c (by omega) hc
    refine ⟨(Array.getElem?_eq_some_iff.1 hg).1, ?_, ?_, ?_⟩
    · exact hc 0 (by omega)
    · exact hc 1 (by omega)
    · exact hc 2 (by omega)
/-- What Run comes to. -/
def RunQ (w : World) (r : Sta × List Ot × Int) (e : Ending) (w' : World) : Prop :=
  ∃ a cap, e = .returned (.tuple #[r.1.val, .slice a r.2.1.length cap, .int .i64 r.2.2]) ∧ Ots w' a r.2.1.length cap r.2.1 ∧ Below w.heap.size w w'
theorem Ots.nil (w : World) : Ots w none 0 0 [] := ⟨rfl, Nat.le_refl _, by unfold maxLen; omega, .inl rfl⟩
theorem infoSt : (Tryd.prog.info? 29).map (·.size) = some 10 := by kernel_rfl
def st10 (r0 r1 r2 r3 r4 r5 r6 r7 d n : Int) : Array Value := #[.int .i64 r0, .int .i64 r1, .int .i64 r2, .int .i64 r3, .int .i64 r4, .int .i64 r5, .int .i64 r6, .int .i64 r7, .int .i64 d, .int .i64 n]
theorem st10_one (r0 r1 r2 r3 r4 r5 r6 r7 d n : Int) : (st10 r0 r1 r2 r3 r4 r5 r6 r7 d n).all (·.oneCell') = true := by simp [st10, Value.oneCell']
theorem setRow_heap {w : World} {g : Nat} {old new : Array Value} {t : TypeId} (h : w.heap[g]? = some (.cells old t (0, 0))) : (w.setRow g new).heap[g]? = some (.cells new t (0, 0)) := by
  simp [World.setRow, Array.getElem?_modify, h]
theorem below_row {B : Nat} {a w : World} (h : Below B a w) {g : Nat} (hg : B ≤ g) (cs : Array Value) : Below B a (w.setRow g cs) := by
  refine h.trans ⟨rfl, rfl, rfl, by simp [World.setRow], fun k hk => ?_⟩
  simp only [World.setRow, Array.getElem?_modify]
  rw [if_neg (by omega)]
/-- The four blocks that Run begins with. -/
structure Four (w w1 : World) (A S M Z : Obj) : Prop where
  a : w1.heap[w.heap.size]? = some A
  s : w1.heap[w.heap.size + 1]? = some S
  m : w1.heap[w.heap.size + 1 + 1]? = some M
  z : w1.heap[w.heap.size + 1 + 1 + 1]? = some Z
  b : Below w.heap.size w w1
  sz : w.heap.size + 4 ≤ w1.heap.size
theorem Four.mk4 (w : World) (A S M Z : Obj) : Four w ((((w.alloc A).alloc S).alloc M).alloc Z) A S M Z := by
  refine ⟨?_, ?_, ?_, ?_, ((((Below.refl _ w).alloc (Nat.le_refl _) A).alloc (by simp) S).alloc (by simp; omega) M).alloc (by simp; omega) Z, by simp⟩
  · rw [Below.heap_alloc _ _ _ (by simp; omega), Below.heap_alloc _ _ _ (by simp; omega), Below.heap_alloc _ _ _ (by simp)]; exact heap_alloc_new w A
  · rw [Below.heap_alloc _ _ _ (by simp), Below.heap_alloc _ _ _ (by simp)]; have := heap_alloc_new (w.alloc A) S; rwa [World.size_alloc] at this
  · rw [Below.heap_alloc _ _ _ (by simp)]; have := heap_alloc_new ((w.alloc A).alloc S) M; rwa [World.size_alloc, World.size_alloc] at this
  · have := heap_alloc_new (((w.alloc A).alloc S).alloc M) Z; rwa [World.size_alloc, World.size_alloc, World.size_alloc] at this
theorem Four.below {w w1 w2 : World} {A S M Z : Obj} (h : Four w w1 A S M Z) (hb : Below (w.heap.size + 4) w1 w2) : Four w w2 A S M Z :=
  ⟨(hb.block _ (by omega)).trans h.a, (hb.block _ (by omega)).trans h.s, (hb.block _ (by omega)).trans h.m, (hb.block _ (by omega)).trans h.z, h.b.trans (hb.mono (by omega)), Nat.le_trans h.sz hb.size⟩
theorem row_cell {w : World} {g : Nat} {C : Array Value} {t : TypeId} (h : w.heap[g]? = some (.cells C t (0, 0))) (j : Nat) {u : Value} (hj : C[j]? = some u) : w.cell? ⟨g, j, none⟩ = some u := by
  simp [World.cell?, h, hj]
set_option maxHeartbeats 1000000 in
theorem r5Run_check {w : World} {v : Wv} {W : Wd} {s : Sta} {ev : M} (hw : Wds w v W) (hs : s.r.length = 8) (hc : checkW W ≠ 0) :
    Calls Tryd.prog 12 #[v.val W, s.val, ev.val] w (RunQ w (Sta.zero, [], checkW W)) := by
  have hcall := fun (o1 o2 o3 o4 : Obj) => r5Check_any (hw.below (((((Below.refl _ w).alloc (Nat.le_refl _) o1).alloc (by simp) o2).alloc (by simp; omega) o3).alloc (by simp; omega) o4))
  have hc' : (checkW W == 0) = false := by simpa using hc
  generalize checkW W = z at *
  obtain ⟨⟨t, f, q⟩, to', vv, u, an⟩ := ev
  simp only [Wv.val, M.val] at hcall ⊢
  obtain ⟨r, d, n⟩ := s
  obtain ⟨r0, r1, r2, r3, r4, r5, r6, r7, rfl⟩ : ∃ r0 r1 r2 r3 r4 r5 r6 r7, r = [r0, r1, r2, r3, r4, r5, r6, r7] := by
    match r, hs with
    | [r0, r1, r2, r3, r4, r5, r6, r7], _ => exact ⟨_, _, _, _, _, _, _, _, rfl⟩
  simp only [Sta.val, Sta.cells, List.map_cons, List.map_nil, List.cons_append, List.nil_append]
  clear hw hs hc
  go_enter Tryd.func12, Tryd.ntmps12
  go_wp2_with fail
  refine (hcall _ _ _ _).mono ?_
  rintro e w1 ⟨rfl, hr1⟩
  have F := (Four.mk4 w _ _ _ _).below (hr1.below.mono (by simp))
  have F' := Lib.hid F
  have hz := F.z
  clear hcall hr1 F
  go_wp2_with (refine wpList_store_row rfl 29 (.tmp 6) (.tmp 21) rfl (w.heap.size + 1 + 1 + 1) (st10 0 0 0 0 0 0 0 0 0 0) rfl rfl 29 (st10 0 0 0 0 0 0 0 0 0 0) hz infoSt rfl (st10_one _ _ _ _ _ _ _ _ _ _) ?_)
  have hz2 := setRow_heap (new := (st10 0 0 0 0 0 0 0 0 0 0)) hz
  have hB := Lib.hid (below_row F'.out.b (g := w.heap.size + 1 + 1 + 1) (by omega) (st10 0 0 0 0 0 0 0 0 0 0))
  have q0 : (w1.setRow (w.heap.size + 1 + 1 + 1) (st10 0 0 0 0 0 0 0 0 0 0)).cell? ⟨w.heap.size + 1 + 1 + 1, 0, none⟩ = some (.int .i64 0) := row_cell hz2 0 rfl
  have q1 : (w1.setRow (w.heap.size + 1 + 1 + 1) (st10 0 0 0 0 0 0 0 0 0 0)).cell? ⟨w.heap.size + 1 + 1 + 1, 1, none⟩ = some (.int .i64 0) := row_cell hz2 1 rfl
  have q2 : (w1.setRow (w.heap.size + 1 + 1 + 1) (st10 0 0 0 0 0 0 0 0 0 0)).cell? ⟨w.heap.size + 1 + 1 + 1, 2, none⟩ = some (.int .i64 0) := row_cell hz2 2 rfl
  have q3 : (w1.setRow (w.heap.size + 1 + 1 + 1) (st10 0 0 0 0 0 0 0 0 0 0)).cell? ⟨w.heap.size + 1 + 1 + 1, 3, none⟩ = some (.int .i64 0) := row_cell hz2 3 rfl
  have q4 : (w1.setRow (w.heap.size + 1 + 1 + 1) (st10 0 0 0 0 0 0 0 0 0 0)).cell? ⟨w.heap.size + 1 + 1 + 1, 4, none⟩ = some (.int .i64 0) := row_cell hz2 4 rfl
  have q5 : (w1.setRow (w.heap.size + 1 + 1 + 1) (st10 0 0 0 0 0 0 0 0 0 0)).cell? ⟨w.heap.size + 1 + 1 + 1, 5, none⟩ = some (.int .i64 0) := row_cell hz2 5 rfl
  have q6 : (w1.setRow (w.heap.size + 1 + 1 + 1) (st10 0 0 0 0 0 0 0 0 0 0)).cell? ⟨w.heap.size + 1 + 1 + 1, 6, none⟩ = some (.int .i64 0) := row_cell hz2 6 rfl
  have q7 : (w1.setRow (w.heap.size + 1 + 1 + 1) (st10 0 0 0 0 0 0 0 0 0 0)).cell? ⟨w.heap.size + 1 + 1 + 1, 7, none⟩ = some (.int .i64 0) := row_cell hz2 7 rfl
  have q8 : (w1.setRow (w.heap.size + 1 + 1 + 1) (st10 0 0 0 0 0 0 0 0 0 0)).cell? ⟨w.heap.size + 1 + 1 + 1, 8, none⟩ = some (.int .i64 0) := row_cell hz2 8 rfl
  have q9 : (w1.setRow (w.heap.size + 1 + 1 + 1) (st10 0 0 0 0 0 0 0 0 0 0)).cell? ⟨w.heap.size + 1 + 1 + 1, 9, none⟩ = some (.int .i64 0) := row_cell hz2 9 rfl
  clear hz2
  generalize w1.setRow (w.heap.size + 1 + 1 + 1) (st10 0 0 0 0 0 0 0 0 0 0) = W5 at *
  exact bodyPost_ret (v := .tuple #[.agg (st10 0 0 0 0 0 0 0 0 0 0), .slice none 0 0, .int .i64 z]) (by simp [results, Tryd.results12, go_sem, st10, q0, q1, q2, q3, q4, q5, q6, q7, q8, q9]) rfl ⟨none, 0, rfl, Ots.nil _, hB.out⟩
/-! Run, refused and run. -/
theorem mk16 (w : World) : (Instr.makeSlice 67 (.int .i64 16) (.int .i64 16)).run Tryd.prog w = .ok (.slice (some ⟨w.heap.size, 0, none⟩) 16 16) (w.alloc (.cells #[.int .i64 0, .int .i64 0, .int .i64 0, .int .i64 0, .int .i64 0, .int .i64 0, .int .i64 0, .int .i64 0, .int .i64 0, .int .i64 0, .int .i64 0, .int .i64 0, .int .i64 0, .int .i64 0, .int .i64 0, .int .i64 0] 2)) := by kernel_rfl
/-- The registers behind k rounds of laying the state's in. -/
def midR (rs : List Int) (k : Nat) : List Int := rs.take k ++ List.replicate (16 - k) 0
theorem mid_step {r0 r1 r2 r3 r4 r5 r6 r7 d : Int} (k : Nat) (h : k < 8) : Mc.put ⟨midR [r0, r1, r2, r3, r4, r5, r6, r7] k, d, [], 0⟩ (k : Int) ([r0, r1, r2, r3, r4, r5, r6, r7].getD k 0) = ⟨midR [r0, r1, r2, r3, r4, r5, r6, r7] (k + 1), d, [], 0⟩ := by
  obtain rfl | rfl | rfl | rfl | rfl | rfl | rfl | rfl : k = 0 ∨ k = 1 ∨ k = 2 ∨ k = 3 ∨ k = 4 ∨ k = 5 ∨ k = 6 ∨ k = 7 := by omega
  all_goals rfl
theorem mid_cell {r0 r1 r2 r3 r4 r5 r6 r7 d n : Int} (k : Nat) (h : k < 8) : (#[.int .i64 r0, .int .i64 r1, .int .i64 r2, .int .i64 r3, .int .i64 r4, .int .i64 r5, .int .i64 r6, .int .i64 r7, .int .i64 d, .int .i64 n] : Array Value)[k]? = some (.int .i64 ([r0, r1, r2, r3, r4, r5, r6, r7].getD k 0)) := by
  obtain rfl | rfl | rfl | rfl | rfl | rfl | rfl | rfl : k = 0 ∨ k = 1 ∨ k = 2 ∨ k = 3 ∨ k = 4 ∨ k = 5 ∨ k = 6 ∨ k = 7 := by omega
  all_goals rfl
/-- What holds behind k instructions. -/
def LoopI (R : Nat) (w wr : World) (v : Wv) (W : Wd) (ev : M) (s : Sta) (RES : Sta × List Ot × Int) (k : Nat) (A S Mo Z : Obj) : Prop :=
  ∃ ov m, DM (R + 2) wr (R + 1) R v W ev ov m ∧ Four w wr A S Mo Z ∧ McOk m ∧ s.d ≤ m.d ∧ m.d ≤ s.d + k ∧ endP s (runP W ev (4096 - k) m) = RES
theorem checkN_mayAll {is : List I} (h : checkN is = 0) (k : Nat) (hk : k < is.length) : mayB (is.getD k default) is.length = true := by
  have hs : ¬ 256 < is.length := fun g => by rw [checkN_long g] at h; omega
  cases hm : mayB (is.getD k default) is.length with
  | true => rfl
  | false => rw [checkN_bad hs k hk hm] at h; omega
theorem checkW_zero {W : Wd} (h : checkW W = 0) : checkN W.prog = 0 ∧ (0 ≤ W.self ∧ W.self < 16) ∧ W.links.length ≤ 1024 := by
  by_cases g : checkN W.prog = 0
  · by_cases g2 : ¬ (0 ≤ W.self ∧ W.self < 16) ∨ 1024 < W.links.length
    · rw [checkW_lane g g2] at h; omega
    · exact ⟨g, by omega, by omega⟩
  · rw [checkW_prog g] at h; exact absurd h g
theorem checkW_self {W : Wd} (h : checkW W = 0) : 0 ≤ W.self ∧ W.self < 16 := (checkW_zero h).2.1
theorem checkW_links {W : Wd} (h : checkW W = 0) : W.links.length ≤ 1024 := (checkW_zero h).2.2
theorem chkM_time {m : M} (h : chkM m = 0) : 0 ≤ m.k.t ∧ m.k.t ≤ 4611686018427387903 := by
  unfold chkM at h
  split at h
  · rename_i g; exact g.1
  · omega
theorem own_setRow {w : World} {base : Nat} {e : TypeId} {size : Nat} {v : Value} {n : Nat} {xs : List Value} (h : w.ownsRow base e size v n xs) {g : Nat} (hg : g < base) (cs : Array Value) : (w.setRow g cs).ownsRow base e size v n xs := by
  refine h.kept (row := some g) ⟨rfl, rfl, rfl, by simp [World.setRow], fun k hk hne => ?_⟩ ?_
  · simp only [World.setRow, Array.getElem?_modify]
    rw [if_neg (fun e => hne (by rw [e]))]
  · cases hv : v.ownBlock with
    | none => exact .inl rfl
    | some k => exact .inr (by have := (h.lt k hv).1; intro e; cases e; omega)
theorem ots_own {w : World} {base : Nat} {a : Option Addr} {n cap : Nat} {os : List Ot} (h : w.ownsRow base 47 3 (.slice a n cap) n (flatO os)) : Ots w a n cap os := by
  obtain ⟨a', c', he, hO⟩ := ots_of_own h
  cases he
  exact hO
theorem DM.far {b1 : Nat} {w : World} {x rb : Nat} {v : Wv} {W : Wd} {ev : M} {ov : Value} {m : Mc} (h : DM b1 w x rb v W ev ov m) {T : Nat} (hT : b1 ≤ T) (hne : ov.ownBlock ≠ some T) (j : Nat) (u : Value) : DM b1 (w.setCell ⟨T, j, none⟩ u) x rb v W ev ov m :=
  ⟨h.xb, h.rbb, h.ne, by simpa [World.setCell] using h.hb, (Below.heap_setCell _ _ _ _ (by have := h.xb; simp; omega)).trans h.hx, (Below.heap_setCell _ _ _ _ (by have := h.rbb; simp; omega)).trans h.hr, h.rl, ownsRow_setCell_other h.own hne u⟩
/-- The answer's state behind k rounds of laying the registers in. -/
def tC (rs : List Int) (k : Nat) (d n : Int) : Array Value := ((rs.take k ++ List.replicate (8 - k) 0).map (Value.int .i64 ·) ++ [Value.int .i64 d, Value.int .i64 n]).toArray
theorem sixteen {r : List Int} (h : r.length = 16) : ∃ y0 y1 y2 y3 y4 y5 y6 y7 y8 y9 ya yb yc yd ye yf, r = [y0, y1, y2, y3, y4, y5, y6, y7, y8, y9, ya, yb, yc, yd, ye, yf] := by
  match r, h with
  | [y0, y1, y2, y3, y4, y5, y6, y7, y8, y9, ya, yb, yc, yd, ye, yf], _ => exact ⟨_, _, _, _, _, _, _, _, _, _, _, _, _, _, _, _, rfl⟩
theorem tC_step {y0 y1 y2 y3 y4 y5 y6 y7 y8 y9 ya yb yc yd ye yf d n : Int} (k : Nat) (h : k < 8) :
    (tC [y0, y1, y2, y3, y4, y5, y6, y7, y8, y9, ya, yb, yc, yd, ye, yf] k d n).setIfInBounds k (.int .i64 ([y0, y1, y2, y3, y4, y5, y6, y7, y8, y9, ya, yb, yc, yd, ye, yf].getD k 0)) = tC [y0, y1, y2, y3, y4, y5, y6, y7, y8, y9, ya, yb, yc, yd, ye, yf] (k + 1) d n ∧
    (tC [y0, y1, y2, y3, y4, y5, y6, y7, y8, y9, ya, yb, yc, yd, ye, yf] k d n)[k]? = some (.int .i64 0) := by
  obtain rfl | rfl | rfl | rfl | rfl | rfl | rfl | rfl : k = 0 ∨ k = 1 ∨ k = 2 ∨ k = 3 ∨ k = 4 ∨ k = 5 ∨ k = 6 ∨ k = 7 := by omega
  all_goals exact ⟨rfl, rfl⟩
theorem heap_set {w : World} {T j : Nat} {C : Array Value} {t : TypeId} {u : Value} (h : w.heap[T]? = some (.cells C t (0, 0))) : (w.setCell ⟨T, j, none⟩ u).heap[T]? = some (.cells (C.setIfInBounds j u) t (0, 0)) := by
  simp [World.setCell, Array.getElem?_modify, h]
theorem cell_far {w : World} {g j b o : Nat} {u : Value} (h : b ≠ g) : (w.setCell ⟨g, j, none⟩ u).cell? ⟨b, o, none⟩ = w.cell? ⟨b, o, none⟩ :=
  World.cell?_of_block (w := w) (Below.heap_setCell _ _ _ _ (by simpa using h))
theorem cell_drew (w : World) (a : Addr) : w.drew.cell? a = w.cell? a := rfl
theorem heap_drew (w : World) (k : Nat) : w.drew.heap[k]? = w.heap[k]? := rfl
theorem far10 {w : World} {g b o : Nat} {v0 v1 v2 v3 v4 v5 v6 v7 v8 v9 : Value} (h : b ≠ g) : ((((((((((w.setCell ⟨g, 0, none⟩ v0).setCell ⟨g, 1, none⟩ v1).setCell ⟨g, 2, none⟩ v2).setCell ⟨g, 3, none⟩ v3).setCell ⟨g, 4, none⟩ v4).setCell ⟨g, 5, none⟩ v5).setCell ⟨g, 6, none⟩ v6).setCell ⟨g, 7, none⟩ v7).setCell ⟨g, 8, none⟩ v8).setCell ⟨g, 9, none⟩ v9).cell? ⟨b, o, none⟩ = w.cell? ⟨b, o, none⟩ :=
  (cell_far h).trans ((cell_far h).trans ((cell_far h).trans ((cell_far h).trans ((cell_far h).trans ((cell_far h).trans ((cell_far h).trans ((cell_far h).trans ((cell_far h).trans (cell_far h)))))))))
theorem far10d {w : World} {g b o : Nat} {v0 v1 v2 v3 v4 v5 v6 v7 v8 v9 : Value} (h : b ≠ g) : ((((((((((w.setCell ⟨g, 0, none⟩ v0).setCell ⟨g, 1, none⟩ v1).setCell ⟨g, 2, none⟩ v2).setCell ⟨g, 3, none⟩ v3).setCell ⟨g, 4, none⟩ v4).setCell ⟨g, 5, none⟩ v5).setCell ⟨g, 6, none⟩ v6).setCell ⟨g, 7, none⟩ v7).setCell ⟨g, 8, none⟩ v8).setCell ⟨g, 9, none⟩ v9).drew.cell? ⟨b, o, none⟩ = w.cell? ⟨b, o, none⟩ :=
  (cell_drew _ _).trans (far10 h)
theorem heap10 {w : World} {g : Nat} {v0 v1 v2 v3 v4 v5 v6 v7 v8 v9 : Value} (h : w.heap[g]? = some (.cells (st10 0 0 0 0 0 0 0 0 0 0) 29 (0, 0))) : ((((((((((w.setCell ⟨g, 0, none⟩ v0).setCell ⟨g, 1, none⟩ v1).setCell ⟨g, 2, none⟩ v2).setCell ⟨g, 3, none⟩ v3).setCell ⟨g, 4, none⟩ v4).setCell ⟨g, 5, none⟩ v5).setCell ⟨g, 6, none⟩ v6).setCell ⟨g, 7, none⟩ v7).setCell ⟨g, 8, none⟩ v8).setCell ⟨g, 9, none⟩ v9).heap[g]? = some (.cells #[v0, v1, v2, v3, v4, v5, v6, v7, v8, v9] 29 (0, 0)) := by
  have h10 := (heap_set (j := 9) (u := v9) (heap_set (j := 8) (u := v8) (heap_set (j := 7) (u := v7) (heap_set (j := 6) (u := v6) (heap_set (j := 5) (u := v5) (heap_set (j := 4) (u := v4) (heap_set (j := 3) (u := v3) (heap_set (j := 2) (u := v2) (heap_set (j := 1) (u := v1) (heap_set (j := 0) (u := v0) h))))))))))
  have e10 : (((((((((((st10 0 0 0 0 0 0 0 0 0 0).setIfInBounds 0 v0).setIfInBounds 1 v1).setIfInBounds 2 v2).setIfInBounds 3 v3).setIfInBounds 4 v4).setIfInBounds 5 v5).setIfInBounds 6 v6).setIfInBounds 7 v7).setIfInBounds 8 v8).setIfInBounds 9 v9) = #[v0, v1, v2, v3, v4, v5, v6, v7, v8, v9] := by simp [st10]
  rw [e10] at h10
  exact h10
theorem below10 {B : Nat} {a w : World} (hb : Below B a w) {g : Nat} (hg : B ≤ g) {v0 v1 v2 v3 v4 v5 v6 v7 v8 v9 : Value} : Below B a ((((((((((w.setCell ⟨g, 0, none⟩ v0).setCell ⟨g, 1, none⟩ v1).setCell ⟨g, 2, none⟩ v2).setCell ⟨g, 3, none⟩ v3).setCell ⟨g, 4, none⟩ v4).setCell ⟨g, 5, none⟩ v5).setCell ⟨g, 6, none⟩ v6).setCell ⟨g, 7, none⟩ v7).setCell ⟨g, 8, none⟩ v8).setCell ⟨g, 9, none⟩ v9) :=
  ((((((((((hb.setCell (p := ⟨g, 0, none⟩) hg v0).setCell (p := ⟨g, 1, none⟩) hg v1).setCell (p := ⟨g, 2, none⟩) hg v2).setCell (p := ⟨g, 3, none⟩) hg v3).setCell (p := ⟨g, 4, none⟩) hg v4).setCell (p := ⟨g, 5, none⟩) hg v5).setCell (p := ⟨g, 6, none⟩) hg v6).setCell (p := ⟨g, 7, none⟩) hg v7).setCell (p := ⟨g, 8, none⟩) hg v8).setCell (p := ⟨g, 9, none⟩) hg v9)
theorem own10 {w : World} {base : Nat} {e : TypeId} {size : Nat} {v : Value} {n : Nat} {xs : List Value} (h : w.ownsRow base e size v n xs) {g : Nat} (hg : g < base) {v0 v1 v2 v3 v4 v5 v6 v7 v8 v9 : Value} : ((((((((((w.setCell ⟨g, 0, none⟩ v0).setCell ⟨g, 1, none⟩ v1).setCell ⟨g, 2, none⟩ v2).setCell ⟨g, 3, none⟩ v3).setCell ⟨g, 4, none⟩ v4).setCell ⟨g, 5, none⟩ v5).setCell ⟨g, 6, none⟩ v6).setCell ⟨g, 7, none⟩ v7).setCell ⟨g, 8, none⟩ v8).setCell ⟨g, 9, none⟩ v9).ownsRow base e size v n xs :=
  (ownsRow_setCell_below (ownsRow_setCell_below (ownsRow_setCell_below (ownsRow_setCell_below (ownsRow_setCell_below (ownsRow_setCell_below (ownsRow_setCell_below (ownsRow_setCell_below (ownsRow_setCell_below (ownsRow_setCell_below h (a := ⟨g, 0, none⟩) hg v0) (a := ⟨g, 1, none⟩) hg v1) (a := ⟨g, 2, none⟩) hg v2) (a := ⟨g, 3, none⟩) hg v3) (a := ⟨g, 4, none⟩) hg v4) (a := ⟨g, 5, none⟩) hg v5) (a := ⟨g, 6, none⟩) hg v6) (a := ⟨g, 7, none⟩) hg v7) (a := ⟨g, 8, none⟩) hg v8) (a := ⟨g, 9, none⟩) hg v9)
theorem eight {r : List Int} (h : r.length = 8) : ∃ r0 r1 r2 r3 r4 r5 r6 r7, r = [r0, r1, r2, r3, r4, r5, r6, r7] := by
  match r, h with
  | [r0, r1, r2, r3, r4, r5, r6, r7], _ => exact ⟨_, _, _, _, _, _, _, _, rfl⟩
set_option maxRecDepth 100000 in
set_option maxHeartbeats 4000000 in
theorem r5Run_msg {w : World} {v : Wv} {W : Wd} {s : Sta} {ev : M} (hw : Wds w v W) (hs : s.r.length = 8) (hc : checkW W = 0) (hm : chkM ev ≠ 0) :
    Calls Tryd.prog 12 #[v.val W, s.val, ev.val] w (RunQ w (Sta.zero, [], 1)) := by
  have hcall := fun (o1 o2 o3 o4 : Obj) => r5Check_any (hw.below (((((Below.refl _ w).alloc (Nat.le_refl _) o1).alloc (by simp) o2).alloc (by simp; omega) o3).alloc (by simp; omega) o4))
  rw [hc] at hcall
  have hmc := fun w => rCheck_any ev w
  have hst := fun w => State_any s hs w
  have hm' : (chkM ev == 0) = false := by simpa using hm
  have hm2 : (chkM ev != 0) = true := by simpa using hm
  generalize chkM ev = z at hmc hm' hm2
  clear hw hc hm hst
  obtain ⟨⟨t, f, q⟩, to', vv, u, an⟩ := ev
  obtain ⟨r, d, n⟩ := s
  obtain ⟨r0, r1, r2, r3, r4, r5, r6, r7, rfl⟩ := eight hs
  clear hs
  simp only [Wv.val, M.val, Sta.val, Sta.cells, List.map_cons, List.map_nil, List.cons_append, List.nil_append] at hcall hmc ⊢
  go_enter Tryd.func12, Tryd.ntmps12
  go_wp2_with fail
  refine (hcall _ _ _ _).mono ?_
  rintro e w1 ⟨rfl, hr1⟩
  have F := (Four.mk4 w _ _ _ _).below (hr1.below.mono (by simp))
  clear hcall hr1
  have m0 : w1.cell? ⟨w.heap.size + 1 + 1, 0, none⟩ = some (.int .i64 t) := row_cell F.m 0 rfl
  have m1 : w1.cell? ⟨w.heap.size + 1 + 1, 1, none⟩ = some (.int .i64 f) := row_cell F.m 1 rfl
  have m2 : w1.cell? ⟨w.heap.size + 1 + 1, 2, none⟩ = some (.int .i64 q) := row_cell F.m 2 rfl
  have m3 : w1.cell? ⟨w.heap.size + 1 + 1, 3, none⟩ = some (.int .i64 to') := row_cell F.m 3 rfl
  have m4 : w1.cell? ⟨w.heap.size + 1 + 1, 4, none⟩ = some (.int .i64 vv) := row_cell F.m 4 rfl
  have m5 : w1.cell? ⟨w.heap.size + 1 + 1, 5, none⟩ = some (.int .i64 u) := row_cell F.m 5 rfl
  have m6 : w1.cell? ⟨w.heap.size + 1 + 1, 6, none⟩ = some (.bool an) := row_cell F.m 6 rfl
  have Fh := Lib.hid F
  clear F
  go_wp2_with fail
  refine (hmc _).mono ?_
  rintro e w2 ⟨rfl, hr2⟩
  have F := Fh.out.below (hr2.below.mono Fh.out.sz)
  clear hmc hr2 m0 m1 m2 m3 m4 m5 m6 Fh
  have F' := Lib.hid F
  have hz := F.z
  clear F
  go_wp2_with (refine wpList_store_row rfl 29 (.tmp 6) (.tmp 31) rfl (w.heap.size + 1 + 1 + 1) (st10 0 0 0 0 0 0 0 0 0 0) rfl rfl 29 (st10 0 0 0 0 0 0 0 0 0 0) hz infoSt rfl (st10_one _ _ _ _ _ _ _ _ _ _) ?_)
  have hz2 := setRow_heap (new := (st10 0 0 0 0 0 0 0 0 0 0)) hz
  have hB := Lib.hid (below_row F'.out.b (g := w.heap.size + 1 + 1 + 1) (by omega) (st10 0 0 0 0 0 0 0 0 0 0))
  have q0 : (w2.setRow (w.heap.size + 1 + 1 + 1) (st10 0 0 0 0 0 0 0 0 0 0)).cell? ⟨w.heap.size + 1 + 1 + 1, 0, none⟩ = some (.int .i64 0) := row_cell hz2 0 rfl
  have q1 : (w2.setRow (w.heap.size + 1 + 1 + 1) (st10 0 0 0 0 0 0 0 0 0 0)).cell? ⟨w.heap.size + 1 + 1 + 1, 1, none⟩ = some (.int .i64 0) := row_cell hz2 1 rfl
  have q2 : (w2.setRow (w.heap.size + 1 + 1 + 1) (st10 0 0 0 0 0 0 0 0 0 0)).cell? ⟨w.heap.size + 1 + 1 + 1, 2, none⟩ = some (.int .i64 0) := row_cell hz2 2 rfl
  have q3 : (w2.setRow (w.heap.size + 1 + 1 + 1) (st10 0 0 0 0 0 0 0 0 0 0)).cell? ⟨w.heap.size + 1 + 1 + 1, 3, none⟩ = some (.int .i64 0) := row_cell hz2 3 rfl
  have q4 : (w2.setRow (w.heap.size + 1 + 1 + 1) (st10 0 0 0 0 0 0 0 0 0 0)).cell? ⟨w.heap.size + 1 + 1 + 1, 4, none⟩ = some (.int .i64 0) := row_cell hz2 4 rfl
  have q5 : (w2.setRow (w.heap.size + 1 + 1 + 1) (st10 0 0 0 0 0 0 0 0 0 0)).cell? ⟨w.heap.size + 1 + 1 + 1, 5, none⟩ = some (.int .i64 0) := row_cell hz2 5 rfl
  have q6 : (w2.setRow (w.heap.size + 1 + 1 + 1) (st10 0 0 0 0 0 0 0 0 0 0)).cell? ⟨w.heap.size + 1 + 1 + 1, 6, none⟩ = some (.int .i64 0) := row_cell hz2 6 rfl
  have q7 : (w2.setRow (w.heap.size + 1 + 1 + 1) (st10 0 0 0 0 0 0 0 0 0 0)).cell? ⟨w.heap.size + 1 + 1 + 1, 7, none⟩ = some (.int .i64 0) := row_cell hz2 7 rfl
  have q8 : (w2.setRow (w.heap.size + 1 + 1 + 1) (st10 0 0 0 0 0 0 0 0 0 0)).cell? ⟨w.heap.size + 1 + 1 + 1, 8, none⟩ = some (.int .i64 0) := row_cell hz2 8 rfl
  have q9 : (w2.setRow (w.heap.size + 1 + 1 + 1) (st10 0 0 0 0 0 0 0 0 0 0)).cell? ⟨w.heap.size + 1 + 1 + 1, 9, none⟩ = some (.int .i64 0) := row_cell hz2 9 rfl
  clear hz2
  generalize w2.setRow (w.heap.size + 1 + 1 + 1) (st10 0 0 0 0 0 0 0 0 0 0) = W5 at *
  first | exact bodyPost_ret (v := .tuple #[.agg (st10 0 0 0 0 0 0 0 0 0 0), .slice none 0 0, .int .i64 1]) (by simp [results, Tryd.results12, go_sem, st10, q0, q1, q2, q3, q4, q5, q6, q7, q8, q9]) rfl ⟨none, 0, rfl, Ots.nil _, hB.out⟩ | (trace_state; fail )
set_option maxRecDepth 100000 in
set_option maxHeartbeats 4000000 in
theorem r5Run_state {w : World} {v : Wv} {W : Wd} {s : Sta} {ev : M} (hw : Wds w v W) (hs : s.r.length = 8) (hc : checkW W = 0) (hm : chkM ev = 0) (hf : s.mayB = false) :
    Calls Tryd.prog 12 #[v.val W, s.val, ev.val] w (RunQ w (Sta.zero, [], 1)) := by
  have hcall := fun (o1 o2 o3 o4 : Obj) => r5Check_any (hw.below (((((Below.refl _ w).alloc (Nat.le_refl _) o1).alloc (by simp) o2).alloc (by simp; omega) o3).alloc (by simp; omega) o4))
  rw [hc] at hcall
  have hmc := fun w => rCheck_any ev w
  have hst := fun w => State_any s hs w
  rw [hm] at hmc
  rw [hf] at hst
  clear hw hc hm hf
  obtain ⟨⟨t, f, q⟩, to', vv, u, an⟩ := ev
  obtain ⟨r, d, n⟩ := s
  obtain ⟨r0, r1, r2, r3, r4, r5, r6, r7, rfl⟩ := eight hs
  clear hs
  simp only [Wv.val, M.val, Sta.val, Sta.cells, List.map_cons, List.map_nil, List.cons_append, List.nil_append] at hcall hmc hst ⊢
  go_enter Tryd.func12, Tryd.ntmps12
  go_wp2_with fail
  refine (hcall _ _ _ _).mono ?_
  rintro e w1 ⟨rfl, hr1⟩
  have F := (Four.mk4 w _ _ _ _).below (hr1.below.mono (by simp))
  clear hcall hr1
  have m0 : w1.cell? ⟨w.heap.size + 1 + 1, 0, none⟩ = some (.int .i64 t) := row_cell F.m 0 rfl
  have m1 : w1.cell? ⟨w.heap.size + 1 + 1, 1, none⟩ = some (.int .i64 f) := row_cell F.m 1 rfl
  have m2 : w1.cell? ⟨w.heap.size + 1 + 1, 2, none⟩ = some (.int .i64 q) := row_cell F.m 2 rfl
  have m3 : w1.cell? ⟨w.heap.size + 1 + 1, 3, none⟩ = some (.int .i64 to') := row_cell F.m 3 rfl
  have m4 : w1.cell? ⟨w.heap.size + 1 + 1, 4, none⟩ = some (.int .i64 vv) := row_cell F.m 4 rfl
  have m5 : w1.cell? ⟨w.heap.size + 1 + 1, 5, none⟩ = some (.int .i64 u) := row_cell F.m 5 rfl
  have m6 : w1.cell? ⟨w.heap.size + 1 + 1, 6, none⟩ = some (.bool an) := row_cell F.m 6 rfl
  have Fh := Lib.hid F
  clear F
  go_wp2_with fail
  refine (hmc _).mono ?_
  rintro e w2 ⟨rfl, hr2⟩
  have F := Fh.out.below (hr2.below.mono Fh.out.sz)
  clear hmc hr2 m0 m1 m2 m3 m4 m5 m6 Fh
  have s0 : w2.cell? ⟨w.heap.size + 1, 0, none⟩ = some (.int .i64 r0) := row_cell F.s 0 rfl
  have s1 : w2.cell? ⟨w.heap.size + 1, 1, none⟩ = some (.int .i64 r1) := row_cell F.s 1 rfl
  have s2 : w2.cell? ⟨w.heap.size + 1, 2, none⟩ = some (.int .i64 r2) := row_cell F.s 2 rfl
  have s3 : w2.cell? ⟨w.heap.size + 1, 3, none⟩ = some (.int .i64 r3) := row_cell F.s 3 rfl
  have s4 : w2.cell? ⟨w.heap.size + 1, 4, none⟩ = some (.int .i64 r4) := row_cell F.s 4 rfl
  have s5 : w2.cell? ⟨w.heap.size + 1, 5, none⟩ = some (.int .i64 r5) := row_cell F.s 5 rfl
  have s6 : w2.cell? ⟨w.heap.size + 1, 6, none⟩ = some (.int .i64 r6) := row_cell F.s 6 rfl
  have s7 : w2.cell? ⟨w.heap.size + 1, 7, none⟩ = some (.int .i64 r7) := row_cell F.s 7 rfl
  have s8 : w2.cell? ⟨w.heap.size + 1, 8, none⟩ = some (.int .i64 d) := row_cell F.s 8 rfl
  have s9 : w2.cell? ⟨w.heap.size + 1, 9, none⟩ = some (.int .i64 n) := row_cell F.s 9 rfl
  have Fh := Lib.hid F
  clear F
  go_wp2_with fail
  refine (hst _).mono ?_
  rintro e w3 ⟨rfl, hr3⟩
  have F := Fh.out.below (hr3.below.mono Fh.out.sz)
  clear hst hr3 s0 s1 s2 s3 s4 s5 s6 s7 s8 s9 Fh
  have F' := Lib.hid F
  have hz := F.z
  clear F
  go_wp2_with (refine wpList_store_row rfl 29 (.tmp 6) (.tmp 31) rfl (w.heap.size + 1 + 1 + 1) (st10 0 0 0 0 0 0 0 0 0 0) rfl rfl 29 (st10 0 0 0 0 0 0 0 0 0 0) hz infoSt rfl (st10_one _ _ _ _ _ _ _ _ _ _) ?_)
  have hz2 := setRow_heap (new := (st10 0 0 0 0 0 0 0 0 0 0)) hz
  have hB := Lib.hid (below_row F'.out.b (g := w.heap.size + 1 + 1 + 1) (by omega) (st10 0 0 0 0 0 0 0 0 0 0))
  have q0 : (w3.setRow (w.heap.size + 1 + 1 + 1) (st10 0 0 0 0 0 0 0 0 0 0)).cell? ⟨w.heap.size + 1 + 1 + 1, 0, none⟩ = some (.int .i64 0) := row_cell hz2 0 rfl
  have q1 : (w3.setRow (w.heap.size + 1 + 1 + 1) (st10 0 0 0 0 0 0 0 0 0 0)).cell? ⟨w.heap.size + 1 + 1 + 1, 1, none⟩ = some (.int .i64 0) := row_cell hz2 1 rfl
  have q2 : (w3.setRow (w.heap.size + 1 + 1 + 1) (st10 0 0 0 0 0 0 0 0 0 0)).cell? ⟨w.heap.size + 1 + 1 + 1, 2, none⟩ = some (.int .i64 0) := row_cell hz2 2 rfl
  have q3 : (w3.setRow (w.heap.size + 1 + 1 + 1) (st10 0 0 0 0 0 0 0 0 0 0)).cell? ⟨w.heap.size + 1 + 1 + 1, 3, none⟩ = some (.int .i64 0) := row_cell hz2 3 rfl
  have q4 : (w3.setRow (w.heap.size + 1 + 1 + 1) (st10 0 0 0 0 0 0 0 0 0 0)).cell? ⟨w.heap.size + 1 + 1 + 1, 4, none⟩ = some (.int .i64 0) := row_cell hz2 4 rfl
  have q5 : (w3.setRow (w.heap.size + 1 + 1 + 1) (st10 0 0 0 0 0 0 0 0 0 0)).cell? ⟨w.heap.size + 1 + 1 + 1, 5, none⟩ = some (.int .i64 0) := row_cell hz2 5 rfl
  have q6 : (w3.setRow (w.heap.size + 1 + 1 + 1) (st10 0 0 0 0 0 0 0 0 0 0)).cell? ⟨w.heap.size + 1 + 1 + 1, 6, none⟩ = some (.int .i64 0) := row_cell hz2 6 rfl
  have q7 : (w3.setRow (w.heap.size + 1 + 1 + 1) (st10 0 0 0 0 0 0 0 0 0 0)).cell? ⟨w.heap.size + 1 + 1 + 1, 7, none⟩ = some (.int .i64 0) := row_cell hz2 7 rfl
  have q8 : (w3.setRow (w.heap.size + 1 + 1 + 1) (st10 0 0 0 0 0 0 0 0 0 0)).cell? ⟨w.heap.size + 1 + 1 + 1, 8, none⟩ = some (.int .i64 0) := row_cell hz2 8 rfl
  have q9 : (w3.setRow (w.heap.size + 1 + 1 + 1) (st10 0 0 0 0 0 0 0 0 0 0)).cell? ⟨w.heap.size + 1 + 1 + 1, 9, none⟩ = some (.int .i64 0) := row_cell hz2 9 rfl
  clear hz2
  generalize w3.setRow (w.heap.size + 1 + 1 + 1) (st10 0 0 0 0 0 0 0 0 0 0) = W5 at *
  first | exact bodyPost_ret (v := .tuple #[.agg (st10 0 0 0 0 0 0 0 0 0 0), .slice none 0 0, .int .i64 1]) (by simp [results, Tryd.results12, go_sem, st10, q0, q1, q2, q3, q4, q5, q6, q7, q8, q9]) rfl ⟨none, 0, rfl, Ots.nil _, hB.out⟩ | (trace_state; fail )
set_option maxRecDepth 100000 in
set_option maxHeartbeats 4000000 in
theorem r5Run_go {w : World} {v : Wv} {W : Wd} {s : Sta} {ev : M} (hw : Wds w v W) (hs : s.r.length = 8) (hc : checkW W = 0) (hm : chkM ev = 0) (hf : s.mayB = true) (hsR : ∀ z ∈ s.r, In64 z) (hev : In64 ev.v) :
    Calls Tryd.prog 12 #[v.val W, s.val, ev.val] w (RunQ w (endP s (runP W ev 4096 (firstP s)))) := by
  have hcall := fun (o1 o2 o3 o4 : Obj) => r5Check_any (hw.below (((((Below.refl _ w).alloc (Nat.le_refl _) o1).alloc (by simp) o2).alloc (by simp; omega) o3).alloc (by simp; omega) o4))
  rw [hc] at hcall
  have hmc := fun w => rCheck_any ev w
  have hst := fun w => State_any s hs w
  rw [hm] at hmc
  rw [hf] at hst
  have hwL := Lib.hid hw
  have hsB := Lib.hid hf
  have hmL := Lib.hid hm
  have hcL := Lib.hid hc
  have hsR' := Lib.hid hsR
  have hdd : 0 ≤ s.d ∧ s.d ≤ 1125899906842624 ∧ 0 ≤ s.s ∧ s.s ≤ 1125899906842624 := by simpa [Sta.mayB] using hf
  clear hw hc hm hf hsR
  obtain ⟨⟨t, f, q⟩, to', vv, u, an⟩ := ev
  obtain ⟨r, d, n⟩ := s
  obtain ⟨r0, r1, r2, r3, r4, r5, r6, r7, rfl⟩ := eight hs
  clear hs
  simp only [Wv.val, M.val, Sta.val, Sta.cells, List.map_cons, List.map_nil, List.cons_append, List.nil_append] at hcall hmc hst ⊢
  obtain ⟨hd0, hd1, hn0, hn1⟩ := hdd
  simp only at hd0 hd1 hn0 hn1
  generalize hres : endP ⟨[r0, r1, r2, r3, r4, r5, r6, r7], d, n⟩ (runP W ⟨⟨t, f, q⟩, to', vv, u, an⟩ 4096 (firstP ⟨[r0, r1, r2, r3, r4, r5, r6, r7], d, n⟩)) = RES
  have hres' := Lib.hid hres
  clear hres
  go_enter Tryd.func12, Tryd.ntmps12
  go_wp2_with fail
  refine (hcall _ _ _ _).mono ?_
  rintro e w1 ⟨rfl, hr1⟩
  have F := (Four.mk4 w _ _ _ _).below (hr1.below.mono (by simp))
  clear hcall hr1
  have m0 : w1.cell? ⟨w.heap.size + 1 + 1, 0, none⟩ = some (.int .i64 t) := row_cell F.m 0 rfl
  have m1 : w1.cell? ⟨w.heap.size + 1 + 1, 1, none⟩ = some (.int .i64 f) := row_cell F.m 1 rfl
  have m2 : w1.cell? ⟨w.heap.size + 1 + 1, 2, none⟩ = some (.int .i64 q) := row_cell F.m 2 rfl
  have m3 : w1.cell? ⟨w.heap.size + 1 + 1, 3, none⟩ = some (.int .i64 to') := row_cell F.m 3 rfl
  have m4 : w1.cell? ⟨w.heap.size + 1 + 1, 4, none⟩ = some (.int .i64 vv) := row_cell F.m 4 rfl
  have m5 : w1.cell? ⟨w.heap.size + 1 + 1, 5, none⟩ = some (.int .i64 u) := row_cell F.m 5 rfl
  have m6 : w1.cell? ⟨w.heap.size + 1 + 1, 6, none⟩ = some (.bool an) := row_cell F.m 6 rfl
  have Fh := Lib.hid F
  clear F
  go_wp2_with fail
  refine (hmc _).mono ?_
  rintro e w2 ⟨rfl, hr2⟩
  have F := Fh.out.below (hr2.below.mono Fh.out.sz)
  clear hmc hr2 m0 m1 m2 m3 m4 m5 m6 Fh
  have s0 : w2.cell? ⟨w.heap.size + 1, 0, none⟩ = some (.int .i64 r0) := row_cell F.s 0 rfl
  have s1 : w2.cell? ⟨w.heap.size + 1, 1, none⟩ = some (.int .i64 r1) := row_cell F.s 1 rfl
  have s2 : w2.cell? ⟨w.heap.size + 1, 2, none⟩ = some (.int .i64 r2) := row_cell F.s 2 rfl
  have s3 : w2.cell? ⟨w.heap.size + 1, 3, none⟩ = some (.int .i64 r3) := row_cell F.s 3 rfl
  have s4 : w2.cell? ⟨w.heap.size + 1, 4, none⟩ = some (.int .i64 r4) := row_cell F.s 4 rfl
  have s5 : w2.cell? ⟨w.heap.size + 1, 5, none⟩ = some (.int .i64 r5) := row_cell F.s 5 rfl
  have s6 : w2.cell? ⟨w.heap.size + 1, 6, none⟩ = some (.int .i64 r6) := row_cell F.s 6 rfl
  have s7 : w2.cell? ⟨w.heap.size + 1, 7, none⟩ = some (.int .i64 r7) := row_cell F.s 7 rfl
  have s8 : w2.cell? ⟨w.heap.size + 1, 8, none⟩ = some (.int .i64 d) := row_cell F.s 8 rfl
  have s9 : w2.cell? ⟨w.heap.size + 1, 9, none⟩ = some (.int .i64 n) := row_cell F.s 9 rfl
  have Fh := Lib.hid F
  clear F
  go_wp2_with fail
  refine (hst _).mono ?_
  rintro e w3 ⟨rfl, hr3⟩
  have F := Fh.out.below (hr3.below.mono Fh.out.sz)
  clear hst hr3 s0 s1 s2 s3 s4 s5 s6 s7 s8 s9 Fh
  have a0 : w3.cell? ⟨w.heap.size, 0, none⟩ = some (.slice v.pa v.pl v.pc) := row_cell F.a 0 rfl
  have a1 : w3.cell? ⟨w.heap.size, 1, none⟩ = some (.int .i64 W.self) := row_cell F.a 1 rfl
  have a2 : w3.cell? ⟨w.heap.size, 2, none⟩ = some (.slice v.la v.ll v.lc) := row_cell F.a 2 rfl
  have a3 : w3.cell? ⟨w.heap.size, 3, none⟩ = some (.int .u64 W.seed) := row_cell F.a 3 rfl
  have m0 : w3.cell? ⟨w.heap.size + 1 + 1, 0, none⟩ = some (.int .i64 t) := row_cell F.m 0 rfl
  have m1 : w3.cell? ⟨w.heap.size + 1 + 1, 1, none⟩ = some (.int .i64 f) := row_cell F.m 1 rfl
  have m2 : w3.cell? ⟨w.heap.size + 1 + 1, 2, none⟩ = some (.int .i64 q) := row_cell F.m 2 rfl
  have m3 : w3.cell? ⟨w.heap.size + 1 + 1, 3, none⟩ = some (.int .i64 to') := row_cell F.m 3 rfl
  have m4 : w3.cell? ⟨w.heap.size + 1 + 1, 4, none⟩ = some (.int .i64 vv) := row_cell F.m 4 rfl
  have m5 : w3.cell? ⟨w.heap.size + 1 + 1, 5, none⟩ = some (.int .i64 u) := row_cell F.m 5 rfl
  have m6 : w3.cell? ⟨w.heap.size + 1 + 1, 6, none⟩ = some (.bool an) := row_cell F.m 6 rfl
  have s8 : w3.cell? ⟨w.heap.size + 1, 8, none⟩ = some (.int .i64 d) := row_cell F.s 8 rfl
  have hsz := F.sz
  have Fh := Lib.hid F
  clear F
  have hmk := mk16
  have z0 : w.heap.size < w3.heap.size := by omega
  have z1 : w.heap.size + 1 < w3.heap.size := by omega
  have z2 : w.heap.size + 1 + 1 < w3.heap.size := by omega
  go_wp2_with fail
  go_region
  have hD4 : DM (w3.heap.size + 2) ((w3.alloc (.cells #[.int .i64 0, .int .i64 0, .int .i64 0, .int .i64 0, .int .i64 0, .int .i64 0, .int .i64 0, .int .i64 0, .int .i64 0, .int .i64 0, .int .i64 0, .int .i64 0, .int .i64 0, .int .i64 0, .int .i64 0, .int .i64 0] 2)).alloc (.cells #[.slice v.pa v.pl v.pc, .int .i64 W.self, .slice v.la v.ll v.lc, .int .u64 W.seed, .int .i64 t, .int .i64 f, .int .i64 q, .int .i64 to', .int .i64 vv, .int .i64 u, .bool an, .slice (some ⟨w3.heap.size, 0, none⟩) 16 16, .int .i64 d, .slice none 0 0, .int .i64 0] 74)).drew (w3.heap.size + 1) w3.heap.size v W ⟨⟨t, f, q⟩, to', vv, u, an⟩ (.slice none 0 0) ⟨midR [r0, r1, r2, r3, r4, r5, r6, r7] 0, d, [], 0⟩ := by
    refine ⟨by omega, by omega, by omega, by simp, ?_, ?_, rfl, World.ownsRow_nil _ _ _ _⟩
    · have := heap_alloc_new (w3.alloc (.cells #[.int .i64 0, .int .i64 0, .int .i64 0, .int .i64 0, .int .i64 0, .int .i64 0, .int .i64 0, .int .i64 0, .int .i64 0, .int .i64 0, .int .i64 0, .int .i64 0, .int .i64 0, .int .i64 0, .int .i64 0, .int .i64 0] 2)) (.cells (runC v W ⟨⟨t, f, q⟩, to', vv, u, an⟩ w3.heap.size (.slice none 0 0) ⟨midR [r0, r1, r2, r3, r4, r5, r6, r7] 0, d, [], 0⟩) 74)
      rw [World.size_alloc] at this
      exact this
    · exact (Below.heap_alloc _ _ _ (by simp)).trans (heap_alloc_new w3 _)
  have F4 := Fh.out.below (w2 := ((w3.alloc (.cells #[.int .i64 0, .int .i64 0, .int .i64 0, .int .i64 0, .int .i64 0, .int .i64 0, .int .i64 0, .int .i64 0, .int .i64 0, .int .i64 0, .int .i64 0, .int .i64 0, .int .i64 0, .int .i64 0, .int .i64 0, .int .i64 0] 2)).alloc (.cells #[.slice v.pa v.pl v.pc, .int .i64 W.self, .slice v.la v.ll v.lc, .int .u64 W.seed, .int .i64 t, .int .i64 f, .int .i64 q, .int .i64 to', .int .i64 vv, .int .i64 u, .bool an, .slice (some ⟨w3.heap.size, 0, none⟩) 16 16, .int .i64 d, .slice none 0 0, .int .i64 0] 74)).drew) (((((Below.refl w3.heap.size w3).alloc (Nat.le_refl _) _).alloc (by simp) _).drew).mono hsz)
  generalize ((w3.alloc (.cells #[.int .i64 0, .int .i64 0, .int .i64 0, .int .i64 0, .int .i64 0, .int .i64 0, .int .i64 0, .int .i64 0, .int .i64 0, .int .i64 0, .int .i64 0, .int .i64 0, .int .i64 0, .int .i64 0, .int .i64 0, .int .i64 0] 2)).alloc (.cells #[.slice v.pa v.pl v.pc, .int .i64 W.self, .slice v.la v.ll v.lc, .int .u64 W.seed, .int .i64 t, .int .i64 f, .int .i64 q, .int .i64 to', .int .i64 vv, .int .i64 u, .bool an, .slice (some ⟨w3.heap.size, 0, none⟩) 16 16, .int .i64 d, .slice none 0 0, .int .i64 0] 74)).drew = W4 at hD4 F4 ⊢
  clear a0 a1 a2 a3 m0 m1 m2 m3 m4 m5 m6 s8 hmk z0 z1 z2 Fh
  generalize hR : w3.heap.size = R at *
  clear hR
  have hD4' := Lib.hid hD4
  have F4' := Lib.hid F4
  clear hD4 F4
  go_wp2_with fail
  go_loopw [11] (fun i wr => ∃ k : Nat, k ≤ 8 ∧ i = .int .i64 k ∧ Aside (DM (R + 2) wr (R + 1) R v W ⟨⟨t, f, q⟩, to', vv, u, an⟩ (.slice none 0 0) ⟨midR [r0, r1, r2, r3, r4, r5, r6, r7] k, d, [], 0⟩ ∧ Four w wr _ _ _ _)) (fun i _ => 8 - (intOf i).toNat)
  case atStart => exact ⟨0, by omega, rfl, hD4'.out, F4'.out⟩
  case round =>
    clear hD4' F4'
    obtain ⟨k, hk, rfl, hDF⟩ := hrel
    by_cases hlt : k < 8
    · have e11 : wr.cell? ⟨R + 1, 11, none⟩ = some (.slice (some ⟨R, 0, none⟩) 16 16) := hDF.out.1.cell 11 rfl
      have ek := hDF.out.1.reg k (by omega)
      have fk := hDF.out.1.fr k
      have sk : wr.cell? ⟨w.heap.size + 1, k, none⟩ = some (.int .i64 ([r0, r1, r2, r3, r4, r5, r6, r7].getD k 0)) := row_cell hDF.out.2.s k (mid_cell k hlt)
      have k8 : (k : Int) < 8 := by omega
      have k16 : (k : Int) < 16 := by omega
      have hms := mid_step (r0 := r0) (r1 := r1) (r2 := r2) (r3 := r3) (r4 := r4) (r5 := r5) (r6 := r6) (r7 := r7) (d := d) k hlt
      have hms' := Lib.hid hms
      clear hms
      generalize [r0, r1, r2, r3, r4, r5, r6, r7].getD k 0 = z at sk hms'
      go_wp2_with fail
      go_region
      have hDF2 : Aside (DM (R + 2) (wr.setCell ⟨R, k, none⟩ (.int .i64 z)).drew (R + 1) R v W ⟨⟨t, f, q⟩, to', vv, u, an⟩ (.slice none 0 0) ⟨midR [r0, r1, r2, r3, r4, r5, r6, r7] (k + 1), d, [], 0⟩ ∧ Four w (wr.setCell ⟨R, k, none⟩ (.int .i64 z)).drew _ _ _ _) :=
        ⟨hms'.out ▸ (hDF.out.1.setR k (by omega) z).drew, hDF.out.2.below (((Below.refl (w.heap.size + 4) wr).setCell (p := ⟨R, k, none⟩) hsz (.int .i64 z)).drew)⟩
      have hDF2' := Lib.hid hDF2
      clear hDF2 e11 ek fk sk
      generalize (wr.setCell ⟨R, k, none⟩ (.int .i64 z)).drew = wr2 at hDF2' ⊢
      go_wp2
      go_roundw
      case rel => exact ⟨k + 1, by omega, by go_num, hDF2'.out⟩
      case measure => simp [intOf]; omega
    · have h8 : (k : Int) = 8 := by omega
      rw [h8]
      clear h8
      obtain rfl : k = 8 := by omega
      clear hlt hk
      have hinit : LoopI R w wr v W ⟨⟨t, f, q⟩, to', vv, u, an⟩ ⟨[r0, r1, r2, r3, r4, r5, r6, r7], d, n⟩ RES 0 (.cells #[.slice v.pa v.pl v.pc, .int .i64 W.self, .slice v.la v.ll v.lc, .int .u64 W.seed] 26) (.cells #[.int .i64 r0, .int .i64 r1, .int .i64 r2, .int .i64 r3, .int .i64 r4, .int .i64 r5, .int .i64 r6, .int .i64 r7, .int .i64 d, .int .i64 n] 29) (.cells #[.int .i64 t, .int .i64 f, .int .i64 q, .int .i64 to', .int .i64 vv, .int .i64 u, .bool an] 33) (.cells #[.int .i64 0, .int .i64 0, .int .i64 0, .int .i64 0, .int .i64 0, .int .i64 0, .int .i64 0, .int .i64 0, .int .i64 0, .int .i64 0] 29) :=
        ⟨_, _, hDF.out.1, hDF.out.2, ⟨by
          intro y hy
          simp only [midR, List.take, List.replicate, List.cons_append, List.nil_append, List.mem_cons, List.not_mem_nil, or_false] at hy
          have := hsR'.out
          simp only [List.mem_cons, List.not_mem_nil, or_false, forall_eq_or_imp, forall_eq] at this
          unfold In64 at this
          omega, Int.le_refl _, by simp⟩, Int.le_refl _, by show d ≤ d + ((0 : Nat) : Int); omega, hres'.out⟩
      have hinit' := Lib.hid hinit
      clear hinit hDF
      go_wp2_with fail
      go_loopw [12] (fun i wq => ∃ k : Nat, k ≤ 4096 ∧ i = .int .i64 k ∧ LoopI R w wq v W ⟨⟨t, f, q⟩, to', vv, u, an⟩ ⟨[r0, r1, r2, r3, r4, r5, r6, r7], d, n⟩ RES k _ _ _ _) (fun i _ => 4096 - (intOf i).toNat)
      case atStart => exact ⟨0, by omega, rfl, hinit'.out⟩
      case round =>
        clear hinit'
        obtain ⟨k, hk, rfl, hL⟩ := hrel
        obtain ⟨ov, m, hD, hF, hok, hda, hdb, hRES⟩ := hL
        have hpc0 := hok.pc
        obtain ⟨p, hp⟩ : ∃ p : Nat, m.pc = (p : Int) := ⟨m.pc.toNat, by omega⟩
        have hplen : W.prog.length = v.pl := (hwL.out).1.1
        have hplm : v.pl ≤ 9223372036854775807 := by have := hwL.out.1.2.1; have := hwL.out.1.2.2.1; unfold maxLen at *; omega
        have c14 : wr.cell? ⟨R + 1, 14, none⟩ = some (.int .i64 p) := hp ▸ hD.cell 14 rfl
        have a0 : wr.cell? ⟨w.heap.size, 0, none⟩ = some (.slice v.pa v.pl v.pc) := row_cell hF.a 0 rfl
        simp only at hda hdb
        by_cases hk4 : k < 4096
        · have hk4' : decide ((k : Int) < 4096) = true := by simp; omega
          by_cases hpl : p < v.pl
          · have hpl' : (p : Int) < (v.pl : Int) := by omega
            have hmay : mayB (W.prog.getD p default) W.prog.length = true := by
              exact checkN_mayAll (checkW_zero hcL.out).1 p (by omega)
            have hself : 0 ≤ W.self ∧ W.self < 16 := checkW_self hcL.out
            have hlinks : W.links.length ≤ 1024 := checkW_links hcL.out
            have htime : 0 ≤ t ∧ t ≤ 4611686018427387903 := chkM_time hmL.out
            have hstep := fun (w' : World) (hb : Below (w.heap.size + 4) wr w') (hD' : DM (R + 2) w' (R + 1) R v W ⟨⟨t, f, q⟩, to', vv, u, an⟩ ov m) =>
              step_any (b0 := w.heap.size + 4) hD' (fun w'' h'' => hwL.out.below (hF.b.trans ((hb.trans h'').mono (by omega)))) (by omega) hsz (by omega) p hp hpl hmay hlinks hok.o htime ⟨by omega, by omega⟩ hok.r
            have hstep' := Lib.hid hstep
            have hD' := Lib.hid hD
            have hF' := Lib.hid hF
            have hinv := fun (m' : Mc) (hg : stepP W ⟨⟨t, f, q⟩, to', vv, u, an⟩ (W.prog.getD p default) { m with pc := (p : Int) + 1 } = .on m' ∨ stepP W ⟨⟨t, f, q⟩, to', vv, u, an⟩ (W.prog.getD p default) { m with pc := (p : Int) + 1 } = .stop m') =>
              step_inv hmay (m := { m with pc := (p : Int) + 1 }) ⟨hok.r, by show 0 ≤ (p : Int) + 1; omega, hok.o⟩ hev (by unfold In64; simp only; omega) (by unfold In64; omega) hg
            have hgo := fun (r : Res) (hg : stepP W ⟨⟨t, f, q⟩, to', vv, u, an⟩ (W.prog.getD p default) { m with pc := (p : Int) + 1 } = r) =>
              (show stepP W ⟨⟨t, f, q⟩, to', vv, u, an⟩ (W.prog.getD m.pc.toNat default) { m with pc := m.pc + 1 } = r by rw [hp, Int.toNat_natCast]; exact hg)
            have hpcl : m.pc < (W.prog.length : Int) := by omega
            have hk1 : 4096 - k = (4096 - (k + 1)) + 1 := by omega
            rw [hk1] at hRES
            have hwr := Lib.hid hstep
            have hD' := Lib.hid hD
            have hF' := Lib.hid hF
            clear hstep hstep' hD hF hok hp hpc0 hk1
            cases hsr : stepP W ⟨⟨t, f, q⟩, to', vv, u, an⟩ (W.prog.getD p default) { m with pc := (p : Int) + 1 } with
            | on m' =>
              obtain ⟨hok2, hd2, hd3⟩ := hinv m' (.inl hsr)
              simp only at hd2 hd3
              rw [runP_on hpcl (hgo _ hsr)] at hRES
              have hL2 := Lib.hid (fun (A S Mo Z : Obj) (w6 : World) (ov' : Value) (h1 : DM (R + 2) w6 (R + 1) R v W ⟨⟨t, f, q⟩, to', vv, u, an⟩ ov' m') (h2 : Four w w6 A S Mo Z) =>
                (show LoopI R w w6 v W ⟨⟨t, f, q⟩, to', vv, u, an⟩ ⟨[r0, r1, r2, r3, r4, r5, r6, r7], d, n⟩ RES (k + 1) A S Mo Z from ⟨ov', m', h1, h2, hok2, by simp only; omega, by simp only; omega, hRES⟩))
              rw [hsr] at hwr
              clear hinv hgo hok2 hd2 hd3 hRES hpcl hmay hsr
              go_wp2_with fail
              go_quiet (fail)
              have hb5 := (Read.drew wr nq).below
              have hD5 := hD'.out.below hb5
              have hF5 := Lib.hid (hF'.out.below (hb5.mono hF'.out.sz))
              have hst5 := hwr.out (wr.drewN nq) (hb5.mono hF'.out.sz) hD5
              generalize wr.drewN nq = W5 at hst5 hF5 ⊢
              clear hb5 hD5 hwr hD' hF' c14 a0
              go_wp2_with fail
              refine hst5.mono ?_
              rintro e w6 ⟨rfl, ov', hD6, hB6⟩
              have hL6 := Lib.hid (hL2.out _ _ _ _ w6 ov' hD6 (hF5.out.below hB6))
              clear hst5 hD6 hB6 hL2 hF5
              go_wp2
              go_roundw
              case rel => exact ⟨k + 1, by omega, by go_num, hL6.out⟩
              case measure => simp [intOf]; omega
            | stop m' =>
              obtain ⟨hok2, hd2, hd3⟩ := hinv m' (.inr hsr)
              rw [runP_stop hpcl (hgo _ hsr)] at hRES
              have hot := hok2.o
              rw [hsr] at hwr
              clear hinv hgo hok2 hd2 hd3 hpcl hmay hsr
              go_wp2_with fail
              go_quiet (fail)
              have hb5 := (Read.drew wr nq).below
              have hD5 := hD'.out.below hb5
              have hF5 := Lib.hid (hF'.out.below (hb5.mono hF'.out.sz))
              have hst5 := hwr.out (wr.drewN nq) (hb5.mono hF'.out.sz) hD5
              generalize wr.drewN nq = W5 at hst5 hF5 ⊢
              clear hb5 hD5 hwr hD' hF' c14 a0
              go_wp2_with fail
              refine hst5.mono ?_
              rintro e w6 ⟨rfl, ov', hD6, hB6⟩
              have F6 := hF5.out.below hB6
              clear hst5 hB6 hF5 hda hdb
              obtain ⟨mr, md, mo, mp⟩ := m'
              obtain ⟨oa, oc, ho⟩ := own_slice hD6.own
              obtain ⟨y0, y1, y2, y3, y4, y5, y6, y7, y8, y9, ya, yb, yc, yd, ye, yf, hy⟩ := sixteen hD6.rl
              simp only at hy hot
              subst hy
              subst ho
              have hE : (⟨[y0, y1, y2, y3, y4, y5, y6, y7], md, n + (mo.length : Int)⟩, mo, 0) = RES := hRES
              subst hE
              have e12 : w6.cell? ⟨R + 1, 12, none⟩ = some (.int .i64 md) := hD6.cell 12 rfl
              have e13 : w6.cell? ⟨R + 1, 13, none⟩ = some (.slice oa mo.length oc) := hD6.cell 13 rfl
              have s9 : w6.cell? ⟨w.heap.size + 1, 9, none⟩ = some (.int .i64 n) := row_cell F6.s 9 rfl
              have hwr9 : IntKind.i64.wrap (n + (mo.length : Int)) = n + (mo.length : Int) := IntWalk.i64_in _ (by omega)
              have hTb : R + 2 ≤ w6.heap.size := hD6.hb
              have hTx : R + 1 < w6.heap.size := by omega
              have hTs : w.heap.size + 1 < w6.heap.size := by have := F6.sz; omega
              have hne : (Value.slice oa mo.length oc).ownBlock ≠ some w6.heap.size := by
                intro e
                have := (hD6.own.lt _ e).2
                omega
              have hDz := Lib.hid hD6
              have hFz := Lib.hid F6
              clear hD6 F6 hRES
              go_wp2_with fail
              go_region_held3 (fun w' => w'.cell? ⟨R + 1, 12, none⟩ = some (.int .i64 md) ∧ w'.cell? ⟨w.heap.size + 1, 9, none⟩ = some (.int .i64 n) ∧ w'.cell? ⟨R + 1, 13, none⟩ = some (.slice oa mo.length oc))
                (first | exact ⟨e12, s9, e13⟩ | exact ⟨Lib.cell?_alloc_some _ e12, Lib.cell?_alloc_some _ s9, Lib.cell?_alloc_some _ e13⟩ | go_keep)
                (fail)
              rename_i hHeld
              clear hHeld
              have hDa := (hDz.out.alloc (.cells #[.int .i64 0, .int .i64 0, .int .i64 0, .int .i64 0, .int .i64 0, .int .i64 0, .int .i64 0, .int .i64 0, .int .i64 md, .int .i64 (n + (mo.length : Int))] 29)).drew
              have hFa := hFz.out.below (w2 := (w6.alloc (.cells #[.int .i64 0, .int .i64 0, .int .i64 0, .int .i64 0, .int .i64 0, .int .i64 0, .int .i64 0, .int .i64 0, .int .i64 md, .int .i64 (n + (mo.length : Int))] 29)).drew) ((((Below.refl _ w6).alloc (Nat.le_refl _) _).drew).mono hFz.out.sz)
              have hTa : (w6.alloc (.cells #[.int .i64 0, .int .i64 0, .int .i64 0, .int .i64 0, .int .i64 0, .int .i64 0, .int .i64 0, .int .i64 0, .int .i64 md, .int .i64 (n + (mo.length : Int))] 29)).drew.heap[w6.heap.size]? = some (.cells (tC [y0, y1, y2, y3, y4, y5, y6, y7, y8, y9, ya, yb, yc, yd, ye, yf] 0 md (n + (mo.length : Int))) 29 (0, 0)) := heap_alloc_new w6 _
              generalize (w6.alloc (.cells #[.int .i64 0, .int .i64 0, .int .i64 0, .int .i64 0, .int .i64 0, .int .i64 0, .int .i64 0, .int .i64 0, .int .i64 md, .int .i64 (n + (mo.length : Int))] 29)).drew = Wa at hDa hFa hTa ⊢
              generalize w6.heap.size = T at *
              have hin := Lib.hid (And.intro hDa (And.intro hFa hTa))
              clear hDa hFa hTa e12 e13 s9 hwr9 hDz hFz
              go_wp2_with fail
              go_loopw [16] (fun i wr => ∃ k : Nat, k ≤ 8 ∧ i = .int .i64 k ∧ Aside (DM (R + 2) wr (R + 1) R v W ⟨⟨t, f, q⟩, to', vv, u, an⟩ (.slice oa mo.length oc) ⟨[y0, y1, y2, y3, y4, y5, y6, y7, y8, y9, ya, yb, yc, yd, ye, yf], md, mo, mp⟩ ∧ Four w wr _ _ _ _ ∧ wr.heap[T]? = some (.cells (tC [y0, y1, y2, y3, y4, y5, y6, y7, y8, y9, ya, yb, yc, yd, ye, yf] k md (n + (mo.length : Int))) 29 (0, 0)))) (fun i _ => 8 - (intOf i).toNat)
              case atStart => exact ⟨0, by omega, rfl, hin.out⟩
              case round =>
                clear hin
                obtain ⟨kt, hkt, rfl, hX⟩ := hrel
                by_cases hltt : kt < 8
                · have e11 : wr.cell? ⟨R + 1, 11, none⟩ = some (.slice (some ⟨R, 0, none⟩) 16 16) := hX.out.1.cell 11 rfl
                  have ek : wr.cell? ⟨R, kt, none⟩ = some (.int .i64 ([y0, y1, y2, y3, y4, y5, y6, y7, y8, y9, ya, yb, yc, yd, ye, yf].getD kt 0)) := by have := hX.out.1.reg kt (by omega); simpa only [Mc.reg, Int.toNat_natCast] using this
                  have tk := row_cell hX.out.2.2 kt (tC_step kt hltt).2
                  have fk : wr.frozen? ⟨T, kt, none⟩ = false := by simp [World.frozen?, hX.out.2.2]
                  have k8 : (kt : Int) < 8 := by omega
                  have k16 : (kt : Int) < 16 := by omega
                  have hX2 := Lib.hid (And.intro (hX.out.1.far hTb hne kt (.int .i64 ([y0, y1, y2, y3, y4, y5, y6, y7, y8, y9, ya, yb, yc, yd, ye, yf].getD kt 0))) (And.intro (hX.out.2.1.below ((Below.refl (w.heap.size + 4) wr).setCell (p := ⟨T, kt, none⟩) (by simp only; omega) (.int .i64 ([y0, y1, y2, y3, y4, y5, y6, y7, y8, y9, ya, yb, yc, yd, ye, yf].getD kt 0)))) ((tC_step kt hltt).1 ▸ heap_set (j := kt) (u := .int .i64 ([y0, y1, y2, y3, y4, y5, y6, y7, y8, y9, ya, yb, yc, yd, ye, yf].getD kt 0)) hX.out.2.2)))
                  generalize [y0, y1, y2, y3, y4, y5, y6, y7, y8, y9, ya, yb, yc, yd, ye, yf].getD kt 0 = zt at ek hX2
                  go_wp2
                  generalize wr.setCell ⟨T, kt, none⟩ (.int .i64 zt) = wr2 at hX2 ⊢
                  clear e11 ek tk fk k8 k16
                  go_wp2
                  go_roundw
                  case rel => exact ⟨kt + 1, by omega, by go_num, hX2.out⟩
                  case measure => simp [intOf]; omega
                · obtain rfl : kt = 8 := by omega
                  clear hltt hkt
                  have hXd := Lib.hid (And.intro hX.out.1 (And.intro hX.out.2.1 hX.out.2.2))
                  have e13 : wr.cell? ⟨R + 1, 13, none⟩ = some (.slice oa mo.length oc) := hXd.out.1.cell 13 rfl
                  have hz := hXd.out.2.1.z
                  have t0 : wr.cell? ⟨T, 0, none⟩ = some (.int .i64 y0) := row_cell hXd.out.2.2 0 rfl
                  have t1 : wr.cell? ⟨T, 1, none⟩ = some (.int .i64 y1) := row_cell hXd.out.2.2 1 rfl
                  have t2 : wr.cell? ⟨T, 2, none⟩ = some (.int .i64 y2) := row_cell hXd.out.2.2 2 rfl
                  have t3 : wr.cell? ⟨T, 3, none⟩ = some (.int .i64 y3) := row_cell hXd.out.2.2 3 rfl
                  have t4 : wr.cell? ⟨T, 4, none⟩ = some (.int .i64 y4) := row_cell hXd.out.2.2 4 rfl
                  have t5 : wr.cell? ⟨T, 5, none⟩ = some (.int .i64 y5) := row_cell hXd.out.2.2 5 rfl
                  have t6 : wr.cell? ⟨T, 6, none⟩ = some (.int .i64 y6) := row_cell hXd.out.2.2 6 rfl
                  have t7 : wr.cell? ⟨T, 7, none⟩ = some (.int .i64 y7) := row_cell hXd.out.2.2 7 rfl
                  have t8 : wr.cell? ⟨T, 8, none⟩ = some (.int .i64 md) := row_cell hXd.out.2.2 8 rfl
                  have t9 : wr.cell? ⟨T, 9, none⟩ = some (.int .i64 (n + (mo.length : Int))) := row_cell hXd.out.2.2 9 rfl
                  go_wp2_with fail
                  clear hX
                  have e13d : wr.drew.cell? ⟨R + 1, 13, none⟩ = some (.slice oa mo.length oc) := e13
                  have td0 : wr.drew.cell? ⟨T, 0, none⟩ = some (.int .i64 y0) := t0
                  have td1 : wr.drew.cell? ⟨T, 1, none⟩ = some (.int .i64 y1) := t1
                  have td2 : wr.drew.cell? ⟨T, 2, none⟩ = some (.int .i64 y2) := t2
                  have td3 : wr.drew.cell? ⟨T, 3, none⟩ = some (.int .i64 y3) := t3
                  have td4 : wr.drew.cell? ⟨T, 4, none⟩ = some (.int .i64 y4) := t4
                  have td5 : wr.drew.cell? ⟨T, 5, none⟩ = some (.int .i64 y5) := t5
                  have td6 : wr.drew.cell? ⟨T, 6, none⟩ = some (.int .i64 y6) := t6
                  have td7 : wr.drew.cell? ⟨T, 7, none⟩ = some (.int .i64 y7) := t7
                  have td8 : wr.drew.cell? ⟨T, 8, none⟩ = some (.int .i64 md) := t8
                  have td9 : wr.drew.cell? ⟨T, 9, none⟩ = some (.int .i64 (n + (mo.length : Int))) := t9
                  have hnz1 : R + 1 ≠ w.heap.size + 1 + 1 + 1 := by omega
                  have hnz2 : T ≠ w.heap.size + 1 + 1 + 1 := by omega
                  have zc0 : wr.cell? ⟨w.heap.size + 1 + 1 + 1, 0, none⟩ = some (.int .i64 0) := row_cell hz 0 rfl
                  have zf0 : wr.frozen? ⟨w.heap.size + 1 + 1 + 1, 0, none⟩ = false := by simp [World.frozen?, hz]
                  have zc1 : wr.cell? ⟨w.heap.size + 1 + 1 + 1, 1, none⟩ = some (.int .i64 0) := row_cell hz 1 rfl
                  have zf1 : wr.frozen? ⟨w.heap.size + 1 + 1 + 1, 1, none⟩ = false := by simp [World.frozen?, hz]
                  have zc2 : wr.cell? ⟨w.heap.size + 1 + 1 + 1, 2, none⟩ = some (.int .i64 0) := row_cell hz 2 rfl
                  have zf2 : wr.frozen? ⟨w.heap.size + 1 + 1 + 1, 2, none⟩ = false := by simp [World.frozen?, hz]
                  have zc3 : wr.cell? ⟨w.heap.size + 1 + 1 + 1, 3, none⟩ = some (.int .i64 0) := row_cell hz 3 rfl
                  have zf3 : wr.frozen? ⟨w.heap.size + 1 + 1 + 1, 3, none⟩ = false := by simp [World.frozen?, hz]
                  have zc4 : wr.cell? ⟨w.heap.size + 1 + 1 + 1, 4, none⟩ = some (.int .i64 0) := row_cell hz 4 rfl
                  have zf4 : wr.frozen? ⟨w.heap.size + 1 + 1 + 1, 4, none⟩ = false := by simp [World.frozen?, hz]
                  have zc5 : wr.cell? ⟨w.heap.size + 1 + 1 + 1, 5, none⟩ = some (.int .i64 0) := row_cell hz 5 rfl
                  have zf5 : wr.frozen? ⟨w.heap.size + 1 + 1 + 1, 5, none⟩ = false := by simp [World.frozen?, hz]
                  have zc6 : wr.cell? ⟨w.heap.size + 1 + 1 + 1, 6, none⟩ = some (.int .i64 0) := row_cell hz 6 rfl
                  have zf6 : wr.frozen? ⟨w.heap.size + 1 + 1 + 1, 6, none⟩ = false := by simp [World.frozen?, hz]
                  have zc7 : wr.cell? ⟨w.heap.size + 1 + 1 + 1, 7, none⟩ = some (.int .i64 0) := row_cell hz 7 rfl
                  have zf7 : wr.frozen? ⟨w.heap.size + 1 + 1 + 1, 7, none⟩ = false := by simp [World.frozen?, hz]
                  have zc8 : wr.cell? ⟨w.heap.size + 1 + 1 + 1, 8, none⟩ = some (.int .i64 0) := row_cell hz 8 rfl
                  have zf8 : wr.frozen? ⟨w.heap.size + 1 + 1 + 1, 8, none⟩ = false := by simp [World.frozen?, hz]
                  have zc9 : wr.cell? ⟨w.heap.size + 1 + 1 + 1, 9, none⟩ = some (.int .i64 0) := row_cell hz 9 rfl
                  have zf9 : wr.frozen? ⟨w.heap.size + 1 + 1 + 1, 9, none⟩ = false := by simp [World.frozen?, hz]
                  clear hz
                  go_region_held3 (fun w' => w'.cell? ⟨R + 1, 13, none⟩ = some (.slice oa mo.length oc) ∧ w'.cell? ⟨T, 0, none⟩ = some (.int .i64 y0) ∧ w'.cell? ⟨T, 1, none⟩ = some (.int .i64 y1) ∧ w'.cell? ⟨T, 2, none⟩ = some (.int .i64 y2) ∧ w'.cell? ⟨T, 3, none⟩ = some (.int .i64 y3) ∧ w'.cell? ⟨T, 4, none⟩ = some (.int .i64 y4) ∧ w'.cell? ⟨T, 5, none⟩ = some (.int .i64 y5) ∧ w'.cell? ⟨T, 6, none⟩ = some (.int .i64 y6) ∧ w'.cell? ⟨T, 7, none⟩ = some (.int .i64 y7) ∧ w'.cell? ⟨T, 8, none⟩ = some (.int .i64 md) ∧ w'.cell? ⟨T, 9, none⟩ = some (.int .i64 (n + (mo.length : Int))))
                    (first | with_reducible exact ⟨e13, t0, t1, t2, t3, t4, t5, t6, t7, t8, t9⟩ | with_reducible exact ⟨e13d, td0, td1, td2, td3, td4, td5, td6, td7, td8, td9⟩ | with_reducible exact ⟨(far10 hnz1).trans e13, (far10 hnz2).trans t0, (far10 hnz2).trans t1, (far10 hnz2).trans t2, (far10 hnz2).trans t3, (far10 hnz2).trans t4, (far10 hnz2).trans t5, (far10 hnz2).trans t6, (far10 hnz2).trans t7, (far10 hnz2).trans t8, (far10 hnz2).trans t9⟩ | with_reducible exact ⟨(far10d hnz1).trans e13, (far10d hnz2).trans t0, (far10d hnz2).trans t1, (far10d hnz2).trans t2, (far10d hnz2).trans t3, (far10d hnz2).trans t4, (far10d hnz2).trans t5, (far10d hnz2).trans t6, (far10d hnz2).trans t7, (far10d hnz2).trans t8, (far10d hnz2).trans t9⟩)
                    (fail)
                  rename_i hHeld
                  have hz2 : ((((((((((wr.setCell ⟨w.heap.size + 1 + 1 + 1, 0, none⟩ (.int .i64 y0)).setCell ⟨w.heap.size + 1 + 1 + 1, 1, none⟩ (.int .i64 y1)).setCell ⟨w.heap.size + 1 + 1 + 1, 2, none⟩ (.int .i64 y2)).setCell ⟨w.heap.size + 1 + 1 + 1, 3, none⟩ (.int .i64 y3)).setCell ⟨w.heap.size + 1 + 1 + 1, 4, none⟩ (.int .i64 y4)).setCell ⟨w.heap.size + 1 + 1 + 1, 5, none⟩ (.int .i64 y5)).setCell ⟨w.heap.size + 1 + 1 + 1, 6, none⟩ (.int .i64 y6)).setCell ⟨w.heap.size + 1 + 1 + 1, 7, none⟩ (.int .i64 y7)).setCell ⟨w.heap.size + 1 + 1 + 1, 8, none⟩ (.int .i64 md)).setCell ⟨w.heap.size + 1 + 1 + 1, 9, none⟩ (.int .i64 (n + (mo.length : Int)))).drew.heap[w.heap.size + 1 + 1 + 1]? = _ := (heap_drew _ _).trans (heap10 hXd.out.2.1.z)
                  have hB : Hid (Below w.heap.size w ((((((((((wr.setCell ⟨w.heap.size + 1 + 1 + 1, 0, none⟩ (.int .i64 y0)).setCell ⟨w.heap.size + 1 + 1 + 1, 1, none⟩ (.int .i64 y1)).setCell ⟨w.heap.size + 1 + 1 + 1, 2, none⟩ (.int .i64 y2)).setCell ⟨w.heap.size + 1 + 1 + 1, 3, none⟩ (.int .i64 y3)).setCell ⟨w.heap.size + 1 + 1 + 1, 4, none⟩ (.int .i64 y4)).setCell ⟨w.heap.size + 1 + 1 + 1, 5, none⟩ (.int .i64 y5)).setCell ⟨w.heap.size + 1 + 1 + 1, 6, none⟩ (.int .i64 y6)).setCell ⟨w.heap.size + 1 + 1 + 1, 7, none⟩ (.int .i64 y7)).setCell ⟨w.heap.size + 1 + 1 + 1, 8, none⟩ (.int .i64 md)).setCell ⟨w.heap.size + 1 + 1 + 1, 9, none⟩ (.int .i64 (n + (mo.length : Int)))).drew) := Lib.hid (below10 hXd.out.2.1.b (g := w.heap.size + 1 + 1 + 1) (by omega)).drew
                  have hO : Hid (Ots ((((((((((wr.setCell ⟨w.heap.size + 1 + 1 + 1, 0, none⟩ (.int .i64 y0)).setCell ⟨w.heap.size + 1 + 1 + 1, 1, none⟩ (.int .i64 y1)).setCell ⟨w.heap.size + 1 + 1 + 1, 2, none⟩ (.int .i64 y2)).setCell ⟨w.heap.size + 1 + 1 + 1, 3, none⟩ (.int .i64 y3)).setCell ⟨w.heap.size + 1 + 1 + 1, 4, none⟩ (.int .i64 y4)).setCell ⟨w.heap.size + 1 + 1 + 1, 5, none⟩ (.int .i64 y5)).setCell ⟨w.heap.size + 1 + 1 + 1, 6, none⟩ (.int .i64 y6)).setCell ⟨w.heap.size + 1 + 1 + 1, 7, none⟩ (.int .i64 y7)).setCell ⟨w.heap.size + 1 + 1 + 1, 8, none⟩ (.int .i64 md)).setCell ⟨w.heap.size + 1 + 1 + 1, 9, none⟩ (.int .i64 (n + (mo.length : Int)))).drew oa mo.length oc mo) := Lib.hid (ots_own (own10 hXd.out.1.own (g := w.heap.size + 1 + 1 + 1) (by omega)).drew)
                  clear hHeld hXd hnz1 hnz2 e13d td0 td1 td2 td3 td4 td5 td6 td7 td8 td9 e13 t0 t1 t2 t3 t4 t5 t6 t7 t8 t9 zc0 zf0 zc1 zf1 zc2 zf2 zc3 zf3 zc4 zf4 zc5 zf5 zc6 zf6 zc7 zf7 zc8 zf8 zc9 zf9
                  generalize ((((((((((wr.setCell ⟨w.heap.size + 1 + 1 + 1, 0, none⟩ (.int .i64 y0)).setCell ⟨w.heap.size + 1 + 1 + 1, 1, none⟩ (.int .i64 y1)).setCell ⟨w.heap.size + 1 + 1 + 1, 2, none⟩ (.int .i64 y2)).setCell ⟨w.heap.size + 1 + 1 + 1, 3, none⟩ (.int .i64 y3)).setCell ⟨w.heap.size + 1 + 1 + 1, 4, none⟩ (.int .i64 y4)).setCell ⟨w.heap.size + 1 + 1 + 1, 5, none⟩ (.int .i64 y5)).setCell ⟨w.heap.size + 1 + 1 + 1, 6, none⟩ (.int .i64 y6)).setCell ⟨w.heap.size + 1 + 1 + 1, 7, none⟩ (.int .i64 y7)).setCell ⟨w.heap.size + 1 + 1 + 1, 8, none⟩ (.int .i64 md)).setCell ⟨w.heap.size + 1 + 1 + 1, 9, none⟩ (.int .i64 (n + (mo.length : Int)))).drew = W9 at hz2 hB hO ⊢
                  have q0 : W9.cell? ⟨w.heap.size + 1 + 1 + 1, 0, none⟩ = some (.int .i64 y0) := row_cell hz2 0 rfl
                  have q1 : W9.cell? ⟨w.heap.size + 1 + 1 + 1, 1, none⟩ = some (.int .i64 y1) := row_cell hz2 1 rfl
                  have q2 : W9.cell? ⟨w.heap.size + 1 + 1 + 1, 2, none⟩ = some (.int .i64 y2) := row_cell hz2 2 rfl
                  have q3 : W9.cell? ⟨w.heap.size + 1 + 1 + 1, 3, none⟩ = some (.int .i64 y3) := row_cell hz2 3 rfl
                  have q4 : W9.cell? ⟨w.heap.size + 1 + 1 + 1, 4, none⟩ = some (.int .i64 y4) := row_cell hz2 4 rfl
                  have q5 : W9.cell? ⟨w.heap.size + 1 + 1 + 1, 5, none⟩ = some (.int .i64 y5) := row_cell hz2 5 rfl
                  have q6 : W9.cell? ⟨w.heap.size + 1 + 1 + 1, 6, none⟩ = some (.int .i64 y6) := row_cell hz2 6 rfl
                  have q7 : W9.cell? ⟨w.heap.size + 1 + 1 + 1, 7, none⟩ = some (.int .i64 y7) := row_cell hz2 7 rfl
                  have q8 : W9.cell? ⟨w.heap.size + 1 + 1 + 1, 8, none⟩ = some (.int .i64 md) := row_cell hz2 8 rfl
                  have q9 : W9.cell? ⟨w.heap.size + 1 + 1 + 1, 9, none⟩ = some (.int .i64 (n + (mo.length : Int))) := row_cell hz2 9 rfl
                  clear hz2
                  go_wp2_with fail
                  exact bodyPost_ret (v := .tuple #[.agg (st10 y0 y1 y2 y3 y4 y5 y6 y7 md (n + (mo.length : Int))), .slice oa mo.length oc, .int .i64 0]) (by simp [results, Tryd.results12, go_sem, st10, q0, q1, q2, q3, q4, q5, q6, q7, q8, q9]) rfl ⟨oa, oc, rfl, hO.out, hB.out⟩
            | fault ee =>
              rw [runP_fault hpcl (hgo _ hsr)] at hRES
              have hRES' : (⟨[r0, r1, r2, r3, r4, r5, r6, r7], d, n⟩, [], ee) = RES := hRES
              subst hRES'
              rw [hsr] at hwr
              clear hinv hgo hRES hpcl hmay hsr
              go_wp2_with fail
              go_quiet (fail)
              have hb5 := (Read.drew wr nq).below
              have hD5 := hD'.out.below hb5
              have hF5 := Lib.hid (hF'.out.below (hb5.mono hF'.out.sz))
              have hst5 := hwr.out (wr.drewN nq) (hb5.mono hF'.out.sz) hD5
              generalize wr.drewN nq = W5 at hst5 hF5 ⊢
              clear hb5 hD5 hwr hD' hF' c14 a0
              go_wp2_with fail
              refine hst5.mono ?_
              rintro e w6 ⟨rfl, he0, hB6⟩
              have F6 := hF5.out.below hB6
              have he1 : (ee == 0) = false := by simpa using he0
              clear hst5 hB6 hF5 he0
              have s0 : w6.cell? ⟨w.heap.size + 1, 0, none⟩ = some (.int .i64 r0) := row_cell F6.s 0 rfl
              have s1 : w6.cell? ⟨w.heap.size + 1, 1, none⟩ = some (.int .i64 r1) := row_cell F6.s 1 rfl
              have s2 : w6.cell? ⟨w.heap.size + 1, 2, none⟩ = some (.int .i64 r2) := row_cell F6.s 2 rfl
              have s3 : w6.cell? ⟨w.heap.size + 1, 3, none⟩ = some (.int .i64 r3) := row_cell F6.s 3 rfl
              have s4 : w6.cell? ⟨w.heap.size + 1, 4, none⟩ = some (.int .i64 r4) := row_cell F6.s 4 rfl
              have s5 : w6.cell? ⟨w.heap.size + 1, 5, none⟩ = some (.int .i64 r5) := row_cell F6.s 5 rfl
              have s6 : w6.cell? ⟨w.heap.size + 1, 6, none⟩ = some (.int .i64 r6) := row_cell F6.s 6 rfl
              have s7 : w6.cell? ⟨w.heap.size + 1, 7, none⟩ = some (.int .i64 r7) := row_cell F6.s 7 rfl
              have s8 : w6.cell? ⟨w.heap.size + 1, 8, none⟩ = some (.int .i64 d) := row_cell F6.s 8 rfl
              have s9 : w6.cell? ⟨w.heap.size + 1, 9, none⟩ = some (.int .i64 n) := row_cell F6.s 9 rfl
              have F6' := Lib.hid F6
              have hz := F6.z
              clear F6
              go_wp2_with (refine wpList_store_row rfl 29 (.tmp 6) (.tmp 74) rfl (w.heap.size + 1 + 1 + 1) (st10 r0 r1 r2 r3 r4 r5 r6 r7 d n) rfl rfl 29 (st10 0 0 0 0 0 0 0 0 0 0) hz infoSt rfl (st10_one _ _ _ _ _ _ _ _ _ _) ?_)
              have hz2 := setRow_heap (new := (st10 r0 r1 r2 r3 r4 r5 r6 r7 d n)) hz
              have hB := Lib.hid (below_row F6'.out.b (g := w.heap.size + 1 + 1 + 1) (by omega) (st10 r0 r1 r2 r3 r4 r5 r6 r7 d n))
              have q0 : (w6.setRow (w.heap.size + 1 + 1 + 1) (st10 r0 r1 r2 r3 r4 r5 r6 r7 d n)).cell? ⟨w.heap.size + 1 + 1 + 1, 0, none⟩ = some (.int .i64 r0) := row_cell hz2 0 rfl
              have q1 : (w6.setRow (w.heap.size + 1 + 1 + 1) (st10 r0 r1 r2 r3 r4 r5 r6 r7 d n)).cell? ⟨w.heap.size + 1 + 1 + 1, 1, none⟩ = some (.int .i64 r1) := row_cell hz2 1 rfl
              have q2 : (w6.setRow (w.heap.size + 1 + 1 + 1) (st10 r0 r1 r2 r3 r4 r5 r6 r7 d n)).cell? ⟨w.heap.size + 1 + 1 + 1, 2, none⟩ = some (.int .i64 r2) := row_cell hz2 2 rfl
              have q3 : (w6.setRow (w.heap.size + 1 + 1 + 1) (st10 r0 r1 r2 r3 r4 r5 r6 r7 d n)).cell? ⟨w.heap.size + 1 + 1 + 1, 3, none⟩ = some (.int .i64 r3) := row_cell hz2 3 rfl
              have q4 : (w6.setRow (w.heap.size + 1 + 1 + 1) (st10 r0 r1 r2 r3 r4 r5 r6 r7 d n)).cell? ⟨w.heap.size + 1 + 1 + 1, 4, none⟩ = some (.int .i64 r4) := row_cell hz2 4 rfl
              have q5 : (w6.setRow (w.heap.size + 1 + 1 + 1) (st10 r0 r1 r2 r3 r4 r5 r6 r7 d n)).cell? ⟨w.heap.size + 1 + 1 + 1, 5, none⟩ = some (.int .i64 r5) := row_cell hz2 5 rfl
              have q6 : (w6.setRow (w.heap.size + 1 + 1 + 1) (st10 r0 r1 r2 r3 r4 r5 r6 r7 d n)).cell? ⟨w.heap.size + 1 + 1 + 1, 6, none⟩ = some (.int .i64 r6) := row_cell hz2 6 rfl
              have q7 : (w6.setRow (w.heap.size + 1 + 1 + 1) (st10 r0 r1 r2 r3 r4 r5 r6 r7 d n)).cell? ⟨w.heap.size + 1 + 1 + 1, 7, none⟩ = some (.int .i64 r7) := row_cell hz2 7 rfl
              have q8 : (w6.setRow (w.heap.size + 1 + 1 + 1) (st10 r0 r1 r2 r3 r4 r5 r6 r7 d n)).cell? ⟨w.heap.size + 1 + 1 + 1, 8, none⟩ = some (.int .i64 d) := row_cell hz2 8 rfl
              have q9 : (w6.setRow (w.heap.size + 1 + 1 + 1) (st10 r0 r1 r2 r3 r4 r5 r6 r7 d n)).cell? ⟨w.heap.size + 1 + 1 + 1, 9, none⟩ = some (.int .i64 n) := row_cell hz2 9 rfl
              clear hz2
              generalize w6.setRow (w.heap.size + 1 + 1 + 1) (st10 r0 r1 r2 r3 r4 r5 r6 r7 d n) = W7 at *
              exact bodyPost_ret (v := .tuple #[.agg (st10 r0 r1 r2 r3 r4 r5 r6 r7 d n), .slice none 0 0, .int .i64 ee]) (by simp [results, Tryd.results12, go_sem, st10, q0, q1, q2, q3, q4, q5, q6, q7, q8, q9]) rfl ⟨none, 0, rfl, Ots.nil _, hB.out⟩
          · have hpl' : decide ((p : Int) < (v.pl : Int)) = false := by simp; omega
            rw [runP_end (by omega)] at hRES
            have hot := hok.o
            have hD' := Lib.hid hD
            have hF' := Lib.hid hF
            clear hD hF hok hp hpc0 hplen hplm hda hdb
            go_wp2_with fail
            go_quiet (fail)
            have hb5 := (Read.drew wr nq).below
            have hD5 := hD'.out.below hb5
            have F5 := hF'.out.below (hb5.mono hF'.out.sz)
            generalize wr.drewN nq = W5 at hD5 F5 ⊢
            clear hb5 hD' hF' c14 a0
            obtain ⟨mr, md, mo, mp⟩ := m
            obtain ⟨oa, oc, ho⟩ := own_slice hD5.own
            obtain ⟨y0, y1, y2, y3, y4, y5, y6, y7, y8, y9, ya, yb, yc, yd, ye, yf, hy⟩ := sixteen hD5.rl
            simp only at hy hot
            subst hy
            subst ho
            have hE : (⟨[y0, y1, y2, y3, y4, y5, y6, y7], md, n + (mo.length : Int)⟩, mo, 0) = RES := hRES
            subst hE
            have e12 : W5.cell? ⟨R + 1, 12, none⟩ = some (.int .i64 md) := hD5.cell 12 rfl
            have e13 : W5.cell? ⟨R + 1, 13, none⟩ = some (.slice oa mo.length oc) := hD5.cell 13 rfl
            have s9 : W5.cell? ⟨w.heap.size + 1, 9, none⟩ = some (.int .i64 n) := row_cell F5.s 9 rfl
            have hwr9 : IntKind.i64.wrap (n + (mo.length : Int)) = n + (mo.length : Int) := IntWalk.i64_in _ (by omega)
            have hTb : R + 2 ≤ W5.heap.size := hD5.hb
            have hTx : R + 1 < W5.heap.size := by omega
            have hTs : w.heap.size + 1 < W5.heap.size := by have := F5.sz; omega
            have hne : (Value.slice oa mo.length oc).ownBlock ≠ some W5.heap.size := by
              intro e
              have := (hD5.own.lt _ e).2
              omega
            have hDz := Lib.hid hD5
            have hFz := Lib.hid F5
            clear hD5 F5 hRES
            go_wp2_with fail
            go_region_held3 (fun w' => w'.cell? ⟨R + 1, 12, none⟩ = some (.int .i64 md) ∧ w'.cell? ⟨w.heap.size + 1, 9, none⟩ = some (.int .i64 n) ∧ w'.cell? ⟨R + 1, 13, none⟩ = some (.slice oa mo.length oc))
              (first | exact ⟨e12, s9, e13⟩ | exact ⟨Lib.cell?_alloc_some _ e12, Lib.cell?_alloc_some _ s9, Lib.cell?_alloc_some _ e13⟩ | go_keep)
              (fail)
            rename_i hHeld
            clear hHeld
            have hDa := (hDz.out.alloc (.cells #[.int .i64 0, .int .i64 0, .int .i64 0, .int .i64 0, .int .i64 0, .int .i64 0, .int .i64 0, .int .i64 0, .int .i64 md, .int .i64 (n + (mo.length : Int))] 29)).drew
            have hFa := hFz.out.below (w2 := (W5.alloc (.cells #[.int .i64 0, .int .i64 0, .int .i64 0, .int .i64 0, .int .i64 0, .int .i64 0, .int .i64 0, .int .i64 0, .int .i64 md, .int .i64 (n + (mo.length : Int))] 29)).drew) ((((Below.refl _ W5).alloc (Nat.le_refl _) _).drew).mono hFz.out.sz)
            have hTa : (W5.alloc (.cells #[.int .i64 0, .int .i64 0, .int .i64 0, .int .i64 0, .int .i64 0, .int .i64 0, .int .i64 0, .int .i64 0, .int .i64 md, .int .i64 (n + (mo.length : Int))] 29)).drew.heap[W5.heap.size]? = some (.cells (tC [y0, y1, y2, y3, y4, y5, y6, y7, y8, y9, ya, yb, yc, yd, ye, yf] 0 md (n + (mo.length : Int))) 29 (0, 0)) := heap_alloc_new W5 _
            generalize (W5.alloc (.cells #[.int .i64 0, .int .i64 0, .int .i64 0, .int .i64 0, .int .i64 0, .int .i64 0, .int .i64 0, .int .i64 0, .int .i64 md, .int .i64 (n + (mo.length : Int))] 29)).drew = Wa at hDa hFa hTa ⊢
            generalize W5.heap.size = T at *
            have hin := Lib.hid (And.intro hDa (And.intro hFa hTa))
            clear hDa hFa hTa e12 e13 s9 hwr9 hDz hFz
            go_wp2_with fail
            go_loopw [16] (fun i wr => ∃ k : Nat, k ≤ 8 ∧ i = .int .i64 k ∧ Aside (DM (R + 2) wr (R + 1) R v W ⟨⟨t, f, q⟩, to', vv, u, an⟩ (.slice oa mo.length oc) ⟨[y0, y1, y2, y3, y4, y5, y6, y7, y8, y9, ya, yb, yc, yd, ye, yf], md, mo, mp⟩ ∧ Four w wr _ _ _ _ ∧ wr.heap[T]? = some (.cells (tC [y0, y1, y2, y3, y4, y5, y6, y7, y8, y9, ya, yb, yc, yd, ye, yf] k md (n + (mo.length : Int))) 29 (0, 0)))) (fun i _ => 8 - (intOf i).toNat)
            case atStart => exact ⟨0, by omega, rfl, hin.out⟩
            case round =>
              clear hin
              obtain ⟨kt, hkt, rfl, hX⟩ := hrel
              by_cases hltt : kt < 8
              · have e11 : wr.cell? ⟨R + 1, 11, none⟩ = some (.slice (some ⟨R, 0, none⟩) 16 16) := hX.out.1.cell 11 rfl
                have ek : wr.cell? ⟨R, kt, none⟩ = some (.int .i64 ([y0, y1, y2, y3, y4, y5, y6, y7, y8, y9, ya, yb, yc, yd, ye, yf].getD kt 0)) := by have := hX.out.1.reg kt (by omega); simpa only [Mc.reg, Int.toNat_natCast] using this
                have tk := row_cell hX.out.2.2 kt (tC_step kt hltt).2
                have fk : wr.frozen? ⟨T, kt, none⟩ = false := by simp [World.frozen?, hX.out.2.2]
                have k8 : (kt : Int) < 8 := by omega
                have k16 : (kt : Int) < 16 := by omega
                have hX2 := Lib.hid (And.intro (hX.out.1.far hTb hne kt (.int .i64 ([y0, y1, y2, y3, y4, y5, y6, y7, y8, y9, ya, yb, yc, yd, ye, yf].getD kt 0))) (And.intro (hX.out.2.1.below ((Below.refl (w.heap.size + 4) wr).setCell (p := ⟨T, kt, none⟩) (by simp only; omega) (.int .i64 ([y0, y1, y2, y3, y4, y5, y6, y7, y8, y9, ya, yb, yc, yd, ye, yf].getD kt 0)))) ((tC_step kt hltt).1 ▸ heap_set (j := kt) (u := .int .i64 ([y0, y1, y2, y3, y4, y5, y6, y7, y8, y9, ya, yb, yc, yd, ye, yf].getD kt 0)) hX.out.2.2)))
                generalize [y0, y1, y2, y3, y4, y5, y6, y7, y8, y9, ya, yb, yc, yd, ye, yf].getD kt 0 = zt at ek hX2
                go_wp2
                generalize wr.setCell ⟨T, kt, none⟩ (.int .i64 zt) = wr2 at hX2 ⊢
                clear e11 ek tk fk k8 k16
                go_wp2
                go_roundw
                case rel => exact ⟨kt + 1, by omega, by go_num, hX2.out⟩
                case measure => simp [intOf]; omega
              · obtain rfl : kt = 8 := by omega
                clear hltt hkt
                have hXd := Lib.hid (And.intro hX.out.1 (And.intro hX.out.2.1 hX.out.2.2))
                have e13 : wr.cell? ⟨R + 1, 13, none⟩ = some (.slice oa mo.length oc) := hXd.out.1.cell 13 rfl
                have hz := hXd.out.2.1.z
                have t0 : wr.cell? ⟨T, 0, none⟩ = some (.int .i64 y0) := row_cell hXd.out.2.2 0 rfl
                have t1 : wr.cell? ⟨T, 1, none⟩ = some (.int .i64 y1) := row_cell hXd.out.2.2 1 rfl
                have t2 : wr.cell? ⟨T, 2, none⟩ = some (.int .i64 y2) := row_cell hXd.out.2.2 2 rfl
                have t3 : wr.cell? ⟨T, 3, none⟩ = some (.int .i64 y3) := row_cell hXd.out.2.2 3 rfl
                have t4 : wr.cell? ⟨T, 4, none⟩ = some (.int .i64 y4) := row_cell hXd.out.2.2 4 rfl
                have t5 : wr.cell? ⟨T, 5, none⟩ = some (.int .i64 y5) := row_cell hXd.out.2.2 5 rfl
                have t6 : wr.cell? ⟨T, 6, none⟩ = some (.int .i64 y6) := row_cell hXd.out.2.2 6 rfl
                have t7 : wr.cell? ⟨T, 7, none⟩ = some (.int .i64 y7) := row_cell hXd.out.2.2 7 rfl
                have t8 : wr.cell? ⟨T, 8, none⟩ = some (.int .i64 md) := row_cell hXd.out.2.2 8 rfl
                have t9 : wr.cell? ⟨T, 9, none⟩ = some (.int .i64 (n + (mo.length : Int))) := row_cell hXd.out.2.2 9 rfl
                go_wp2_with fail
                clear hX
                have e13d : wr.drew.cell? ⟨R + 1, 13, none⟩ = some (.slice oa mo.length oc) := e13
                have td0 : wr.drew.cell? ⟨T, 0, none⟩ = some (.int .i64 y0) := t0
                have td1 : wr.drew.cell? ⟨T, 1, none⟩ = some (.int .i64 y1) := t1
                have td2 : wr.drew.cell? ⟨T, 2, none⟩ = some (.int .i64 y2) := t2
                have td3 : wr.drew.cell? ⟨T, 3, none⟩ = some (.int .i64 y3) := t3
                have td4 : wr.drew.cell? ⟨T, 4, none⟩ = some (.int .i64 y4) := t4
                have td5 : wr.drew.cell? ⟨T, 5, none⟩ = some (.int .i64 y5) := t5
                have td6 : wr.drew.cell? ⟨T, 6, none⟩ = some (.int .i64 y6) := t6
                have td7 : wr.drew.cell? ⟨T, 7, none⟩ = some (.int .i64 y7) := t7
                have td8 : wr.drew.cell? ⟨T, 8, none⟩ = some (.int .i64 md) := t8
                have td9 : wr.drew.cell? ⟨T, 9, none⟩ = some (.int .i64 (n + (mo.length : Int))) := t9
                have hnz1 : R + 1 ≠ w.heap.size + 1 + 1 + 1 := by omega
                have hnz2 : T ≠ w.heap.size + 1 + 1 + 1 := by omega
                have zc0 : wr.cell? ⟨w.heap.size + 1 + 1 + 1, 0, none⟩ = some (.int .i64 0) := row_cell hz 0 rfl
                have zf0 : wr.frozen? ⟨w.heap.size + 1 + 1 + 1, 0, none⟩ = false := by simp [World.frozen?, hz]
                have zc1 : wr.cell? ⟨w.heap.size + 1 + 1 + 1, 1, none⟩ = some (.int .i64 0) := row_cell hz 1 rfl
                have zf1 : wr.frozen? ⟨w.heap.size + 1 + 1 + 1, 1, none⟩ = false := by simp [World.frozen?, hz]
                have zc2 : wr.cell? ⟨w.heap.size + 1 + 1 + 1, 2, none⟩ = some (.int .i64 0) := row_cell hz 2 rfl
                have zf2 : wr.frozen? ⟨w.heap.size + 1 + 1 + 1, 2, none⟩ = false := by simp [World.frozen?, hz]
                have zc3 : wr.cell? ⟨w.heap.size + 1 + 1 + 1, 3, none⟩ = some (.int .i64 0) := row_cell hz 3 rfl
                have zf3 : wr.frozen? ⟨w.heap.size + 1 + 1 + 1, 3, none⟩ = false := by simp [World.frozen?, hz]
                have zc4 : wr.cell? ⟨w.heap.size + 1 + 1 + 1, 4, none⟩ = some (.int .i64 0) := row_cell hz 4 rfl
                have zf4 : wr.frozen? ⟨w.heap.size + 1 + 1 + 1, 4, none⟩ = false := by simp [World.frozen?, hz]
                have zc5 : wr.cell? ⟨w.heap.size + 1 + 1 + 1, 5, none⟩ = some (.int .i64 0) := row_cell hz 5 rfl
                have zf5 : wr.frozen? ⟨w.heap.size + 1 + 1 + 1, 5, none⟩ = false := by simp [World.frozen?, hz]
                have zc6 : wr.cell? ⟨w.heap.size + 1 + 1 + 1, 6, none⟩ = some (.int .i64 0) := row_cell hz 6 rfl
                have zf6 : wr.frozen? ⟨w.heap.size + 1 + 1 + 1, 6, none⟩ = false := by simp [World.frozen?, hz]
                have zc7 : wr.cell? ⟨w.heap.size + 1 + 1 + 1, 7, none⟩ = some (.int .i64 0) := row_cell hz 7 rfl
                have zf7 : wr.frozen? ⟨w.heap.size + 1 + 1 + 1, 7, none⟩ = false := by simp [World.frozen?, hz]
                have zc8 : wr.cell? ⟨w.heap.size + 1 + 1 + 1, 8, none⟩ = some (.int .i64 0) := row_cell hz 8 rfl
                have zf8 : wr.frozen? ⟨w.heap.size + 1 + 1 + 1, 8, none⟩ = false := by simp [World.frozen?, hz]
                have zc9 : wr.cell? ⟨w.heap.size + 1 + 1 + 1, 9, none⟩ = some (.int .i64 0) := row_cell hz 9 rfl
                have zf9 : wr.frozen? ⟨w.heap.size + 1 + 1 + 1, 9, none⟩ = false := by simp [World.frozen?, hz]
                clear hz
                go_region_held3 (fun w' => w'.cell? ⟨R + 1, 13, none⟩ = some (.slice oa mo.length oc) ∧ w'.cell? ⟨T, 0, none⟩ = some (.int .i64 y0) ∧ w'.cell? ⟨T, 1, none⟩ = some (.int .i64 y1) ∧ w'.cell? ⟨T, 2, none⟩ = some (.int .i64 y2) ∧ w'.cell? ⟨T, 3, none⟩ = some (.int .i64 y3) ∧ w'.cell? ⟨T, 4, none⟩ = some (.int .i64 y4) ∧ w'.cell? ⟨T, 5, none⟩ = some (.int .i64 y5) ∧ w'.cell? ⟨T, 6, none⟩ = some (.int .i64 y6) ∧ w'.cell? ⟨T, 7, none⟩ = some (.int .i64 y7) ∧ w'.cell? ⟨T, 8, none⟩ = some (.int .i64 md) ∧ w'.cell? ⟨T, 9, none⟩ = some (.int .i64 (n + (mo.length : Int))))
                  (first | with_reducible exact ⟨e13, t0, t1, t2, t3, t4, t5, t6, t7, t8, t9⟩ | with_reducible exact ⟨e13d, td0, td1, td2, td3, td4, td5, td6, td7, td8, td9⟩ | with_reducible exact ⟨(far10 hnz1).trans e13, (far10 hnz2).trans t0, (far10 hnz2).trans t1, (far10 hnz2).trans t2, (far10 hnz2).trans t3, (far10 hnz2).trans t4, (far10 hnz2).trans t5, (far10 hnz2).trans t6, (far10 hnz2).trans t7, (far10 hnz2).trans t8, (far10 hnz2).trans t9⟩ | with_reducible exact ⟨(far10d hnz1).trans e13, (far10d hnz2).trans t0, (far10d hnz2).trans t1, (far10d hnz2).trans t2, (far10d hnz2).trans t3, (far10d hnz2).trans t4, (far10d hnz2).trans t5, (far10d hnz2).trans t6, (far10d hnz2).trans t7, (far10d hnz2).trans t8, (far10d hnz2).trans t9⟩)
                  (fail)
                rename_i hHeld
                have hz2 : ((((((((((wr.setCell ⟨w.heap.size + 1 + 1 + 1, 0, none⟩ (.int .i64 y0)).setCell ⟨w.heap.size + 1 + 1 + 1, 1, none⟩ (.int .i64 y1)).setCell ⟨w.heap.size + 1 + 1 + 1, 2, none⟩ (.int .i64 y2)).setCell ⟨w.heap.size + 1 + 1 + 1, 3, none⟩ (.int .i64 y3)).setCell ⟨w.heap.size + 1 + 1 + 1, 4, none⟩ (.int .i64 y4)).setCell ⟨w.heap.size + 1 + 1 + 1, 5, none⟩ (.int .i64 y5)).setCell ⟨w.heap.size + 1 + 1 + 1, 6, none⟩ (.int .i64 y6)).setCell ⟨w.heap.size + 1 + 1 + 1, 7, none⟩ (.int .i64 y7)).setCell ⟨w.heap.size + 1 + 1 + 1, 8, none⟩ (.int .i64 md)).setCell ⟨w.heap.size + 1 + 1 + 1, 9, none⟩ (.int .i64 (n + (mo.length : Int)))).drew.heap[w.heap.size + 1 + 1 + 1]? = _ := (heap_drew _ _).trans (heap10 hXd.out.2.1.z)
                have hB : Hid (Below w.heap.size w ((((((((((wr.setCell ⟨w.heap.size + 1 + 1 + 1, 0, none⟩ (.int .i64 y0)).setCell ⟨w.heap.size + 1 + 1 + 1, 1, none⟩ (.int .i64 y1)).setCell ⟨w.heap.size + 1 + 1 + 1, 2, none⟩ (.int .i64 y2)).setCell ⟨w.heap.size + 1 + 1 + 1, 3, none⟩ (.int .i64 y3)).setCell ⟨w.heap.size + 1 + 1 + 1, 4, none⟩ (.int .i64 y4)).setCell ⟨w.heap.size + 1 + 1 + 1, 5, none⟩ (.int .i64 y5)).setCell ⟨w.heap.size + 1 + 1 + 1, 6, none⟩ (.int .i64 y6)).setCell ⟨w.heap.size + 1 + 1 + 1, 7, none⟩ (.int .i64 y7)).setCell ⟨w.heap.size + 1 + 1 + 1, 8, none⟩ (.int .i64 md)).setCell ⟨w.heap.size + 1 + 1 + 1, 9, none⟩ (.int .i64 (n + (mo.length : Int)))).drew) := Lib.hid (below10 hXd.out.2.1.b (g := w.heap.size + 1 + 1 + 1) (by omega)).drew
                have hO : Hid (Ots ((((((((((wr.setCell ⟨w.heap.size + 1 + 1 + 1, 0, none⟩ (.int .i64 y0)).setCell ⟨w.heap.size + 1 + 1 + 1, 1, none⟩ (.int .i64 y1)).setCell ⟨w.heap.size + 1 + 1 + 1, 2, none⟩ (.int .i64 y2)).setCell ⟨w.heap.size + 1 + 1 + 1, 3, none⟩ (.int .i64 y3)).setCell ⟨w.heap.size + 1 + 1 + 1, 4, none⟩ (.int .i64 y4)).setCell ⟨w.heap.size + 1 + 1 + 1, 5, none⟩ (.int .i64 y5)).setCell ⟨w.heap.size + 1 + 1 + 1, 6, none⟩ (.int .i64 y6)).setCell ⟨w.heap.size + 1 + 1 + 1, 7, none⟩ (.int .i64 y7)).setCell ⟨w.heap.size + 1 + 1 + 1, 8, none⟩ (.int .i64 md)).setCell ⟨w.heap.size + 1 + 1 + 1, 9, none⟩ (.int .i64 (n + (mo.length : Int)))).drew oa mo.length oc mo) := Lib.hid (ots_own (own10 hXd.out.1.own (g := w.heap.size + 1 + 1 + 1) (by omega)).drew)
                clear hHeld hXd hnz1 hnz2 e13d td0 td1 td2 td3 td4 td5 td6 td7 td8 td9 e13 t0 t1 t2 t3 t4 t5 t6 t7 t8 t9 zc0 zf0 zc1 zf1 zc2 zf2 zc3 zf3 zc4 zf4 zc5 zf5 zc6 zf6 zc7 zf7 zc8 zf8 zc9 zf9
                generalize ((((((((((wr.setCell ⟨w.heap.size + 1 + 1 + 1, 0, none⟩ (.int .i64 y0)).setCell ⟨w.heap.size + 1 + 1 + 1, 1, none⟩ (.int .i64 y1)).setCell ⟨w.heap.size + 1 + 1 + 1, 2, none⟩ (.int .i64 y2)).setCell ⟨w.heap.size + 1 + 1 + 1, 3, none⟩ (.int .i64 y3)).setCell ⟨w.heap.size + 1 + 1 + 1, 4, none⟩ (.int .i64 y4)).setCell ⟨w.heap.size + 1 + 1 + 1, 5, none⟩ (.int .i64 y5)).setCell ⟨w.heap.size + 1 + 1 + 1, 6, none⟩ (.int .i64 y6)).setCell ⟨w.heap.size + 1 + 1 + 1, 7, none⟩ (.int .i64 y7)).setCell ⟨w.heap.size + 1 + 1 + 1, 8, none⟩ (.int .i64 md)).setCell ⟨w.heap.size + 1 + 1 + 1, 9, none⟩ (.int .i64 (n + (mo.length : Int)))).drew = W9 at hz2 hB hO ⊢
                have q0 : W9.cell? ⟨w.heap.size + 1 + 1 + 1, 0, none⟩ = some (.int .i64 y0) := row_cell hz2 0 rfl
                have q1 : W9.cell? ⟨w.heap.size + 1 + 1 + 1, 1, none⟩ = some (.int .i64 y1) := row_cell hz2 1 rfl
                have q2 : W9.cell? ⟨w.heap.size + 1 + 1 + 1, 2, none⟩ = some (.int .i64 y2) := row_cell hz2 2 rfl
                have q3 : W9.cell? ⟨w.heap.size + 1 + 1 + 1, 3, none⟩ = some (.int .i64 y3) := row_cell hz2 3 rfl
                have q4 : W9.cell? ⟨w.heap.size + 1 + 1 + 1, 4, none⟩ = some (.int .i64 y4) := row_cell hz2 4 rfl
                have q5 : W9.cell? ⟨w.heap.size + 1 + 1 + 1, 5, none⟩ = some (.int .i64 y5) := row_cell hz2 5 rfl
                have q6 : W9.cell? ⟨w.heap.size + 1 + 1 + 1, 6, none⟩ = some (.int .i64 y6) := row_cell hz2 6 rfl
                have q7 : W9.cell? ⟨w.heap.size + 1 + 1 + 1, 7, none⟩ = some (.int .i64 y7) := row_cell hz2 7 rfl
                have q8 : W9.cell? ⟨w.heap.size + 1 + 1 + 1, 8, none⟩ = some (.int .i64 md) := row_cell hz2 8 rfl
                have q9 : W9.cell? ⟨w.heap.size + 1 + 1 + 1, 9, none⟩ = some (.int .i64 (n + (mo.length : Int))) := row_cell hz2 9 rfl
                clear hz2
                go_wp2_with fail
                exact bodyPost_ret (v := .tuple #[.agg (st10 y0 y1 y2 y3 y4 y5 y6 y7 md (n + (mo.length : Int))), .slice oa mo.length oc, .int .i64 0]) (by simp [results, Tryd.results12, go_sem, st10, q0, q1, q2, q3, q4, q5, q6, q7, q8, q9]) rfl ⟨oa, oc, rfl, hO.out, hB.out⟩
        · have hk4' : decide ((k : Int) < 4096) = false := by simp; omega
          have hk0 : 4096 - k = 0 := by omega
          rw [hk0] at hRES
          clear hk0
          have hot := hok.o
          have hD' := Lib.hid hD
          have hF' := Lib.hid hF
          clear hD hF hok hp hpc0 hplen hplm hda hdb
          go_wp2_with fail
          go_quiet (fail)
          have hb5 := (Read.drew wr nq).below
          have hD5 := hD'.out.below hb5
          have F5 := hF'.out.below (hb5.mono hF'.out.sz)
          generalize wr.drewN nq = W5 at hD5 F5 ⊢
          clear hb5 hD' hF' c14 a0
          obtain ⟨mr, md, mo, mp⟩ := m
          obtain ⟨oa, oc, ho⟩ := own_slice hD5.own
          obtain ⟨y0, y1, y2, y3, y4, y5, y6, y7, y8, y9, ya, yb, yc, yd, ye, yf, hy⟩ := sixteen hD5.rl
          simp only at hy hot
          subst hy
          subst ho
          have hE : (⟨[y0, y1, y2, y3, y4, y5, y6, y7], md, n + (mo.length : Int)⟩, mo, 0) = RES := hRES
          subst hE
          have e12 : W5.cell? ⟨R + 1, 12, none⟩ = some (.int .i64 md) := hD5.cell 12 rfl
          have e13 : W5.cell? ⟨R + 1, 13, none⟩ = some (.slice oa mo.length oc) := hD5.cell 13 rfl
          have s9 : W5.cell? ⟨w.heap.size + 1, 9, none⟩ = some (.int .i64 n) := row_cell F5.s 9 rfl
          have hwr9 : IntKind.i64.wrap (n + (mo.length : Int)) = n + (mo.length : Int) := IntWalk.i64_in _ (by omega)
          have hTb : R + 2 ≤ W5.heap.size := hD5.hb
          have hTx : R + 1 < W5.heap.size := by omega
          have hTs : w.heap.size + 1 < W5.heap.size := by have := F5.sz; omega
          have hne : (Value.slice oa mo.length oc).ownBlock ≠ some W5.heap.size := by
            intro e
            have := (hD5.own.lt _ e).2
            omega
          have hDz := Lib.hid hD5
          have hFz := Lib.hid F5
          clear hD5 F5 hRES
          go_wp2_with fail
          go_region_held3 (fun w' => w'.cell? ⟨R + 1, 12, none⟩ = some (.int .i64 md) ∧ w'.cell? ⟨w.heap.size + 1, 9, none⟩ = some (.int .i64 n) ∧ w'.cell? ⟨R + 1, 13, none⟩ = some (.slice oa mo.length oc))
            (first | exact ⟨e12, s9, e13⟩ | exact ⟨Lib.cell?_alloc_some _ e12, Lib.cell?_alloc_some _ s9, Lib.cell?_alloc_some _ e13⟩ | go_keep)
            (fail)
          rename_i hHeld
          clear hHeld
          have hDa := (hDz.out.alloc (.cells #[.int .i64 0, .int .i64 0, .int .i64 0, .int .i64 0, .int .i64 0, .int .i64 0, .int .i64 0, .int .i64 0, .int .i64 md, .int .i64 (n + (mo.length : Int))] 29)).drew
          have hFa := hFz.out.below (w2 := (W5.alloc (.cells #[.int .i64 0, .int .i64 0, .int .i64 0, .int .i64 0, .int .i64 0, .int .i64 0, .int .i64 0, .int .i64 0, .int .i64 md, .int .i64 (n + (mo.length : Int))] 29)).drew) ((((Below.refl _ W5).alloc (Nat.le_refl _) _).drew).mono hFz.out.sz)
          have hTa : (W5.alloc (.cells #[.int .i64 0, .int .i64 0, .int .i64 0, .int .i64 0, .int .i64 0, .int .i64 0, .int .i64 0, .int .i64 0, .int .i64 md, .int .i64 (n + (mo.length : Int))] 29)).drew.heap[W5.heap.size]? = some (.cells (tC [y0, y1, y2, y3, y4, y5, y6, y7, y8, y9, ya, yb, yc, yd, ye, yf] 0 md (n + (mo.length : Int))) 29 (0, 0)) := heap_alloc_new W5 _
          generalize (W5.alloc (.cells #[.int .i64 0, .int .i64 0, .int .i64 0, .int .i64 0, .int .i64 0, .int .i64 0, .int .i64 0, .int .i64 0, .int .i64 md, .int .i64 (n + (mo.length : Int))] 29)).drew = Wa at hDa hFa hTa ⊢
          generalize W5.heap.size = T at *
          have hin := Lib.hid (And.intro hDa (And.intro hFa hTa))
          clear hDa hFa hTa e12 e13 s9 hwr9 hDz hFz
          go_wp2_with fail
          go_loopw [16] (fun i wr => ∃ k : Nat, k ≤ 8 ∧ i = .int .i64 k ∧ Aside (DM (R + 2) wr (R + 1) R v W ⟨⟨t, f, q⟩, to', vv, u, an⟩ (.slice oa mo.length oc) ⟨[y0, y1, y2, y3, y4, y5, y6, y7, y8, y9, ya, yb, yc, yd, ye, yf], md, mo, mp⟩ ∧ Four w wr _ _ _ _ ∧ wr.heap[T]? = some (.cells (tC [y0, y1, y2, y3, y4, y5, y6, y7, y8, y9, ya, yb, yc, yd, ye, yf] k md (n + (mo.length : Int))) 29 (0, 0)))) (fun i _ => 8 - (intOf i).toNat)
          case atStart => exact ⟨0, by omega, rfl, hin.out⟩
          case round =>
            clear hin
            obtain ⟨kt, hkt, rfl, hX⟩ := hrel
            by_cases hltt : kt < 8
            · have e11 : wr.cell? ⟨R + 1, 11, none⟩ = some (.slice (some ⟨R, 0, none⟩) 16 16) := hX.out.1.cell 11 rfl
              have ek : wr.cell? ⟨R, kt, none⟩ = some (.int .i64 ([y0, y1, y2, y3, y4, y5, y6, y7, y8, y9, ya, yb, yc, yd, ye, yf].getD kt 0)) := by have := hX.out.1.reg kt (by omega); simpa only [Mc.reg, Int.toNat_natCast] using this
              have tk := row_cell hX.out.2.2 kt (tC_step kt hltt).2
              have fk : wr.frozen? ⟨T, kt, none⟩ = false := by simp [World.frozen?, hX.out.2.2]
              have k8 : (kt : Int) < 8 := by omega
              have k16 : (kt : Int) < 16 := by omega
              have hX2 := Lib.hid (And.intro (hX.out.1.far hTb hne kt (.int .i64 ([y0, y1, y2, y3, y4, y5, y6, y7, y8, y9, ya, yb, yc, yd, ye, yf].getD kt 0))) (And.intro (hX.out.2.1.below ((Below.refl (w.heap.size + 4) wr).setCell (p := ⟨T, kt, none⟩) (by simp only; omega) (.int .i64 ([y0, y1, y2, y3, y4, y5, y6, y7, y8, y9, ya, yb, yc, yd, ye, yf].getD kt 0)))) ((tC_step kt hltt).1 ▸ heap_set (j := kt) (u := .int .i64 ([y0, y1, y2, y3, y4, y5, y6, y7, y8, y9, ya, yb, yc, yd, ye, yf].getD kt 0)) hX.out.2.2)))
              generalize [y0, y1, y2, y3, y4, y5, y6, y7, y8, y9, ya, yb, yc, yd, ye, yf].getD kt 0 = zt at ek hX2
              go_wp2
              generalize wr.setCell ⟨T, kt, none⟩ (.int .i64 zt) = wr2 at hX2 ⊢
              clear e11 ek tk fk k8 k16
              go_wp2
              go_roundw
              case rel => exact ⟨kt + 1, by omega, by go_num, hX2.out⟩
              case measure => simp [intOf]; omega
            · obtain rfl : kt = 8 := by omega
              clear hltt hkt
              have hXd := Lib.hid (And.intro hX.out.1 (And.intro hX.out.2.1 hX.out.2.2))
              have e13 : wr.cell? ⟨R + 1, 13, none⟩ = some (.slice oa mo.length oc) := hXd.out.1.cell 13 rfl
              have hz := hXd.out.2.1.z
              have t0 : wr.cell? ⟨T, 0, none⟩ = some (.int .i64 y0) := row_cell hXd.out.2.2 0 rfl
              have t1 : wr.cell? ⟨T, 1, none⟩ = some (.int .i64 y1) := row_cell hXd.out.2.2 1 rfl
              have t2 : wr.cell? ⟨T, 2, none⟩ = some (.int .i64 y2) := row_cell hXd.out.2.2 2 rfl
              have t3 : wr.cell? ⟨T, 3, none⟩ = some (.int .i64 y3) := row_cell hXd.out.2.2 3 rfl
              have t4 : wr.cell? ⟨T, 4, none⟩ = some (.int .i64 y4) := row_cell hXd.out.2.2 4 rfl
              have t5 : wr.cell? ⟨T, 5, none⟩ = some (.int .i64 y5) := row_cell hXd.out.2.2 5 rfl
              have t6 : wr.cell? ⟨T, 6, none⟩ = some (.int .i64 y6) := row_cell hXd.out.2.2 6 rfl
              have t7 : wr.cell? ⟨T, 7, none⟩ = some (.int .i64 y7) := row_cell hXd.out.2.2 7 rfl
              have t8 : wr.cell? ⟨T, 8, none⟩ = some (.int .i64 md) := row_cell hXd.out.2.2 8 rfl
              have t9 : wr.cell? ⟨T, 9, none⟩ = some (.int .i64 (n + (mo.length : Int))) := row_cell hXd.out.2.2 9 rfl
              go_wp2_with fail
              clear hX
              have e13d : wr.drew.cell? ⟨R + 1, 13, none⟩ = some (.slice oa mo.length oc) := e13
              have td0 : wr.drew.cell? ⟨T, 0, none⟩ = some (.int .i64 y0) := t0
              have td1 : wr.drew.cell? ⟨T, 1, none⟩ = some (.int .i64 y1) := t1
              have td2 : wr.drew.cell? ⟨T, 2, none⟩ = some (.int .i64 y2) := t2
              have td3 : wr.drew.cell? ⟨T, 3, none⟩ = some (.int .i64 y3) := t3
              have td4 : wr.drew.cell? ⟨T, 4, none⟩ = some (.int .i64 y4) := t4
              have td5 : wr.drew.cell? ⟨T, 5, none⟩ = some (.int .i64 y5) := t5
              have td6 : wr.drew.cell? ⟨T, 6, none⟩ = some (.int .i64 y6) := t6
              have td7 : wr.drew.cell? ⟨T, 7, none⟩ = some (.int .i64 y7) := t7
              have td8 : wr.drew.cell? ⟨T, 8, none⟩ = some (.int .i64 md) := t8
              have td9 : wr.drew.cell? ⟨T, 9, none⟩ = some (.int .i64 (n + (mo.length : Int))) := t9
              have hnz1 : R + 1 ≠ w.heap.size + 1 + 1 + 1 := by omega
              have hnz2 : T ≠ w.heap.size + 1 + 1 + 1 := by omega
              have zc0 : wr.cell? ⟨w.heap.size + 1 + 1 + 1, 0, none⟩ = some (.int .i64 0) := row_cell hz 0 rfl
              have zf0 : wr.frozen? ⟨w.heap.size + 1 + 1 + 1, 0, none⟩ = false := by simp [World.frozen?, hz]
              have zc1 : wr.cell? ⟨w.heap.size + 1 + 1 + 1, 1, none⟩ = some (.int .i64 0) := row_cell hz 1 rfl
              have zf1 : wr.frozen? ⟨w.heap.size + 1 + 1 + 1, 1, none⟩ = false := by simp [World.frozen?, hz]
              have zc2 : wr.cell? ⟨w.heap.size + 1 + 1 + 1, 2, none⟩ = some (.int .i64 0) := row_cell hz 2 rfl
              have zf2 : wr.frozen? ⟨w.heap.size + 1 + 1 + 1, 2, none⟩ = false := by simp [World.frozen?, hz]
              have zc3 : wr.cell? ⟨w.heap.size + 1 + 1 + 1, 3, none⟩ = some (.int .i64 0) := row_cell hz 3 rfl
              have zf3 : wr.frozen? ⟨w.heap.size + 1 + 1 + 1, 3, none⟩ = false := by simp [World.frozen?, hz]
              have zc4 : wr.cell? ⟨w.heap.size + 1 + 1 + 1, 4, none⟩ = some (.int .i64 0) := row_cell hz 4 rfl
              have zf4 : wr.frozen? ⟨w.heap.size + 1 + 1 + 1, 4, none⟩ = false := by simp [World.frozen?, hz]
              have zc5 : wr.cell? ⟨w.heap.size + 1 + 1 + 1, 5, none⟩ = some (.int .i64 0) := row_cell hz 5 rfl
              have zf5 : wr.frozen? ⟨w.heap.size + 1 + 1 + 1, 5, none⟩ = false := by simp [World.frozen?, hz]
              have zc6 : wr.cell? ⟨w.heap.size + 1 + 1 + 1, 6, none⟩ = some (.int .i64 0) := row_cell hz 6 rfl
              have zf6 : wr.frozen? ⟨w.heap.size + 1 + 1 + 1, 6, none⟩ = false := by simp [World.frozen?, hz]
              have zc7 : wr.cell? ⟨w.heap.size + 1 + 1 + 1, 7, none⟩ = some (.int .i64 0) := row_cell hz 7 rfl
              have zf7 : wr.frozen? ⟨w.heap.size + 1 + 1 + 1, 7, none⟩ = false := by simp [World.frozen?, hz]
              have zc8 : wr.cell? ⟨w.heap.size + 1 + 1 + 1, 8, none⟩ = some (.int .i64 0) := row_cell hz 8 rfl
              have zf8 : wr.frozen? ⟨w.heap.size + 1 + 1 + 1, 8, none⟩ = false := by simp [World.frozen?, hz]
              have zc9 : wr.cell? ⟨w.heap.size + 1 + 1 + 1, 9, none⟩ = some (.int .i64 0) := row_cell hz 9 rfl
              have zf9 : wr.frozen? ⟨w.heap.size + 1 + 1 + 1, 9, none⟩ = false := by simp [World.frozen?, hz]
              clear hz
              go_region_held3 (fun w' => w'.cell? ⟨R + 1, 13, none⟩ = some (.slice oa mo.length oc) ∧ w'.cell? ⟨T, 0, none⟩ = some (.int .i64 y0) ∧ w'.cell? ⟨T, 1, none⟩ = some (.int .i64 y1) ∧ w'.cell? ⟨T, 2, none⟩ = some (.int .i64 y2) ∧ w'.cell? ⟨T, 3, none⟩ = some (.int .i64 y3) ∧ w'.cell? ⟨T, 4, none⟩ = some (.int .i64 y4) ∧ w'.cell? ⟨T, 5, none⟩ = some (.int .i64 y5) ∧ w'.cell? ⟨T, 6, none⟩ = some (.int .i64 y6) ∧ w'.cell? ⟨T, 7, none⟩ = some (.int .i64 y7) ∧ w'.cell? ⟨T, 8, none⟩ = some (.int .i64 md) ∧ w'.cell? ⟨T, 9, none⟩ = some (.int .i64 (n + (mo.length : Int))))
                (first | with_reducible exact ⟨e13, t0, t1, t2, t3, t4, t5, t6, t7, t8, t9⟩ | with_reducible exact ⟨e13d, td0, td1, td2, td3, td4, td5, td6, td7, td8, td9⟩ | with_reducible exact ⟨(far10 hnz1).trans e13, (far10 hnz2).trans t0, (far10 hnz2).trans t1, (far10 hnz2).trans t2, (far10 hnz2).trans t3, (far10 hnz2).trans t4, (far10 hnz2).trans t5, (far10 hnz2).trans t6, (far10 hnz2).trans t7, (far10 hnz2).trans t8, (far10 hnz2).trans t9⟩ | with_reducible exact ⟨(far10d hnz1).trans e13, (far10d hnz2).trans t0, (far10d hnz2).trans t1, (far10d hnz2).trans t2, (far10d hnz2).trans t3, (far10d hnz2).trans t4, (far10d hnz2).trans t5, (far10d hnz2).trans t6, (far10d hnz2).trans t7, (far10d hnz2).trans t8, (far10d hnz2).trans t9⟩)
                (fail)
              rename_i hHeld
              have hz2 : ((((((((((wr.setCell ⟨w.heap.size + 1 + 1 + 1, 0, none⟩ (.int .i64 y0)).setCell ⟨w.heap.size + 1 + 1 + 1, 1, none⟩ (.int .i64 y1)).setCell ⟨w.heap.size + 1 + 1 + 1, 2, none⟩ (.int .i64 y2)).setCell ⟨w.heap.size + 1 + 1 + 1, 3, none⟩ (.int .i64 y3)).setCell ⟨w.heap.size + 1 + 1 + 1, 4, none⟩ (.int .i64 y4)).setCell ⟨w.heap.size + 1 + 1 + 1, 5, none⟩ (.int .i64 y5)).setCell ⟨w.heap.size + 1 + 1 + 1, 6, none⟩ (.int .i64 y6)).setCell ⟨w.heap.size + 1 + 1 + 1, 7, none⟩ (.int .i64 y7)).setCell ⟨w.heap.size + 1 + 1 + 1, 8, none⟩ (.int .i64 md)).setCell ⟨w.heap.size + 1 + 1 + 1, 9, none⟩ (.int .i64 (n + (mo.length : Int)))).drew.heap[w.heap.size + 1 + 1 + 1]? = _ := (heap_drew _ _).trans (heap10 hXd.out.2.1.z)
              have hB : Hid (Below w.heap.size w ((((((((((wr.setCell ⟨w.heap.size + 1 + 1 + 1, 0, none⟩ (.int .i64 y0)).setCell ⟨w.heap.size + 1 + 1 + 1, 1, none⟩ (.int .i64 y1)).setCell ⟨w.heap.size + 1 + 1 + 1, 2, none⟩ (.int .i64 y2)).setCell ⟨w.heap.size + 1 + 1 + 1, 3, none⟩ (.int .i64 y3)).setCell ⟨w.heap.size + 1 + 1 + 1, 4, none⟩ (.int .i64 y4)).setCell ⟨w.heap.size + 1 + 1 + 1, 5, none⟩ (.int .i64 y5)).setCell ⟨w.heap.size + 1 + 1 + 1, 6, none⟩ (.int .i64 y6)).setCell ⟨w.heap.size + 1 + 1 + 1, 7, none⟩ (.int .i64 y7)).setCell ⟨w.heap.size + 1 + 1 + 1, 8, none⟩ (.int .i64 md)).setCell ⟨w.heap.size + 1 + 1 + 1, 9, none⟩ (.int .i64 (n + (mo.length : Int)))).drew) := Lib.hid (below10 hXd.out.2.1.b (g := w.heap.size + 1 + 1 + 1) (by omega)).drew
              have hO : Hid (Ots ((((((((((wr.setCell ⟨w.heap.size + 1 + 1 + 1, 0, none⟩ (.int .i64 y0)).setCell ⟨w.heap.size + 1 + 1 + 1, 1, none⟩ (.int .i64 y1)).setCell ⟨w.heap.size + 1 + 1 + 1, 2, none⟩ (.int .i64 y2)).setCell ⟨w.heap.size + 1 + 1 + 1, 3, none⟩ (.int .i64 y3)).setCell ⟨w.heap.size + 1 + 1 + 1, 4, none⟩ (.int .i64 y4)).setCell ⟨w.heap.size + 1 + 1 + 1, 5, none⟩ (.int .i64 y5)).setCell ⟨w.heap.size + 1 + 1 + 1, 6, none⟩ (.int .i64 y6)).setCell ⟨w.heap.size + 1 + 1 + 1, 7, none⟩ (.int .i64 y7)).setCell ⟨w.heap.size + 1 + 1 + 1, 8, none⟩ (.int .i64 md)).setCell ⟨w.heap.size + 1 + 1 + 1, 9, none⟩ (.int .i64 (n + (mo.length : Int)))).drew oa mo.length oc mo) := Lib.hid (ots_own (own10 hXd.out.1.own (g := w.heap.size + 1 + 1 + 1) (by omega)).drew)
              clear hHeld hXd hnz1 hnz2 e13d td0 td1 td2 td3 td4 td5 td6 td7 td8 td9 e13 t0 t1 t2 t3 t4 t5 t6 t7 t8 t9 zc0 zf0 zc1 zf1 zc2 zf2 zc3 zf3 zc4 zf4 zc5 zf5 zc6 zf6 zc7 zf7 zc8 zf8 zc9 zf9
              generalize ((((((((((wr.setCell ⟨w.heap.size + 1 + 1 + 1, 0, none⟩ (.int .i64 y0)).setCell ⟨w.heap.size + 1 + 1 + 1, 1, none⟩ (.int .i64 y1)).setCell ⟨w.heap.size + 1 + 1 + 1, 2, none⟩ (.int .i64 y2)).setCell ⟨w.heap.size + 1 + 1 + 1, 3, none⟩ (.int .i64 y3)).setCell ⟨w.heap.size + 1 + 1 + 1, 4, none⟩ (.int .i64 y4)).setCell ⟨w.heap.size + 1 + 1 + 1, 5, none⟩ (.int .i64 y5)).setCell ⟨w.heap.size + 1 + 1 + 1, 6, none⟩ (.int .i64 y6)).setCell ⟨w.heap.size + 1 + 1 + 1, 7, none⟩ (.int .i64 y7)).setCell ⟨w.heap.size + 1 + 1 + 1, 8, none⟩ (.int .i64 md)).setCell ⟨w.heap.size + 1 + 1 + 1, 9, none⟩ (.int .i64 (n + (mo.length : Int)))).drew = W9 at hz2 hB hO ⊢
              have q0 : W9.cell? ⟨w.heap.size + 1 + 1 + 1, 0, none⟩ = some (.int .i64 y0) := row_cell hz2 0 rfl
              have q1 : W9.cell? ⟨w.heap.size + 1 + 1 + 1, 1, none⟩ = some (.int .i64 y1) := row_cell hz2 1 rfl
              have q2 : W9.cell? ⟨w.heap.size + 1 + 1 + 1, 2, none⟩ = some (.int .i64 y2) := row_cell hz2 2 rfl
              have q3 : W9.cell? ⟨w.heap.size + 1 + 1 + 1, 3, none⟩ = some (.int .i64 y3) := row_cell hz2 3 rfl
              have q4 : W9.cell? ⟨w.heap.size + 1 + 1 + 1, 4, none⟩ = some (.int .i64 y4) := row_cell hz2 4 rfl
              have q5 : W9.cell? ⟨w.heap.size + 1 + 1 + 1, 5, none⟩ = some (.int .i64 y5) := row_cell hz2 5 rfl
              have q6 : W9.cell? ⟨w.heap.size + 1 + 1 + 1, 6, none⟩ = some (.int .i64 y6) := row_cell hz2 6 rfl
              have q7 : W9.cell? ⟨w.heap.size + 1 + 1 + 1, 7, none⟩ = some (.int .i64 y7) := row_cell hz2 7 rfl
              have q8 : W9.cell? ⟨w.heap.size + 1 + 1 + 1, 8, none⟩ = some (.int .i64 md) := row_cell hz2 8 rfl
              have q9 : W9.cell? ⟨w.heap.size + 1 + 1 + 1, 9, none⟩ = some (.int .i64 (n + (mo.length : Int))) := row_cell hz2 9 rfl
              clear hz2
              go_wp2_with fail
              exact bodyPost_ret (v := .tuple #[.agg (st10 y0 y1 y2 y3 y4 y5 y6 y7 md (n + (mo.length : Int))), .slice oa mo.length oc, .int .i64 0]) (by simp [results, Tryd.results12, go_sem, st10, q0, q1, q2, q3, q4, q5, q6, q7, q8, q9]) rfl ⟨oa, oc, rfl, hO.out, hB.out⟩
/-- The document's Run, at every world, state and message that can be read. -/
theorem r5Run_any {w : World} {v : Wv} {W : Wd} {s : Sta} {ev : M} (hw : Wds w v W) (hs : s.r.length = 8) (hsR : ∀ z ∈ s.r, In64 z) (hev : In64 ev.v) :
    Calls Tryd.prog 12 #[v.val W, s.val, ev.val] w (RunQ w (runW W s ev)) := by
  unfold runW
  by_cases hc : checkW W = 0
  · rw [if_neg (by simp [hc])]
    by_cases hm : chkM ev = 0
    · cases hf : s.mayB with
      | true => rw [if_neg (by simp [hm])]; exact r5Run_go hw hs hc hm hf hsR hev
      | false => rw [if_pos (Or.inr rfl)]; exact r5Run_state hw hs hc hm hf
    · rw [if_pos (Or.inl hm)]; exact r5Run_msg hw hs hc hm
  · rw [if_pos hc]; exact r5Run_check hw hs hc
end Go.Proofs.YtghbdpjegmdhbaaDoor
