/-
  A program that sends once, in plain data; links that a call has made itself.
-/
import Derived.Test.YtghbdpjegmdhbaaDoorVmG
import Derived.Test.YtghbdpjegmdhbaaDoorVmI
namespace Go.Proofs.YtghbdpjegmdhbaaDoor
open Go.ChangeShapes Go.WideShapes Go.ChangeAt Go.RowKit Go.Sort
set_option linter.unusedVariables false
set_option maxRecDepth 8000

def lkAt (bs : List Int) (j : Nat) : Lk := ⟨0, j, 1 + bs.getD j 0, false⟩
def lksOf (bs : List Int) (k : Nat) : List Lk := (List.range k).map (lkAt bs)
theorem lksOf_succ (bs : List Int) (k : Nat) : lksOf bs (k + 1) = lksOf bs k ++ [lkAt bs k] := by simp [lksOf, List.range_succ]
theorem lksOf_length (bs : List Int) (k : Nat) : (lksOf bs k).length = k := by simp [lksOf]
theorem lksOf_get (bs : List Int) (k j : Nat) (h : j < k) : (lksOf bs k).getD j default = lkAt bs j := by
  simp [lksOf, List.getD_eq_getElem?_getD, h]
def flatL (os : List Lk) : List Value := (os.map fun o => o.cells.toList).flatten
theorem flatL_append (a b : List Lk) : flatL (a ++ b) = flatL a ++ flatL b := by simp [flatL]
theorem flatL_one (o : Lk) : flatL [o] = [.int .i64 o.src, .int .i64 o.dst, .int .i64 o.look, .bool o.loose] := rfl
theorem flatL_length (os : List Lk) : (flatL os).length = os.length * 4 := by
  induction os with
  | nil => rfl
  | cons o t ih =>
    have : flatL (o :: t) = flatL [o] ++ flatL t := flatL_append [o] t
    rw [this, List.length_append, ih, flatL_one, List.length_cons]
    simp only [List.length_cons, List.length_nil]
    omega
theorem flatL_get : ∀ (os : List Lk) (i c : Nat), i < os.length → c < 4 → (flatL os)[i * 4 + c]? = (os.getD i default).cells[c]?
  | [], i, c, h, _ => by simp at h
  | m :: ms, 0, c, _, hc => by
    have : flatL (m :: ms) = flatL [m] ++ flatL ms := flatL_append [m] ms
    rw [this, List.getElem?_append_left (by rw [flatL_one]; simp; omega)]
    simp [flatL, Lk.cells]
  | m :: ms, i + 1, c, h, hc => by
    have ih := flatL_get ms i c (by simpa using h) hc
    have : flatL (m :: ms) = flatL [m] ++ flatL ms := flatL_append [m] ms
    rw [this, List.getElem?_append_right (by rw [flatL_one]; simp; omega), flatL_one]
    have e : (i + 1) * 4 + c - [Value.int .i64 m.src, Value.int .i64 m.dst, Value.int .i64 m.look, Value.bool m.loose].length = i * 4 + c := by simp; omega
    rw [e, ih]
    simp
theorem lks_of_own {w : World} {base : Nat} {a : Option Addr} {n cap : Nat} {os : List Lk} (h : w.ownsRow base 49 4 (.slice a n cap) n (flatL os)) : Lks w a n cap os := by
  obtain ⟨hl, hv⟩ := h
  rw [flatL_length] at hl
  have hn : os.length = n := by omega
  rcases hv with ⟨e, rfl⟩ | ⟨g, cap', cur, e, _, hg, hn', hm, hs, ht⟩
  · cases e
    exact ⟨hn, Nat.le_refl _, by unfold maxLen; omega, .inl rfl⟩
  · cases e
    refine ⟨hn, hn', hm, .inr ⟨g, 0, rfl, fun k hk => ?_⟩⟩
    have hc : ∀ c, c < 4 → w.cell? ⟨g, 0 + k * 4 + c, none⟩ = (os.getD k default).cells[c]? := by
      intro c hc
      have h1 : w.cell? ⟨g, 0 + k * 4 + c, none⟩ = cur[k * 4 + c]? := by simp [World.cell?, hg]
      rw [h1]
      have h2 : (cur.toList.take (n * 4))[k * 4 + c]? = cur[k * 4 + c]? := by rw [List.getElem?_take_of_lt (by omega), Array.getElem?_toList]
      rw [← h2, ht]
      exact flatL_get os k c (by omega) hc
    refine ⟨(Array.getElem?_eq_some_iff.1 hg).1, ?_, ?_, ?_, ?_⟩
    · exact hc 0 (by omega)
    · exact hc 1 (by omega)
    · exact hc 2 (by omega)
    · exact hc 3 (by omega)
theorem infoLk : (Tryd.prog.info? 49).map (fun i => (i.zero, i.size, i.bytes)) = some (some (.agg #[.int .i64 0, .int .i64 0, .int .i64 0, .bool false]), 4, 32) := by kernel_rfl

/-! A program that sends once. -/
def oneI (n d v : Int) : List I := [⟨1, 8, n, 0⟩, ⟨1, 9, d, 0⟩, ⟨1, 10, v, 0⟩, ⟨12, 8, 9, 10⟩]
def m3 (n d v : Int) (o : List Ot) (pc : Int) : Mc := ⟨[0, 0, 0, 0, 0, 0, 0, 0, n, d, v, 0, 0, 0, 0, 0], 0, o, pc⟩
def evT (t : Int) : M := ⟨⟨t, 0, 0⟩, 0, 0, 0, false⟩
theorem one_checkN {n d v : Int} (hn : -2147483648 ≤ n ∧ n ≤ 2147483647) (hd : -2147483648 ≤ d ∧ d ≤ 2147483647) (hv : -2147483648 ≤ v ∧ v ≤ 2147483647) : checkN (oneI n d v) = 0 := by
  have h1 : wordB n = true := by simp [wordB]; omega
  have h2 : wordB d = true := by simp [wordB]; omega
  have h3 : wordB v = true := by simp [wordB]; omega
  simp [checkN, oneI, mayB, fieldsB, restI, restB, usedOf, regB, h1, h2, h3]
theorem one_check {n d v : Int} {bs : List Int} {N : Nat} (hn : -2147483648 ≤ n ∧ n ≤ 2147483647) (hd : -2147483648 ≤ d ∧ d ≤ 2147483647) (hv : -2147483648 ≤ v ∧ v ≤ 2147483647) (hb : ∀ j, j < N → 0 ≤ bs.getD j 0 ∧ bs.getD j 0 ≤ 255) (hN : N ≤ 10) : checkW ⟨oneI n d v, 0, lksOf bs N, 0⟩ = 0 := by
  refine checkW_ok (one_checkN hn hd hv) (by show (0 : Int) ≤ 0 ∧ (0 : Int) < 16; omega) (by simp only [lksOf_length]; omega) (fun k hk => ?_)
  simp only [lksOf_length] at hk
  simp only
  rw [lksOf_get bs N k hk]
  have := hb k hk
  unfold lkAt Lk.mayB
  generalize bs.getD k 0 = g at *
  simp
  omega
theorem one_go {n d v : Int} {ls : List Lk} {ev : M} : runP ⟨oneI n d v, 0, ls, 0⟩ ev 4096 (firstP Sta.zero) = runP ⟨oneI n d v, 0, ls, 0⟩ ev 4093 (m3 n d v [] 3) := by
  rw [runP_on (m' := ⟨[0, 0, 0, 0, 0, 0, 0, 0, n, 0, 0, 0, 0, 0, 0, 0], 0, [], 1⟩) (by simp [oneI, firstP]) rfl, runP_on (m' := ⟨[0, 0, 0, 0, 0, 0, 0, 0, n, d, 0, 0, 0, 0, 0, 0], 0, [], 2⟩) (by simp [oneI]) rfl, runP_on (m' := m3 n d v [] 3) (by simp [oneI]) rfl]
theorem one_step {n d v : Int} {ls : List Lk} {ev : M} : stepP ⟨oneI n d v, 0, ls, 0⟩ ev ((oneI n d v).getD (3 : Int).toNat default) { m3 n d v [] 3 with pc := 3 + 1 } = sendP ⟨oneI n d v, 0, ls, 0⟩ ev.k.t ⟨12, 8, 9, 10⟩ (m3 n d v [] 4) := rfl
theorem one_end {n d v : Int} {ls : List Lk} {ev : M} {o : List Ot} {f : Nat} : runP ⟨oneI n d v, 0, ls, 0⟩ ev f (m3 n d v o 4) = .stop (m3 n d v o 4) := runP_end (by simp [oneI, m3])
theorem one_pc {n d v : Int} {ls : List Lk} : (m3 n d v [] 3).pc < ((Wd.prog ⟨oneI n d v, 0, ls, 0⟩).length : Int) := by simp [oneI, m3]
theorem oneR_none {n d v t : Int} {ls : List Lk} (hc : checkW ⟨oneI n d v, 0, ls, 0⟩ = 0) (hm : chkM (evT t) = 0) (h : ls = []) : runW ⟨oneI n d v, 0, ls, 0⟩ Sta.zero (evT t) = (⟨[0, 0, 0, 0, 0, 0, 0, 0], 0, 0⟩, [], 0) := by
  rw [runW_go hc hm zero_may, one_go, runP_on (m' := m3 n d v [] 4) one_pc ?_, one_end]
  · rfl
  · refine one_step.trans ?_
    simp [sendP, h]
theorem oneR_look {n d v t : Int} {ls : List Lk} (hc : checkW ⟨oneI n d v, 0, ls, 0⟩ = 0) (hm : chkM (evT t) = 0) (h : ls.length ≠ 0) (hl : d < (ls.getD (n % (ls.length : Int)).toNat default).look) : runW ⟨oneI n d v, 0, ls, 0⟩ Sta.zero (evT t) = (⟨[0, 0, 0, 0, 0, 0, 0, 0], 0, 0⟩, [], 50) := by
  rw [runW_go hc hm zero_may, one_go, runP_fault (e := 50) one_pc ?_]
  · rfl
  · refine one_step.trans ?_
    unfold sendP
    rw [if_neg (by simp only [m3, List.length_nil]; omega), if_pos (by exact hl)]
theorem oneR_time {n d v t : Int} {ls : List Lk} (hc : checkW ⟨oneI n d v, 0, ls, 0⟩ = 0) (hm : chkM (evT t) = 0) (h : ls.length ≠ 0) (hl : ¬ d < (ls.getD (n % (ls.length : Int)).toNat default).look) (ht : 4611686018427387903 - t < d) : runW ⟨oneI n d v, 0, ls, 0⟩ Sta.zero (evT t) = (⟨[0, 0, 0, 0, 0, 0, 0, 0], 0, 0⟩, [], 10) := by
  rw [runW_go hc hm zero_may, one_go, runP_fault (e := 10) one_pc ?_]
  · rfl
  · refine one_step.trans ?_
    unfold sendP
    rw [if_neg (by simp only [m3, List.length_nil]; omega), if_neg (by exact hl), if_pos (by exact ht)]
theorem oneR_ok {n d v t : Int} {ls : List Lk} (hc : checkW ⟨oneI n d v, 0, ls, 0⟩ = 0) (hm : chkM (evT t) = 0) (h : ls.length ≠ 0) (hl : ¬ d < (ls.getD (n % (ls.length : Int)).toNat default).look) (ht : ¬ 4611686018427387903 - t < d) : runW ⟨oneI n d v, 0, ls, 0⟩ Sta.zero (evT t) = (⟨[0, 0, 0, 0, 0, 0, 0, 0], 0, 1⟩, [⟨n % (ls.length : Int), d, v⟩], 0) := by
  rw [runW_go hc hm zero_may, one_go, runP_on (m' := m3 n d v [⟨n % (ls.length : Int), d, v⟩] 4) one_pc ?_, one_end]
  · rfl
  · refine one_step.trans ?_
    unfold sendP
    rw [if_neg (by simp only [m3, List.length_nil]; omega), if_neg (by exact hl), if_neg (by exact ht)]
    rfl
theorem oneR_bad {n d v t : Int} {ls : List Lk} (hc : checkW ⟨oneI n d v, 0, ls, 0⟩ = 0) (hm : chkM (evT t) ≠ 0) : runW ⟨oneI n d v, 0, ls, 0⟩ Sta.zero (evT t) = (⟨[0, 0, 0, 0, 0, 0, 0, 0], 0, 0⟩, [], 1) := runW_msg hc (fun hh => hm hh.1)
theorem one_fits {n d v : Int} (hn : -2147483648 ≤ n ∧ n ≤ 2147483647) (hd : -2147483648 ≤ d ∧ d ≤ 2147483647) (hv : -2147483648 ≤ v ∧ v ≤ 2147483647) : ∀ i ∈ oneI n d v, i.fits := by
  intro i hi
  simp only [oneI, List.mem_cons, List.not_mem_nil, or_false] at hi
  rcases hi with rfl | rfl | rfl | rfl <;> exact ⟨WalkArith.wf_i64 (by simp only; omega), WalkArith.wf_i64 (by simp only; omega), WalkArith.wf_i64 (by simp only; omega), WalkArith.wf_i64 (by simp only; omega)⟩
end Go.Proofs.YtghbdpjegmdhbaaDoor
