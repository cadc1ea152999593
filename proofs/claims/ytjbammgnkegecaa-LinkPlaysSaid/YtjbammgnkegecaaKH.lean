
/-
  One parcel taken out of a slice: slices.Delete, without.
-/
import Derived.Test.YtjbammgnkegecaaKG
namespace Go.Proofs.Ytjbammgnkegecaa
open Go.ChangeShapes Go.WideShapes Go.ChangeAt Go.Shelf Go.RowKit Go.Lib Go.Sort Go.Deep
set_option linter.unusedVariables false
set_option maxRecDepth 4000
set_option linter.unusedSimpArgs false

section
variable {P : Program} {w w' : World} {e : TypeId} {sz g off n cap : Nat} {xs : List Value}
theorem RowIn.roomK (h : RowIn w e sz g off n cap xs) (t ty : TypeId) (i : TypeInfo) (ht : P.underlying t = some (.slice e)) (hi : P.info? e = some i) (hsize : i.size = sz) (ad : Option Addr) (m c : Nat) (news : List Value) (hl : news.length = m * sz)
    (hnews : 0 < m → ∃ a : Addr, ad = some a ∧ ∀ j u, news[j]? = some u → w.cell? (a.add j) = some u) (h1 : ∀ u ∈ news, u.oneCell' = true) (hroom : n + m ≤ cap) :
    ∃ w', (Builtin.append_ #[t, t] ty #[.slice (some ⟨g, off, none⟩) n cap, .slice ad m c]).run P w = .ok (.slice (some ⟨g, off, none⟩) (n + m) cap) w' ∧ RowIn w' e sz g off (n + m) cap (xs ++ news) ∧ KeptOff (fun k => k = g) w w' := by
  subst hsize
  obtain ⟨cur, g0, g2, g3, g4, g5, g6⟩ := h
  have e1 : (n + m) * i.size ≤ cap * i.size := Nat.mul_le_mul_right _ hroom
  rw [Nat.add_mul] at e1
  have hfc : (Builtin.firstCells i.size m (.slice ad m c)).run P w = .ok news.toArray w := by
    by_cases hm : m = 0
    · subst hm
      obtain rfl : news = [] := List.eq_nil_of_length_eq_zero (by omega)
      cases ad <;> simp [Builtin.firstCells, loadCells, loadCellsFrom]
    · obtain ⟨a, rfl, hn⟩ := hnews (by omega)
      exact run_firstCells_some (P := P) w i.size m a m c news hl hn
  have hst := run_storeCells_at P g (off + n * i.size) e news 0 cur w g0 (by omega) h1
  simp only [Nat.add_zero] at hst
  refine ⟨_, ?_, ⟨_, Go.setRow_heap w g cur _ e _ g0, hroom, g3, ?_, by rw [List.length_append, Nat.add_mul]; omega, fun j u hj => ?_⟩, KeptOff.row w g (cur.toList.take (off + n * i.size) ++ news ++ cur.toList.drop (off + n * i.size + news.length)).toArray⟩
  · simp [Builtin.append_, run_underlying ht, sizeOf, typeInfo, hi, Builtin.lenOf, hroom, hfc, Addr.add_lit, hst]
  · simp; omega
  · have e2 : cur.toList.take (off + n * i.size) ++ news ++ cur.toList.drop (off + n * i.size + news.length) = splice cur.toList (off + n * i.size) news := by unfold splice; rw [List.append_assoc]
    have e3 : off + n * i.size + news.length ≤ cur.toList.length := by
      have : cur.toList.length = cur.size := Array.length_toList
      omega
    rw [e2, List.getElem?_toArray, splice_get _ _ _ e3]
    by_cases hj1 : j < n * i.size
    · rw [List.getElem?_append_left (by omega)] at hj
      rw [if_pos (by omega), Array.getElem?_toList]
      exact g6 j u hj
    · rw [List.getElem?_append_right (by omega)] at hj
      have hlt := (List.getElem?_eq_some_iff.1 hj).1
      rw [if_neg (by omega), if_pos (by omega), show off + j - (off + n * i.size) = j - xs.length by omega]
      exact hj
theorem RowIn.clearK (h : RowIn w e sz g off n cap xs) (t ty : TypeId) (z : Value) (ht : P.underlying t = some (.slice e)) (hz : ∀ w, (zeroValue e).run P w = .ok z w) (hzs : z.cells.size = sz) (hz1 : ∀ u ∈ z.cells.toList, u.oneCell' = true) (p m c : Nat) (hp : n ≤ p) (hm : 0 < m) (hpm : p + m ≤ cap) :
    ∃ w', (Builtin.clear_ #[t] ty #[.slice (some ⟨g, off + p * sz, none⟩) m c]).run P w = .ok (.tuple #[]) w' ∧ RowIn w' e sz g off n cap xs ∧ KeptOff (fun k => k = g) w w' := by
  have hR := h
  obtain ⟨cur, g0, g2, g3, g4, g5, g6⟩ := h
  have e1 : (p + m) * sz ≤ cap * sz := Nat.mul_le_mul_right _ hpm
  have e2 : n * sz ≤ p * sz := Nat.mul_le_mul_right _ hp
  rw [Nat.add_mul] at e1
  have hzl : (Builtin.zeroCells z.cells m).toList.length = m * sz := by rw [Array.length_toList, size_zeroCells, hzs]
  have hz2 : ∀ u ∈ (Builtin.zeroCells z.cells m).toList, u.oneCell' = true := by
    intro u hu
    simp only [Builtin.zeroCells, Array.toList_map, List.mem_map] at hu
    obtain ⟨x, hx, rfl⟩ := hu
    simp at hx
    have h0 : 0 < z.cells.size := by
      rcases Nat.eq_zero_or_pos z.cells.size with h | h
      · rw [h] at hx; omega
      · exact h
    have hlt := Nat.mod_lt x h0
    rw [getElem!_pos z.cells _ hlt]
    exact hz1 _ (by simp)
  have hst := run_storeCells_at P g (off + p * sz) e _ 0 cur w g0 (by rw [hzl]; omega) hz2
  simp only [Nat.add_zero] at hst
  obtain ⟨m, rfl⟩ : ∃ m', m = m' + 1 := ⟨m - 1, by omega⟩
  refine ⟨_, ?_, ?_, KeptOff.row w g (cur.toList.take (off + p * sz) ++ (Builtin.zeroCells z.cells (m + 1)).toList ++ cur.toList.drop (off + p * sz + (Builtin.zeroCells z.cells (m + 1)).toList.length)).toArray⟩
  · simp [Builtin.clear_, run_underlying ht, hz, hst]
  · have e3 : (cur.toList.take (off + p * sz) ++ (Builtin.zeroCells z.cells (m + 1)).toList ++ cur.toList.drop (off + p * sz + (Builtin.zeroCells z.cells (m + 1)).toList.length)) = splice cur.toList (off + p * sz) (Builtin.zeroCells z.cells (m + 1)).toList := by unfold splice; rw [List.append_assoc]
    have e4 : off + p * sz + (Builtin.zeroCells z.cells (m + 1)).toList.length ≤ cur.toList.length := by
      rw [hzl, Array.length_toList]
      omega
    rw [e3]
    refine ⟨_, Go.setRow_heap w g cur _ e _ g0, g2, g3, by rw [List.size_toArray, length_splice _ _ _ e4, Array.length_toList]; exact g4, g5, fun j u hj => ?_⟩
    have hj' := (List.getElem?_eq_some_iff.1 hj).1
    rw [List.getElem?_toArray, splice_get _ _ _ e4, if_pos (by omega), Array.getElem?_toList]
    exact g6 j u hj
end
section
variable {P : Program} {w : World} {ops : Array Oper} {rest : List Oper} {o : Oper} {a : Act} {Q : Exit → Act → World → Prop} {K : Act → World → Prop} {E : Prop}
theorem wp_append_roomK (s x : Operand) (t : TypeId) (ho : o.op = .call { callee := .builtin .append, args := #[s, x], argTypes := #[t, t] })
    {e : TypeId} {sz g off n cap : Nat} {xs : List Value} (h : RowIn w e sz g off n cap xs) (i : TypeInfo) (ht : P.underlying t = some (.slice e)) (hi : P.info? e = some i) (hsize : i.size = sz) (hs : a.eval s = .slice (some ⟨g, off, none⟩) n cap)
    (ad : Option Addr) (m c : Nat) (news : List Value) (hx : a.eval x = .slice ad m c) (hl : news.length = m * sz) (hnews : 0 < m → ∃ a : Addr, ad = some a ∧ ∀ j u, news[j]? = some u → w.cell? (a.add j) = some u) (h1 : ∀ u ∈ news, u.oneCell' = true) (hroom : n + m ≤ cap) (nm : Nat) (hnm : nm = n + m)
    (hK : ∀ w', Hid (RowIn w' e sz g off nm cap (xs ++ news)) → Hid (KeptOff (fun k => k = g) w w') → K (a.put o.dst (.slice (some ⟨g, off, none⟩) nm cap)) w') : o.wp P a w K Q := by
  subst hnm
  obtain ⟨w', hrun, r1, r2⟩ := h.roomK (P := P) t o.type i ht hi hsize ad m c news hl hnews h1 hroom
  unfold Oper.wp
  simp [execOp, ho, resolve, invoke, builtin, hs, hx, hrun, Result.andThen]
  exact hK w' r1 r2
theorem step_append_roomK (hgd : o.guard = none) (s x : Operand) (t : TypeId) (ho : o.op = .call { callee := .builtin .append, args := #[s, x], argTypes := #[t, t] })
    {e : TypeId} {sz g off n cap : Nat} {xs : List Value} (h : RowIn w e sz g off n cap xs) (i : TypeInfo) (ht : P.underlying t = some (.slice e)) (hi : P.info? e = some i) (hsize : i.size = sz) (hs : a.eval s = .slice (some ⟨g, off, none⟩) n cap)
    (ad : Option Addr) (m c : Nat) (news : List Value) (hx : a.eval x = .slice ad m c) (hl : news.length = m * sz) (hnews : 0 < m → ∃ a : Addr, ad = some a ∧ ∀ j u, news[j]? = some u → w.cell? (a.add j) = some u) (h1 : ∀ u ∈ news, u.oneCell' = true) (hroom : n + m ≤ cap) (nm : Nat) (hnm : nm = n + m)
    (hK : ∀ w', Hid (RowIn w' e sz g off nm cap (xs ++ news)) → Hid (KeptOff (fun k => k = g) w w') → K (a.put o.dst (.slice (some ⟨g, off, none⟩) nm cap)) w') :
    if Region.wanted o (yielded ops a.tmps) = true then Oper.wp P o a w K Q else E := by
  have hw : Region.wanted o (yielded ops a.tmps) = true := by simp [Region.wanted, hgd]
  rw [if_pos hw]
  exact wp_append_roomK s x t ho h i ht hi hsize hs ad m c news hx hl hnews h1 hroom nm hnm hK
theorem wpList_clear_rowK (hgd : o.guard = none) (x : Operand) (t : TypeId) (ho : o.op = .call { callee := .builtin .clear, args := #[x], argTypes := #[t] })
    {e : TypeId} {sz g off n cap : Nat} {xs : List Value} (h : RowIn w e sz g off n cap xs) (z : Value) (ht : P.underlying t = some (.slice e)) (hz : ∀ w, (zeroValue e).run P w = .ok z w) (hzs : z.cells.size = sz) (hz1 : ∀ u ∈ z.cells.toList, u.oneCell' = true)
    (p m c q : Nat) (hx : a.eval x = .slice (some ⟨g, q, none⟩) m c) (hq : q = off + p * sz) (hp : n ≤ p) (hm : 0 < m) (hpm : p + m ≤ cap)
    (hK : ∀ w', Hid (RowIn w' e sz g off n cap xs) → Hid (KeptOff (fun k => k = g) w w') → wpList P ops Q rest (a.put o.dst (.tuple #[])) w') : wpList P ops Q (o :: rest) a w := by
  subst hq
  refine wpList_plain hgd fun K' hK' => ?_
  obtain ⟨w', hrun, r1, r2⟩ := h.clearK (P := P) t o.type z ht hz hzs hz1 p m c hp hm hpm
  unfold Oper.wp
  simp [execOp, ho, resolve, invoke, builtin, hx, hrun, Result.andThen]
  exact hK' _ _ (hK w' r1 r2)
end
theorem delP_zero (w : World) : (zeroValue 37).run Try.prog w = .ok (.agg #[.int .i64 0, .int .i64 0, .int .i64 0, .int .i64 0, .int .i64 0, .int .i64 0, .bool false, .int .i64 0]) w := by kernel_rfl
set_option maxHeartbeats 4000000 in
set_option maxRecDepth 100000 in
theorem delP_any {w : World} {g off cap : Nat} {l : List Pc} (h : RowP w g off cap l) (p : Nat) (hp : p < l.length) (hl : l.length < 1000000000000000) :
    Calls Try.prog 39 #[.slice (some ⟨g, off, none⟩) l.length cap, .int .i64 p, .int .i64 ((p : Int) + 1)] w fun e w' => e = .returned (.slice (some ⟨g, off, none⟩) (l.length - 1) cap) ∧ RowP w' g off cap (l.eraseIdx p) ∧ KeptOff (fun k => k = g) w w' := by
  have mixed := mixed
  obtain ⟨i0, hi, hz0, hz1, hz2⟩ := info_parts infoP
  have hl' := Lib.hid hl
  have hb := RowIn.bounds h
  have hR1 : RowIn w.drew 37 8 g off p cap ((flatP l).take (p * 8)) := by
    have := RowIn.part (RowIn.block h (w' := w.drew) rfl) 0 p (by omega)
    simpa using this
  have hnews : 0 < l.length - (p + 1) → ∃ a : Addr, (if cap = p + 1 then (some ⟨g, off, none⟩ : Option Addr) else some ⟨g, off + (p + 1) * 8, none⟩) = some a ∧ ∀ j u, (flatP (l.drop (p + 1)))[j]? = some u → w.drew.cell? (a.add j) = some u := fun h0 => by
    refine ⟨⟨g, off + (p + 1) * 8, none⟩, by rw [if_neg (by omega)], fun j u hj => ?_⟩
    rw [flatP_drop, List.getElem?_drop] at hj
    exact RowIn.cellA (RowIn.block h (w' := w.drew) rfl) _ hj
  have hcs : (flatP (l.drop (p + 1))).length = (l.length - (p + 1)) * 8 := by rw [flatP_length, List.length_drop]
  have hfin : ∀ (w4 w5 : World), Hid (RowIn w4 37 8 g off (l.length - 1) cap ((flatP l).take (p * 8) ++ flatP (l.drop (p + 1)))) → Hid (KeptOff (fun k => k = g) w.drew w4) → Hid (RowIn w5 37 8 g off (l.length - 1) cap ((flatP l).take (p * 8) ++ flatP (l.drop (p + 1)))) →
      Hid (KeptOff (fun k => k = g) w4 w5) → RowP w5 g off cap (l.eraseIdx p) ∧ KeptOff (fun k => k = g) w w5 := by
    intro w4 w5 h4 k4 h5 k5
    refine ⟨?_, ?_⟩
    · unfold RowP
      rw [List.length_eraseIdx_of_lt hp, List.eraseIdx_eq_take_drop_succ, flatP_append, flatP_take]
      exact h5.out
    · exact (k4.out.undrew).trans k5.out
  have hf' := Lib.hid hfin
  have hw1 : IntKind.i64.wrap ((p : Int) + 1) = (p : Int) + 1 := IntWalk.i64_in _ (by omega)
  have hc1 : ¬ (p : Int) = (p : Int) + 1 := by omega
  have hc2 : p ≤ p + 1 := by omega
  have hc3 : p + 1 ≤ l.length := by omega
  have hc4 : (p : Int) ≤ (p : Int) + 1 := by omega
  have hc5 : (p : Int) + 1 ≤ (l.length : Int) := by omega
  have hc6 : 0 ≤ (p : Int) + 1 := by omega
  have hc7 : ((p : Int) + 1).toNat = p + 1 := by omega
  have hc8 : l.length ≤ cap := hb.1
  have hc9 : (p : Int) ≤ (cap : Int) := by omega
  have hca : (l.length : Int) ≤ (cap : Int) := by omega
  have hcb : p ≤ cap := by omega
  have hne : ¬ cap = p := by omega
  have hnm : Hid (l.length - 1 = p + (l.length - (p + 1))) := by show _ = _; omega
  have hroom : p + (l.length - (p + 1)) ≤ cap := by omega
  have hone := flatP_one (l.drop (p + 1))
  have hne2 : ¬ cap = l.length - 1 := by omega
  have hd1 : l.length - 1 ≤ l.length := by omega
  have hd2 : ((l.length - 1 : Nat) : Int) ≤ (l.length : Int) := by omega
  have hd3 : l.length - (l.length - 1) = 1 := by omega
  have hd4 : l.length - 1 + 1 ≤ cap := by omega
  have hzz := delP_zero
  clear hfin h
  go_enter Try.func39, Try.ntmps39
  go_upto_region 5 with (fail)
  go_region_held3 (fun _ => True) (trivial) (first
    | (refine step_append_roomK rfl (.tmp 22) (.tmp 25) 48 rfl hR1 i0 Try.underlying48 hi hz1 rfl _ (l.length - (p + 1)) _ (flatP (l.drop (p + 1))) rfl hcs hnews hone hroom (l.length - 1) hnm.out ?_; intro w4 hr4 hk4))
  clear hnews hR1 hcs hone
  generalize (if cap = p + 1 then (some ⟨g, off, none⟩ : Option Addr) else some ⟨g, off + (p + 1) * 8, none⟩) = ad1
  go_wp2_with (refine wpList_clear_rowK rfl (.tmp 31) 48 rfl hr4.out (.agg #[.int .i64 0, .int .i64 0, .int .i64 0, .int .i64 0, .int .i64 0, .int .i64 0, .bool false, .int .i64 0]) Try.underlying48 hzz rfl (by simp [Value.cells, Value.oneCell']) (l.length - 1) _ _ _ rfl (by omega) (by omega) (by omega) (by omega) ?_; intro w5 hr5 hk5)
  go_ret
  exact ⟨rfl, hf'.out w4 w5 hr4 hk4 hr5 hk5⟩

/-- What without leaves. -/
def Without (w : World) (g : Nat) (L : List Pc) (p : Nat) (v' : Value) (w' : World) : Prop := AtP w' v' (L.eraseIdx p) ∧ KeptOff (fun k => k = g) w w' ∧ (v'.ownBlock = some g) ∧ ∃ a c, v' = .slice a (L.length - 1) c
theorem splice_drop (xs cs : List Value) (q : Nat) (h : q ≤ xs.length) : (splice xs q cs).drop q = cs ++ xs.drop (q + cs.length) := by
  unfold splice
  rw [List.drop_append_of_le_length (by rw [List.length_take]; omega), List.drop_of_length_le (by rw [List.length_take]; omega), List.nil_append]
theorem flatP_erase (L : List Pc) (p : Nat) : flatP (L.eraseIdx p) = flatP (L.take p) ++ flatP (L.drop (p + 1)) := by rw [List.eraseIdx_eq_take_drop_succ, flatP_append]
theorem RowIn.emptyAt {w : World} {e : TypeId} {sz g off n cap : Nat} {xs : List Value} (h : RowIn w e sz g off n cap xs) : RowIn w e sz g off 0 0 [] := by
  obtain ⟨cur, h1, h2, h3, h4, h5, h6⟩ := h
  exact ⟨cur, h1, Nat.le_refl _, by omega, by omega, by simp, fun j u hj => by simp at hj⟩
set_option maxHeartbeats 4000000 in
set_option maxRecDepth 100000 in
theorem without_any {w : World} {g off cap : Nat} {L : List Pc} (h : RowP w g off cap L) (p : Nat) (hp : p < L.length) (hl : L.length < 1000000000000000) :
    Calls Try.prog 32 #[.slice (some ⟨g, off, none⟩) L.length cap, .int .i64 p] w fun e w' => ∃ v', e = .returned v' ∧ Hid (Without w g L p v' w') := by
  have mixed := mixed
  have hb := RowIn.bounds h
  have hcm : cap ≤ 9223372036854775807 := by have := hb.2.1; unfold maxLen at this; omega
  have hel : (L.eraseIdx p).length = L.length - 1 := List.length_eraseIdx_of_lt hp
  have hq : Int.tdiv (L.length : Int) 2 = ((L.length / 2 : Nat) : Int) := by rw [Int.tdiv_eq_ediv_of_nonneg (by omega)]; omega
  have hw1 : IntKind.i64.wrap ((p : Int) + 1) = (p : Int) + 1 := IntWalk.i64_in _ (by omega)
  have hw2 : IntKind.i64.wrap ((L.length / 2 : Nat) : Int) = ((L.length / 2 : Nat) : Int) := IntWalk.i64_in _ (by omega)
  by_cases hlt : L.length / 2 < p
  · have hd := Lib.hid (delP_any h p hp hl)
    have hfin : Hid (∀ w', RowP w' g off cap (L.eraseIdx p) → KeptOff (fun k => k = g) w w' → Without w g L p (.slice (some ⟨g, off, none⟩) (L.length - 1) cap) w') := Lib.hid (fun w' h1 h2 => ⟨.inr ⟨g, off, cap, by rw [hel], h1⟩, h2, rfl, _, _, rfl⟩)
    have hlt2 : ((L.length / 2 : Nat) : Int) < (p : Int) := by omega
    clear h hel
    generalize L.length / 2 = M at *
    go_enter Try.func32, Try.ntmps32
    go_wp2_with (go_at_call 39; refine hd.out.mono ?_; rintro e w1 ⟨rfl, h1, h2⟩; have hf := Lib.hid (hfin.out w1 h1 h2); clear h1 h2)
    go_ret
    exact ⟨_, rfl, hf.out⟩
  · have hlt2 : ¬ ((L.length / 2 : Nat) : Int) < (p : Int) := by omega
    have hR1 : RowIn w.drew 37 8 g off L.length cap (flatP L) := RowIn.block h rfl
    have hcs : (flatP (L.take p)).length = p * 8 := by rw [flatP_length, List.length_take]; congr 1; omega
    have hsrc : 0 < p → (if cap = 1 then (some ⟨g, off, none⟩ : Option Addr) else some ⟨g, off + 8, none⟩) = some ⟨g, off + 1 * 8, none⟩ ∧ ∃ a : Addr, (some ⟨g, off, none⟩ : Option Addr) = some a ∧ ∀ j u, (flatP (L.take p))[j]? = some u → w.drew.cell? (a.add j) = some u := fun h0 => by
      refine ⟨by rw [if_neg (by omega)], ⟨g, off, none⟩, rfl, fun j u hj => ?_⟩
      rw [flatP_take] at hj
      have hj8 : j < p * 8 := by have := (List.getElem?_eq_some_iff.1 hj).1; rw [List.length_take] at this; omega
      rw [List.getElem?_take_of_lt hj8] at hj
      have := RowIn.cellA hR1 0 (j := j) (u := u) (by rwa [Nat.zero_add])
      simpa using this
    have hone := flatP_one (L.take p)
    have hfin : Hid (∀ w', RowIn w' 37 8 g off L.length cap (splice (flatP L) (1 * 8) (flatP (L.take p))) → KeptOff (fun k => k = g) w.drew w' → Without w g L p (.slice (if cap = 1 then (some ⟨g, off, none⟩ : Option Addr) else some ⟨g, off + 8, none⟩) (L.length - 1) (cap - 1)) w') := Lib.hid (fun w' h1 h2 => by
      refine ⟨?_, h2.undrew, by split <;> rfl, _, _, rfl⟩
      by_cases hc1 : cap = 1
      · have hL1 : L.length = 1 := by omega
        obtain rfl : p = 0 := by omega
        have he : L.eraseIdx 0 = [] := List.eq_nil_of_length_eq_zero (by omega)
        rw [if_pos hc1, he, hc1, hL1]
        exact .inr ⟨g, off, 0, rfl, RowIn.emptyAt h1⟩
      · rw [if_neg hc1]
        refine .inr ⟨g, off + 1 * 8, cap - 1, by rw [hel], ?_⟩
        have hpart := RowIn.part h1 1 (L.length - 1) (by omega)
        have e1 : ((splice (flatP L) (1 * 8) (flatP (L.take p))).drop (1 * 8)).take ((L.length - 1) * 8) = flatP (L.eraseIdx p) := by
          rw [splice_drop _ _ _ (by rw [flatP_length]; omega), hcs, flatP_erase, flatP_drop, Nat.add_mul, Nat.add_comm (1 * 8)]
          refine List.take_of_length_le ?_
          rw [List.length_append, List.length_drop, hcs, flatP_length]
          omega
        rw [e1] at hpart
        rwa [hel])
    have hc2 : (1 : Int) ≤ (L.length : Int) := by omega
    have hc3 : (p : Int) ≤ (cap : Int) := by omega
    have hc4 : (L.length : Int) ≤ (cap : Int) := by omega
    have hc5 : (1 : Int) ≤ (cap : Int) := by omega
    have hc6 : p ≤ cap := by omega
    have hmin : Nat.min p (L.length - 1) = p := by show min _ _ = _; omega
    have hfit : 1 + p ≤ L.length := by omega
    clear h hel
    by_cases hc1 : cap = 1
    · subst hc1
      rw [if_pos rfl] at hfin hsrc
      have hN1 : L.length = 1 := by omega
      obtain rfl : p = 0 := by omega
      generalize L.length = N at *
      subst hN1
      clear hlt hlt2 hc2 hc3 hc4 hc5 hc6
      go_enter Try.func32, Try.ntmps32
      go_upto_region 3 with (fail)
      go_region_held3 (fun _ => True) (trivial) (first
        | (refine step_copy_row rfl (.tmp 16) (.tmp 19) 48 48 rfl hR1 37 Try.underlying48 infoPs _ _ 0 _ 0 _ 1 0 (flatP (L.take 0)) rfl rfl hcs hmin hsrc hfit hone ?_; intro w4 hr4 hk4))
      have hf := Lib.hid (hfin.out w4 hr4.out hk4.out)
      clear hfin hsrc hR1 hone hr4 hk4
      go_wp2
      go_ret
      exact ⟨_, rfl, hf.out⟩
    · rw [if_neg hc1] at hfin hsrc
      go_enter Try.func32, Try.ntmps32
      go_upto_region 3 with (fail)
      go_region_held3 (fun _ => True) (trivial) (first
        | (refine step_copy_row rfl (.tmp 16) (.tmp 19) 48 48 rfl hR1 37 Try.underlying48 infoPs _ _ (L.length - 1) _ p _ 1 p (flatP (L.take p)) rfl rfl hcs hmin hsrc hfit hone ?_; intro w4 hr4 hk4))
      have hf := Lib.hid (hfin.out w4 hr4.out hk4.out)
      clear hfin hsrc hR1 hone hr4 hk4
      go_wp2
      go_ret
      exact ⟨_, rfl, hf.out⟩
end Go.Proofs.Ytjbammgnkegecaa
