
/-
  One taken out of a slice: slices.Delete, at messages and at rungs.
-/
import Derived.Test.YtcfpfbemmklbaaaLDA
import Derived.Test.YtcfpfbemmklbaaaYC
namespace Go.Proofs.Ytcfpfbemmklbaaa
open Go.ChangeShapes Go.WideShapes Go.ChangeAt Go.Shelf Go.RowKit Go.Lib Go.Sort Go.Deep
set_option linter.unusedVariables false

/-! At an operation of a walk. -/
section
variable {P : Program} {w : World} {ops : Array Oper} {rest : List Oper} {o : Oper} {a : Act} {Q : Exit → Act → World → Prop} {K : Act → World → Prop} {E : Prop}
theorem wp_append_roomC (s x : Operand) (t : TypeId) (ho : o.op = .call { callee := .builtin .append, args := #[s, x], argTypes := #[t, t] })
    {e : TypeId} {sz g off n cap : Nat} {xs : List Value} (h : RowIn w e sz g off n cap xs) (i : TypeInfo) (ht : P.underlying t = some (.slice e)) (hi : P.info? e = some i) (hsize : i.size = sz) (hs : a.eval s = .slice (some ⟨g, off, none⟩) n cap)
    (ad : Option Addr) (m c : Nat) (news : List Value) (hx : a.eval x = .slice ad m c) (hl : news.length = m * sz) (hnews : 0 < m → ∃ a : Addr, ad = some a ∧ ∀ j u, news[j]? = some u → w.cell? (a.add j) = some u) (h1 : ∀ u ∈ news, u.oneCell' = true) (hroom : n + m ≤ cap) (nm : Nat) (hnm : nm = n + m)
    (hK : ∀ w', Hid (RowIn w' e sz g off nm cap (xs ++ news)) → Hid (KeptC (fun k o => k = g ∧ off + n * sz ≤ o ∧ o < off + n * sz + news.length) w w') → K (a.put o.dst (.slice (some ⟨g, off, none⟩) nm cap)) w') : o.wp P a w K Q := by
  subst hnm
  obtain ⟨w', hrun, r1, r2⟩ := h.roomC (P := P) t o.type i ht hi hsize ad m c news hl hnews h1 hroom
  exact Lib.wp_append_run w s x t t ho _ _ hs hx _ _ hrun (hK w' r1 r2)
theorem step_append_roomC (hgd : o.guard = none) (s x : Operand) (t : TypeId) (ho : o.op = .call { callee := .builtin .append, args := #[s, x], argTypes := #[t, t] })
    {e : TypeId} {sz g off n cap : Nat} {xs : List Value} (h : RowIn w e sz g off n cap xs) (i : TypeInfo) (ht : P.underlying t = some (.slice e)) (hi : P.info? e = some i) (hsize : i.size = sz) (hs : a.eval s = .slice (some ⟨g, off, none⟩) n cap)
    (ad : Option Addr) (m c : Nat) (news : List Value) (hx : a.eval x = .slice ad m c) (hl : news.length = m * sz) (hnews : 0 < m → ∃ a : Addr, ad = some a ∧ ∀ j u, news[j]? = some u → w.cell? (a.add j) = some u) (h1 : ∀ u ∈ news, u.oneCell' = true) (hroom : n + m ≤ cap) (nm : Nat) (hnm : nm = n + m)
    (hK : ∀ w', Hid (RowIn w' e sz g off nm cap (xs ++ news)) → Hid (KeptC (fun k o => k = g ∧ off + n * sz ≤ o ∧ o < off + n * sz + news.length) w w') → K (a.put o.dst (.slice (some ⟨g, off, none⟩) nm cap)) w') :
    if Region.wanted o (yielded ops a.tmps) = true then Oper.wp P o a w K Q else E := by
  have hw : Region.wanted o (yielded ops a.tmps) = true := by simp [Region.wanted, hgd]
  rw [if_pos hw]
  exact wp_append_roomC s x t ho h i ht hi hsize hs ad m c news hx hl hnews h1 hroom nm hnm hK
theorem wpList_clear_rowC (hgd : o.guard = none) (x : Operand) (t : TypeId) (ho : o.op = .call { callee := .builtin .clear, args := #[x], argTypes := #[t] })
    {e : TypeId} {sz g off n cap : Nat} {xs : List Value} (h : RowIn w e sz g off n cap xs) (z : Value) (ht : P.underlying t = some (.slice e)) (hz : ∀ w, (zeroValue e).run P w = .ok z w) (hzs : z.cells.size = sz) (hz1 : ∀ u ∈ z.cells.toList, u.oneCell' = true)
    (p m c q : Nat) (hx : a.eval x = .slice (some ⟨g, q, none⟩) m c) (hq : q = off + p * sz) (hp : n ≤ p) (hm : 0 < m) (hpm : p + m ≤ cap)
    (hK : ∀ w', Hid (RowIn w' e sz g off n cap xs) → Hid (KeptC (ext g off (cap * sz)) w w') → wpList P ops Q rest (a.put o.dst (.tuple #[])) w') : wpList P ops Q (o :: rest) a w := by
  subst hq
  refine wpList_plain hgd fun K' hK' => ?_
  obtain ⟨w', hrun, r1, r2⟩ := h.clearC (P := P) t o.type z ht hz hzs hz1 p m c hp hm hpm
  unfold Oper.wp
  simp [execOp, ho, resolve, invoke, builtin, hx, hrun, Result.andThen]
  exact hK' _ _ (hK w' r1 r2)
end

theorem RowM.kept0 {w w' : World} {g off cap : Nat} {l : List M} (h : RowM w g off cap l) (hb : Below w.heap.size w w') : RowM w' g off cap l := RowIn.block h (hb.block g (RowIn.lt h))
theorem flat_take (l : List M) (p : Nat) : flat (l.take p) = (flat l).take (p * 7) := fm_take encM_length l p
theorem flat_drop (l : List M) (p : Nat) : flat (l.drop p) = (flat l).drop (p * 7) := fm_drop encM_length l p

theorem delM_zero (w : World) : (zeroValue 34).run Try.prog w = .ok (.agg #[.int .i64 0, .int .i64 0, .int .i64 0, .int .i64 0, .int .i64 0, .int .i64 0, .bool false]) w := by kernel_rfl

set_option maxHeartbeats 4000000 in
set_option maxRecDepth 100000 in
theorem delM_any {w : World} {g off cap : Nat} {l : List M} (h : RowM w g off cap l) (p : Nat) (hp : p < l.length) (hl : l.length < 1000000) :
    Calls Try.prog 66 #[.slice (some ⟨g, off, none⟩) l.length cap, .int .i64 p, .int .i64 ((p : Int) + 1)] w fun e w' => e = .returned (.slice (some ⟨g, off, none⟩) (l.length - 1) cap) ∧ RowM w' g off cap (l.eraseIdx p) ∧ KeptC (ext g off (cap * 7)) w w' := by
  have mixed := mixed
  obtain ⟨i0, hi, hz0, hz1, hz2⟩ := info_parts infoM
  have hl' := Lib.hid hl
  have hb := RowIn.bounds h
  have hR1 : RowIn w.drew 34 7 g off p cap ((flat l).take (p * 7)) := by
    have := RowIn.part (RowIn.block h (w' := w.drew) rfl) 0 p (by omega)
    simpa using this
  have hnews : 0 < l.length - (p + 1) → ∃ a : Addr, (if cap = p + 1 then (some ⟨g, off, none⟩ : Option Addr) else some ⟨g, off + (p + 1) * 7, none⟩) = some a ∧ ∀ j u, (flat (l.drop (p + 1)))[j]? = some u → w.drew.cell? (a.add j) = some u := fun h0 => by
    refine ⟨⟨g, off + (p + 1) * 7, none⟩, by rw [if_neg (by omega)], fun j u hj => ?_⟩
    rw [flat_drop, List.getElem?_drop] at hj
    exact RowIn.cellA (RowIn.block h (w' := w.drew) rfl) _ hj
  have hcs : (flat (l.drop (p + 1))).length = (l.length - (p + 1)) * 7 := by rw [flat_length, List.length_drop]
  have hfin : ∀ (w4 w5 : World), Hid (RowIn w4 34 7 g off (l.length - 1) cap ((flat l).take (p * 7) ++ flat (l.drop (p + 1)))) → Hid (KeptC (fun k o => k = g ∧ off + p * 7 ≤ o ∧ o < off + p * 7 + (flat (l.drop (p + 1))).length) w.drew w4) → Hid (RowIn w5 34 7 g off (l.length - 1) cap ((flat l).take (p * 7) ++ flat (l.drop (p + 1)))) →
      Hid (KeptC (ext g off (cap * 7)) w4 w5) → RowM w5 g off cap (l.eraseIdx p) ∧ KeptC (ext g off (cap * 7)) w w5 := by
    intro w4 w5 h4 k4 h5 k5
    refine ⟨?_, ?_⟩
    · unfold RowM
      rw [List.length_eraseIdx_of_lt hp, List.eraseIdx_eq_take_drop_succ, flat_append, flat_take]
      exact h5.out
    · exact ((k4.out.fits (by omega) (by rw [hcs]; omega)).undrew).trans k5.out
  have hf' := Lib.hid hfin
  have hw1 : IntKind.i64.wrap ((p : Int) + 1) = (p : Int) + 1 := IntWalk.i64_in _ (by omega)
  have hc1 : ¬ (p : Int) = (p : Int) + 1 := by omega
  have hc2 : p ≤ p + 1 := by omega
  have hc3 : p + 1 ≤ l.length := by omega
  have hc4 : (p : Int) ≤ (p : Int) + 1 := by omega
  have hc5 : (p : Int) + 1 ≤ (l.length : Int) := by omega
  have hc6 : 0 ≤ (p : Int) + 1 := by omega
  have hc7 : ((p : Int) + 1).toNat = p + 1 := by omega
  have hc8 : l.length ≤ cap := hb.1
  have hc9 : (p : Int) ≤ (cap : Int) := by omega
  have hca : (l.length : Int) ≤ (cap : Int) := by omega
  have hcb : p ≤ cap := by omega
  have hne : ¬ cap = p := by omega
  have hnm : Hid (l.length - 1 = p + (l.length - (p + 1))) := by show _ = _; omega
  have hroom : p + (l.length - (p + 1)) ≤ cap := by omega
  have hone := flat_one (l.drop (p + 1))
  have hne2 : ¬ cap = l.length - 1 := by omega
  have hd1 : l.length - 1 ≤ l.length := by omega
  have hd2 : ((l.length - 1 : Nat) : Int) ≤ (l.length : Int) := by omega
  have hd3 : l.length - (l.length - 1) = 1 := by omega
  have hd4 : l.length - 1 + 1 ≤ cap := by omega
  have hzz := delM_zero
  clear hfin h
  go_enter Try.func66, Try.ntmps66
  go_upto_region 5 with (fail)
  go_region_held3 (fun _ => True) (trivial) (first
    | (refine step_append_roomC rfl (.tmp 22) (.tmp 25) 38 rfl hR1 i0 Try.underlying38 hi hz1 rfl _ (l.length - (p + 1)) _ (flat (l.drop (p + 1))) rfl hcs hnews hone hroom (l.length - 1) hnm.out ?_; intro w4 hr4 hk4))
  clear hnews hR1 hcs hone
  generalize (if cap = p + 1 then (some ⟨g, off, none⟩ : Option Addr) else some ⟨g, off + (p + 1) * 7, none⟩) = ad1
  go_wp2_with (refine wpList_clear_rowC rfl (.tmp 31) 38 rfl hr4.out (.agg #[.int .i64 0, .int .i64 0, .int .i64 0, .int .i64 0, .int .i64 0, .int .i64 0, .bool false]) Try.underlying38 hzz rfl (by simp [Value.cells, Value.oneCell']) (l.length - 1) _ _ _ rfl (by omega) (by omega) (by omega) (by omega) ?_; intro w5 hr5 hk5)
  go_ret
  exact ⟨rfl, hf'.out w4 w5 hr4 hk4 hr5 hk5⟩

/-! A rung above the bottom: its list (what it holds, and the slice's value), and its foot. -/
structure Up where
  v : Value
  L : List M
  foot : M
instance : Inhabited Up := ⟨⟨.slice none 0 0, [], ⟨⟨0, 0, 0⟩, 0, 0, 0, false⟩⟩⟩
def encU (u : Up) : List Value := u.v :: encM u.foot
theorem encU_length (u : Up) : (encU u).length = 8 := rfl
def flatU (l : List Up) : List Value := l.flatMap encU
theorem flatU_length (l : List Up) : (flatU l).length = l.length * 8 := fm_length encU_length l
theorem flatU_take (l : List Up) (p : Nat) : flatU (l.take p) = (flatU l).take (p * 8) := fm_take encU_length l p
theorem flatU_drop (l : List Up) (p : Nat) : flatU (l.drop p) = (flatU l).drop (p * 8) := fm_drop encU_length l p
theorem flatU_append (l l' : List Up) : flatU (l ++ l') = flatU l ++ flatU l' := by unfold flatU; rw [List.flatMap_append]
/-- The values of rungs' slices are of one cell. -/
def OneU (l : List Up) : Prop := ∀ u ∈ l, u.v.oneCell' = true
theorem encU_one {u : Up} (h : u.v.oneCell' = true) : ∀ x ∈ encU u, x.oneCell' = true := by
  intro x hx
  rcases List.mem_cons.1 hx with rfl | hx
  · exact h
  · exact encM_one _ x hx
theorem flatU_one {l : List Up} (h : OneU l) : ∀ u ∈ flatU l, u.oneCell' = true := by
  intro x hx
  unfold flatU at hx
  obtain ⟨u, hu, hx⟩ := List.mem_flatMap.1 hx
  exact encU_one (h u hu) x hx
theorem infoU : (Try.prog.info? 90).map (fun i => (i.zero, i.size, i.bytes)) = some (some (.agg #[.slice none 0 0, .int .i64 0, .int .i64 0, .int .i64 0, .int .i64 0, .int .i64 0, .int .i64 0, .bool false]), 8, 80) := by kernel_rfl
theorem infoU8 : (Try.prog.info? 90).map (·.size) = some 8 := by kernel_rfl
def RowU (w : World) (g off cap : Nat) (l : List Up) : Prop := RowIn w 90 8 g off l.length cap (flatU l)
def AtU (w : World) (v : Value) (l : List Up) : Prop := RowAt w 90 8 v l.length (flatU l)
theorem delU_zero (w : World) : (zeroValue 90).run Try.prog w = .ok (.agg #[.slice none 0 0, .int .i64 0, .int .i64 0, .int .i64 0, .int .i64 0, .int .i64 0, .int .i64 0, .bool false]) w := by kernel_rfl

set_option maxHeartbeats 4000000 in
set_option maxRecDepth 100000 in
theorem delU_any {w : World} {g off cap : Nat} {l : List Up} (h : RowU w g off cap l) (h1 : OneU l) (p : Nat) (hp : p < l.length) (hl : l.length < 1000000) :
    Calls Try.prog 67 #[.slice (some ⟨g, off, none⟩) l.length cap, .int .i64 p, .int .i64 ((p : Int) + 1)] w fun e w' => e = .returned (.slice (some ⟨g, off, none⟩) (l.length - 1) cap) ∧ RowU w' g off cap (l.eraseIdx p) ∧ KeptC (ext g off (cap * 8)) w w' := by
  have mixed := mixed
  obtain ⟨i0, hi, hz0, hz1, hz2⟩ := info_parts infoU
  have hl' := Lib.hid hl
  have hb := RowIn.bounds h
  have hR1 : RowIn w.drew 90 8 g off p cap ((flatU l).take (p * 8)) := by
    have := RowIn.part (RowIn.block h (w' := w.drew) rfl) 0 p (by omega)
    simpa using this
  have hnews : 0 < l.length - (p + 1) → ∃ a : Addr, (if cap = p + 1 then (some ⟨g, off, none⟩ : Option Addr) else some ⟨g, off + (p + 1) * 8, none⟩) = some a ∧ ∀ j u, (flatU (l.drop (p + 1)))[j]? = some u → w.drew.cell? (a.add j) = some u := fun h0 => by
    refine ⟨⟨g, off + (p + 1) * 8, none⟩, by rw [if_neg (by omega)], fun j u hj => ?_⟩
    rw [flatU_drop, List.getElem?_drop] at hj
    exact RowIn.cellA (RowIn.block h (w' := w.drew) rfl) _ hj
  have hcs : (flatU (l.drop (p + 1))).length = (l.length - (p + 1)) * 8 := by rw [flatU_length, List.length_drop]
  have hfin : ∀ (w4 w5 : World), Hid (RowIn w4 90 8 g off (l.length - 1) cap ((flatU l).take (p * 8) ++ flatU (l.drop (p + 1)))) → Hid (KeptC (fun k o => k = g ∧ off + p * 8 ≤ o ∧ o < off + p * 8 + (flatU (l.drop (p + 1))).length) w.drew w4) → Hid (RowIn w5 90 8 g off (l.length - 1) cap ((flatU l).take (p * 8) ++ flatU (l.drop (p + 1)))) →
      Hid (KeptC (ext g off (cap * 8)) w4 w5) → RowU w5 g off cap (l.eraseIdx p) ∧ KeptC (ext g off (cap * 8)) w w5 := by
    intro w4 w5 h4 k4 h5 k5
    refine ⟨?_, ?_⟩
    · unfold RowU
      rw [List.length_eraseIdx_of_lt hp, List.eraseIdx_eq_take_drop_succ, flatU_append, flatU_take]
      exact h5.out
    · exact ((k4.out.fits (by omega) (by rw [hcs]; omega)).undrew).trans k5.out
  have hf' := Lib.hid hfin
  have hw1 : IntKind.i64.wrap ((p : Int) + 1) = (p : Int) + 1 := IntWalk.i64_in _ (by omega)
  have hc1 : ¬ (p : Int) = (p : Int) + 1 := by omega
  have hc2 : p ≤ p + 1 := by omega
  have hc3 : p + 1 ≤ l.length := by omega
  have hc4 : (p : Int) ≤ (p : Int) + 1 := by omega
  have hc5 : (p : Int) + 1 ≤ (l.length : Int) := by omega
  have hc6 : 0 ≤ (p : Int) + 1 := by omega
  have hc7 : ((p : Int) + 1).toNat = p + 1 := by omega
  have hc8 : l.length ≤ cap := hb.1
  have hc9 : (p : Int) ≤ (cap : Int) := by omega
  have hca : (l.length : Int) ≤ (cap : Int) := by omega
  have hcb : p ≤ cap := by omega
  have hne : ¬ cap = p := by omega
  have hnm : Hid (l.length - 1 = p + (l.length - (p + 1))) := by show _ = _; omega
  have hroom : p + (l.length - (p + 1)) ≤ cap := by omega
  have hone := flatU_one (l := l.drop (p + 1)) (fun u hu => h1 u (List.mem_of_mem_drop hu))
  have hne2 : ¬ cap = l.length - 1 := by omega
  have hd1 : l.length - 1 ≤ l.length := by omega
  have hd2 : ((l.length - 1 : Nat) : Int) ≤ (l.length : Int) := by omega
  have hd3 : l.length - (l.length - 1) = 1 := by omega
  have hd4 : l.length - 1 + 1 ≤ cap := by omega
  have hzz := delU_zero
  clear hfin h
  go_enter Try.func67, Try.ntmps67
  go_upto_region 5 with (fail)
  go_region_held3 (fun _ => True) (trivial) (first
    | (refine step_append_roomC rfl (.tmp 22) (.tmp 25) 80 rfl hR1 i0 Try.underlying80 hi hz1 rfl _ (l.length - (p + 1)) _ (flatU (l.drop (p + 1))) rfl hcs hnews hone hroom (l.length - 1) hnm.out ?_; intro w4 hr4 hk4))
  clear hnews hR1 hcs hone
  generalize (if cap = p + 1 then (some ⟨g, off, none⟩ : Option Addr) else some ⟨g, off + (p + 1) * 8, none⟩) = ad1
  go_wp2_with (refine wpList_clear_rowC rfl (.tmp 31) 80 rfl hr4.out (.agg #[.slice none 0 0, .int .i64 0, .int .i64 0, .int .i64 0, .int .i64 0, .int .i64 0, .int .i64 0, .bool false]) Try.underlying80 hzz rfl (by simp [Value.cells, Value.oneCell']) (l.length - 1) _ _ _ rfl (by omega) (by omega) (by omega) (by omega) ?_; intro w5 hr5 hk5)
  go_ret
  exact ⟨rfl, hf'.out w4 w5 hr4 hk4 hr5 hk5⟩
end Go.Proofs.Ytcfpfbemmklbaaa
