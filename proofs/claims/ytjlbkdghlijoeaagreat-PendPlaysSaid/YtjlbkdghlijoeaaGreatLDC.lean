/-
  One put into a slice of messages: slices.Insert.
-/
import Derived.Test.YtjlbkdghlijoeaaGreatLDB
namespace Go.Proofs.YtjlbkdghlijoeaaGreat
open Go.ChangeShapes Go.WideShapes Go.ChangeAt Go.Shelf Go.RowKit Go.Lib Go.Sort Go.Deep
set_option linter.unusedVariables false

section
variable {P : Program} {w : World} {ops : Array Oper} {rest : List Oper} {o : Oper} {a : Act} {Q : Exit → Act → World → Prop} {K : Act → World → Prop} {E : Prop}
theorem wp_copy_rowC (d s : Operand) (dT sT : TypeId) (ho : o.op = .call { callee := .builtin .copy, args := #[d, s], argTypes := #[dT, sT] })
    {e : TypeId} {sz g off n cap : Nat} {xs : List Value} (h : RowIn w e sz g off n cap xs) (el : TypeId) (hu : P.underlying dT = some (.slice el)) (hsz : (P.info? el).map (·.size) = some sz) (dp sp : Option Addr) (dLen dCap sLen sCap p k : Nat) (cs : List Value)
    (hd : a.eval d = .slice dp dLen dCap) (hs : a.eval s = .slice sp sLen sCap) (hcs : cs.length = k * sz) (hk : Nat.min sLen dLen = k)
    (hpos : 0 < k → dp = some ⟨g, off + p * sz, none⟩ ∧ ∃ a : Addr, sp = some a ∧ ∀ j u, cs[j]? = some u → w.cell? (a.add j) = some u) (hfit : p + k ≤ n) (h1 : ∀ u ∈ cs, u.oneCell' = true)
    (hK : ∀ w', Hid (RowIn w' e sz g off n cap (splice xs (p * sz) cs)) → Hid (KeptC (ext g off (cap * sz)) w w') → K (a.put o.dst (.int .i64 k)) w') : o.wp P a w K Q := by
  obtain ⟨w', hrun, r1, r2⟩ := h.copyC (P := P) dT sT o.type el hu hsz dp sp dLen dCap sLen sCap p k cs hcs hk hpos hfit h1
  unfold Oper.wp
  simp [execOp, ho, resolve, invoke, builtin, hd, hs, hrun, Result.andThen]
  exact hK w' r1 r2
theorem wpList_copy_rowC (hgd : o.guard = none) (d s : Operand) (dT sT : TypeId) (ho : o.op = .call { callee := .builtin .copy, args := #[d, s], argTypes := #[dT, sT] })
    {e : TypeId} {sz g off n cap : Nat} {xs : List Value} (h : RowIn w e sz g off n cap xs) (el : TypeId) (hu : P.underlying dT = some (.slice el)) (hsz : (P.info? el).map (·.size) = some sz) (dp sp : Option Addr) (dLen dCap sLen sCap p k : Nat) (cs : List Value)
    (hd : a.eval d = .slice dp dLen dCap) (hs : a.eval s = .slice sp sLen sCap) (hcs : cs.length = k * sz) (hk : Nat.min sLen dLen = k)
    (hpos : 0 < k → dp = some ⟨g, off + p * sz, none⟩ ∧ ∃ a : Addr, sp = some a ∧ ∀ j u, cs[j]? = some u → w.cell? (a.add j) = some u) (hfit : p + k ≤ n) (h1 : ∀ u ∈ cs, u.oneCell' = true)
    (hK : ∀ w', Hid (RowIn w' e sz g off n cap (splice xs (p * sz) cs)) → Hid (KeptC (ext g off (cap * sz)) w w') → wpList P ops Q rest (a.put o.dst (.int .i64 k)) w') : wpList P ops Q (o :: rest) a w :=
  wpList_plain hgd fun K' hK' => wp_copy_rowC d s dT sT ho h el hu hsz dp sp dLen dCap sLen sCap p k cs hd hs hcs hk hpos hfit h1 fun w' r1 r2 => hK' _ _ (hK w' r1 r2)
theorem step_copy_rowC (hgd : o.guard = none) (d s : Operand) (dT sT : TypeId) (ho : o.op = .call { callee := .builtin .copy, args := #[d, s], argTypes := #[dT, sT] })
    {e : TypeId} {sz g off n cap : Nat} {xs : List Value} (h : RowIn w e sz g off n cap xs) (el : TypeId) (hu : P.underlying dT = some (.slice el)) (hsz : (P.info? el).map (·.size) = some sz) (dp sp : Option Addr) (dLen dCap sLen sCap p k : Nat) (cs : List Value)
    (hd : a.eval d = .slice dp dLen dCap) (hs : a.eval s = .slice sp sLen sCap) (hcs : cs.length = k * sz) (hk : Nat.min sLen dLen = k)
    (hpos : 0 < k → dp = some ⟨g, off + p * sz, none⟩ ∧ ∃ a : Addr, sp = some a ∧ ∀ j u, cs[j]? = some u → w.cell? (a.add j) = some u) (hfit : p + k ≤ n) (h1 : ∀ u ∈ cs, u.oneCell' = true)
    (hK : ∀ w', Hid (RowIn w' e sz g off n cap (splice xs (p * sz) cs)) → Hid (KeptC (ext g off (cap * sz)) w w') → K (a.put o.dst (.int .i64 k)) w') : if Region.wanted o (yielded ops a.tmps) = true then Oper.wp P o a w K Q else E := by
  have hw : Region.wanted o (yielded ops a.tmps) = true := by simp [Region.wanted, hgd]
  rw [if_pos hw]
  exact wp_copy_rowC d s dT sT ho h el hu hsz dp sp dLen dCap sLen sCap p k cs hd hs hcs hk hpos hfit h1 hK
theorem wp_append_rowC (s x : Operand) (t : TypeId) (ho : o.op = .call { callee := .builtin .append, args := #[s, x], argTypes := #[t, t] })
    {e : TypeId} {sz n : Nat} {v : Value} {xs : List Value} (h : RowAt w e sz v n xs) (i : TypeInfo) (z : Value) (bytes : Nat) (ht : P.underlying t = some (.slice e)) (hi : P.info? e = some i) (hz : i.zero = some z) (hsize : i.size = sz) (hby : i.bytes = bytes)
    (hzs : z.cells.size = sz) (hsz : 0 < sz) (hs : a.eval s = v) {u : Value} {m : Nat} {news : List Value} (hx : a.eval x = u) (hu : RowAt w e sz u m news) (h1 : ∀ u ∈ news, u.oneCell' = true) (h63 : n + m ≤ maxLen) (hbytes : (n + m) * bytes ≤ 140737488355328)
    (hK : ∀ v' w', Hid (RowAt w' e sz v' (n + m) (xs ++ news)) → Hid (KeptC (vext v sz) w w') → Hid (∀ k o, vext v' sz k o → vext v sz k o ∨ w.heap.size ≤ k) → K (a.put o.dst v') w') : o.wp P a w K Q := by
  obtain ⟨v', w', hrun, r1, r2, r3⟩ := h.appendC (P := P) t o.type i z bytes ht hi hz hsize hby hzs hsz hu h1 h63 hbytes
  exact Lib.wp_append_run w s x t t ho _ _ hs hx _ _ hrun (hK v' w' r1 r2 r3)
theorem wpList_append_rowC (hgd : o.guard = none) (s x : Operand) (t : TypeId) (ho : o.op = .call { callee := .builtin .append, args := #[s, x], argTypes := #[t, t] })
    {e : TypeId} {sz n : Nat} {v : Value} {xs : List Value} (h : RowAt w e sz v n xs) (i : TypeInfo) (z : Value) (bytes : Nat) (ht : P.underlying t = some (.slice e)) (hi : P.info? e = some i) (hz : i.zero = some z) (hsize : i.size = sz) (hby : i.bytes = bytes)
    (hzs : z.cells.size = sz) (hsz : 0 < sz) (hs : a.eval s = v) {u : Value} {m : Nat} {news : List Value} (hx : a.eval x = u) (hu : RowAt w e sz u m news) (h1 : ∀ u ∈ news, u.oneCell' = true) (h63 : n + m ≤ maxLen) (hbytes : (n + m) * bytes ≤ 140737488355328)
    (hK : ∀ v' w', Hid (RowAt w' e sz v' (n + m) (xs ++ news)) → Hid (KeptC (vext v sz) w w') → Hid (∀ k o, vext v' sz k o → vext v sz k o ∨ w.heap.size ≤ k) → wpList P ops Q rest (a.put o.dst v') w') : wpList P ops Q (o :: rest) a w :=
  wpList_plain hgd fun K' hK' => wp_append_rowC s x t ho h i z bytes ht hi hz hsize hby hzs hsz hs hx hu h1 h63 hbytes fun v' w' r1 r2 r3 => hK' _ _ (hK v' w' r1 r2 r3)
theorem step_append_rowC (hgd : o.guard = none) (s x : Operand) (t : TypeId) (ho : o.op = .call { callee := .builtin .append, args := #[s, x], argTypes := #[t, t] })
    {e : TypeId} {sz n : Nat} {v : Value} {xs : List Value} (h : RowAt w e sz v n xs) (i : TypeInfo) (z : Value) (bytes : Nat) (ht : P.underlying t = some (.slice e)) (hi : P.info? e = some i) (hz : i.zero = some z) (hsize : i.size = sz) (hby : i.bytes = bytes)
    (hzs : z.cells.size = sz) (hsz : 0 < sz) (hs : a.eval s = v) {u : Value} {m : Nat} {news : List Value} (hx : a.eval x = u) (hu : RowAt w e sz u m news) (h1 : ∀ u ∈ news, u.oneCell' = true) (h63 : n + m ≤ maxLen) (hbytes : (n + m) * bytes ≤ 140737488355328)
    (hK : ∀ v' w', Hid (RowAt w' e sz v' (n + m) (xs ++ news)) → Hid (KeptC (vext v sz) w w') → Hid (∀ k o, vext v' sz k o → vext v sz k o ∨ w.heap.size ≤ k) → K (a.put o.dst v') w') : if Region.wanted o (yielded ops a.tmps) = true then Oper.wp P o a w K Q else E := by
  have hw : Region.wanted o (yielded ops a.tmps) = true := by simp [Region.wanted, hgd]
  rw [if_pos hw]
  exact wp_append_rowC s x t ho h i z bytes ht hi hz hsize hby hzs hsz hs hx hu h1 h63 hbytes hK
theorem wpList_append_zerosC (hgd : o.guard = none) (s x : Operand) (t tn : TypeId) (ho : o.op = .call { callee := .builtin .append, args := #[s, x], argTypes := #[t, tn] })
    {e : TypeId} {sz g off n cap : Nat} {xs : List Value} (h : RowIn w e sz g off n cap xs) (i : TypeInfo) (z : Value) (kq kn : IntKind) (ht : P.underlying t = some (.slice e)) (htn : P.underlying tn = some (.int kn)) (hi : P.info? e = some i) (hz : i.zero = some z) (hsize : i.size = sz)
    (hzs : z.cells.size = sz) (hsz : 0 < sz) (hs : a.eval s = .slice (some ⟨g, off, none⟩) n cap) (k : Nat) (ki : Int) (hx : a.eval x = .int kq ki) (hki : ki = k) (hg : cap < n + k) (h63 : n + k ≤ maxLen) (hbytes : (n + k) * i.bytes ≤ 140737488355328) (nk : Nat) (hnk : nk = n + k)
    (hK : ∀ g' cap' w' zs, Hid (RowIn w' e sz g' 0 nk cap' (xs ++ zs)) → Hid (Below w.heap.size w w') → Hid (g' = w.heap.size) → wpList P ops Q rest (a.put o.dst (.slice (some ⟨g', 0, none⟩) nk cap')) w') : wpList P ops Q (o :: rest) a w := by
  subst hnk
  subst hki
  obtain ⟨g', cap', w', zs, hrun, r1, r2, r3⟩ := h.zerosC (P := P) t tn o.type i z kq kn ht htn hi hz hsize hzs hsz k hg h63 hbytes
  exact Lib.wpList_append_run w hgd s x t tn ho _ _ hs hx _ _ hrun (hK g' cap' w' zs r1 r2 r3)
end

theorem RowIn.longer {w : World} {e : TypeId} {sz g off n cap m : Nat} {xs : List Value} (h : RowIn w e sz g off n cap xs) (hm : n + m ≤ cap) : ∃ ys : List Value, ys.length = m * sz ∧ RowIn w e sz g off (n + m) cap (xs ++ ys) := by
  obtain ⟨cur, h0, h1, h2, h3, h4, h5⟩ := h
  have e1 : (n + m) * sz ≤ cap * sz := Nat.mul_le_mul_right _ hm
  rw [Nat.add_mul] at e1
  have hc : cur.toList.length = cur.size := Array.length_toList
  have hy : ((cur.toList.drop (off + n * sz)).take (m * sz)).length = m * sz := by rw [List.length_take, List.length_drop]; omega
  refine ⟨(cur.toList.drop (off + n * sz)).take (m * sz), hy, cur, h0, hm, h2, h3, ?_, fun j u hj => ?_⟩
  · rw [List.length_append, hy, h4, Nat.add_mul]
  · by_cases hj1 : j < n * sz
    · rw [List.getElem?_append_left (by omega)] at hj
      exact h5 j u hj
    · rw [List.getElem?_append_right (by omega)] at hj
      have hlt := (List.getElem?_eq_some_iff.1 hj).1
      rw [hy] at hlt
      rw [List.getElem?_take_of_lt hlt, List.getElem?_drop, Array.getElem?_toList, show off + n * sz + (j - xs.length) = off + j by omega] at hj
      exact hj
theorem splice_shift {α : Type} (A ys cs : List α) (a b : Nat) (ha : a ≤ A.length) (hy : ys.length = b) (hc : cs.length = b) : splice (splice (A ++ ys) (a + b) (A.drop a)) a cs = A.take a ++ (cs ++ A.drop a) := by
  have l1 : (a + b) + (A.drop a).length ≤ (A ++ ys).length := by rw [List.length_drop, List.length_append]; omega
  have l2 : a + cs.length ≤ (splice (A ++ ys) (a + b) (A.drop a)).length := by rw [length_splice _ _ _ l1, List.length_append]; omega
  have lt : (A.take a).length = a := by rw [List.length_take]; omega
  apply List.ext_getElem?
  intro j
  rw [splice_get _ _ _ l2, splice_get _ _ _ l1]
  by_cases h1 : j < a
  · rw [if_pos h1, if_pos (by omega), List.getElem?_append_left (by omega), List.getElem?_append_left (by omega), List.getElem?_take_of_lt h1]
  · rw [if_neg h1, List.getElem?_append_right (l₁ := A.take a) (by omega), lt]
    by_cases h2 : j < a + b
    · rw [if_pos (by omega), List.getElem?_append_left (by omega)]
    · rw [if_neg (by omega), if_neg (by omega), List.getElem?_append_right (l₁ := cs) (by omega)]
      by_cases h3 : j < a + b + (A.drop a).length
      · rw [if_pos h3, show j - (a + b) = j - a - cs.length by omega]
      · rw [if_neg h3, List.getElem?_eq_none (by rw [List.length_append]; rw [List.length_drop] at h3; omega), List.getElem?_eq_none (by omega)]
theorem splice_grow {α : Type} (A zs cs D : List α) (a b : Nat) (ha : A.length = a) (hc : cs.length = b) (hz : zs.length = b + D.length) : splice (splice (A ++ zs) a cs) (a + b) D = A ++ (cs ++ D) := by
  have l1 : a + cs.length ≤ (A ++ zs).length := by rw [List.length_append]; omega
  have l2 : (a + b) + D.length ≤ (splice (A ++ zs) a cs).length := by rw [length_splice _ _ _ l1, List.length_append]; omega
  apply List.ext_getElem?
  intro j
  rw [splice_get _ _ _ l2, splice_get _ _ _ l1]
  by_cases h1 : j < a
  · rw [if_pos (by omega), if_pos h1, List.getElem?_append_left (by omega), List.getElem?_append_left (by omega)]
  · rw [List.getElem?_append_right (l₁ := A) (l₂ := cs ++ D) (by omega), ha]
    by_cases h2 : j < a + b
    · rw [if_pos h2, if_neg h1, if_pos (by omega), List.getElem?_append_left (l₁ := cs) (by omega)]
    · rw [if_neg h2, List.getElem?_append_right (l₁ := cs) (by omega)]
      by_cases h3 : j < a + b + D.length
      · rw [if_pos h3, show j - (a + b) = j - a - cs.length by omega]
      · rw [if_neg h3, if_neg h1, if_neg (by omega), List.getElem?_eq_none (by rw [List.length_append]; omega), List.getElem?_eq_none (by omega)]
theorem flat_one_m (m : M) : flat [m] = encM m := by simp [flat]
theorem flat_ins (l : List M) (p : Nat) (m : M) : flat (l.take p ++ m :: l.drop p) = (flat l).take (p * 7) ++ (flat [m] ++ (flat l).drop (p * 7)) := by
  rw [show m :: l.drop p = [m] ++ l.drop p from rfl, flat_append, flat_append, flat_take, flat_drop]
theorem BoxM.rowIn {w : World} {B : Nat} {m : M} (h : BoxM w B m) : RowIn w 34 7 B 0 1 1 (flat [m]) := by
  rw [flat_one_m]
  exact RowIn.of_block h rfl
theorem BoxM.keptC {E : Nat → Nat → Prop} {w w' : World} {B : Nat} {m : M} (h : BoxM w B m) (hk : KeptC E w w') (hn : ∀ o, ¬ E B o) : BoxM w' B m := (hk.block B h.lt hn).trans h
theorem drew_over (w : World) : w.drew.heap = w.heap := rfl

/-- What a put into a slice gives. -/
def InsRes (w : World) (v : Value) (l : List M) (p : Nat) (m : M) (e : Ending) (w' : World) : Prop :=
  ∃ g off cap, e = .returned (.slice (some ⟨g, off, none⟩) (l.length + 1) cap) ∧ RowM w' g off cap (l.take p ++ m :: l.drop p) ∧ KeptC (vext v 7) w w' ∧ ∀ k o, ext g off (cap * 7) k o → vext v 7 k o ∨ w.heap.size ≤ k
theorem ins_len (l : List M) (p : Nat) (hp : p ≤ l.length) (m : M) : (l.take p ++ m :: l.drop p).length = l.length + 1 := by simp; omega

set_option maxHeartbeats 4000000 in
set_option maxRecDepth 100000 in
/-- At the end. -/
theorem insM_end {w : World} {v : Value} {l : List M} (h : AtM w v l) {B : Nat} {m : M} (hB : BoxM w B m) (hl : l.length < 1000000) :
    Calls Tryz.prog 143 #[v, .int .i64 l.length, .slice (some ⟨B, 0, none⟩) 1 1] w fun e w' => InsRes w v l l.length m e w' := by
  have mixed := mixed
  obtain ⟨i0, hi, hz0, hz1, hz2⟩ := info_parts infoM
  have hu := hB.rowIn.at_
  have hR : Hid (RowAt w 34 7 v l.length (flat l)) := h
  have hfin : ∀ v' w', Hid (RowAt w' 34 7 v' (l.length + 1) (flat l ++ flat [m])) → Hid (KeptC (vext v 7) w w') → Hid (∀ k o, vext v' 7 k o → vext v 7 k o ∨ w.heap.size ≤ k) → InsRes w v l l.length m (.returned v') w' := by
    intro v' w' r1 r2 r3
    obtain ⟨g, off, cap, rfl, hr⟩ := RowAt.form r1.out (by omega)
    refine ⟨g, off, cap, rfl, ?_, r2.out, fun k o e => r3.out k o (vext_some.2 e)⟩
    unfold RowM
    rw [ins_len l _ (Nat.le_refl _), List.take_length, List.drop_length, flat_append]
    exact hr
  have hf' := Lib.hid hfin
  obtain ⟨ad, cap, rfl, hcap⟩ := RowAt.shape h
  have h0 : ad = none → l.length = 0 := by
    rintro rfl
    rcases h with ⟨_, e, _⟩ | ⟨g, off, cap', e, _⟩
    · exact e
    · cases e
  have h0' := Lib.hid h0
  have hl' := Lib.hid hl
  clear hfin h h0 hl
  generalize l.length = n at *
  have h63 : n + 1 ≤ maxLen := by unfold maxLen; have := hl'.out; omega
  have hby : (n + 1) * 56 ≤ 140737488355328 := by have := hl'.out; omega
  go_enter Tryz.func143, Tryz.ntmps143
  cases ad with
  | none =>
    obtain rfl : n = 0 := h0'.out rfl
    go_wp2_with (at_builtin; refine wpList_append_rowC rfl (.tmp 23) (.tmp 24) 38 rfl hR.out i0 _ 56 Tryz.underlying38 hi hz0 hz1 hz2 rfl (by omega) rfl rfl hu (flat_one _) h63 hby ?_; intro v' w' r1 r2 r3)
    go_ret
    exact hf'.out v' w' r1 r2 r3
  | some a =>
    obtain ⟨ab, ao, asp⟩ := a
    go_wp2_with (at_builtin; refine wpList_append_rowC rfl (.tmp 23) (.tmp 24) 38 rfl hR.out i0 _ 56 Tryz.underlying38 hi hz0 hz1 hz2 rfl (by omega) rfl rfl hu (flat_one _) h63 hby ?_; intro v' w' r1 r2 r3)
    all_goals
      go_ret
      first
        | exact hf'.out v' w' r1 r2 r3
        | (have hh : cap = n := by assumption
           subst hh
           exact hf'.out v' w' r1 r2 r3)

set_option maxHeartbeats 4000000 in
set_option maxRecDepth 100000 in
/-- Ahead of some, where there is room. -/
theorem insM_room {w : World} {g off cap : Nat} {l : List M} (h : RowM w g off cap l) (p : Nat) (hp : p < l.length) {B : Nat} {m : M} (hB : BoxM w B m) (hBg : B ≠ g) (hl : l.length < 1000000) (hroom : l.length + 1 ≤ cap) :
    Calls Tryz.prog 143 #[.slice (some ⟨g, off, none⟩) l.length cap, .int .i64 p, .slice (some ⟨B, 0, none⟩) 1 1] w fun e w' => InsRes w (.slice (some ⟨g, off, none⟩) l.length cap) l p m e w' := by
  have mixed := mixed
  have hl' := Lib.hid hl
  obtain ⟨ys, hy, hR0⟩ := RowIn.longer h hroom
  have hb := RowIn.bounds h
  have hgb : ∃ t k, w.shape? g = some (t, k + 1) := by
    obtain ⟨cur, h0, h1, h2, h3, h4, h5⟩ := h
    have e1 : 1 * 7 ≤ cap * 7 := Nat.mul_le_mul_right _ (by omega)
    refine ⟨34, cur.size - 1, ?_⟩
    simp [World.shape?, h0]
    omega
  obtain ⟨tB, kB, hsb⟩ := hgb
  have hsa : w.shape? B = some (34, 7) := by
    unfold BoxM at hB
    simp [World.shape?, hB, M.cells]
  have hov : ∀ lb cb, (callFunc 147 #[.slice (some ⟨B, 0, none⟩) 1 1, .slice (some ⟨g, off + (p + 1) * 7, none⟩) lb cb]).run Tryz.prog w = .ok (.value (.bool false)) w := fun lb cb => by
    rw [run_callFunc_extern Tryz.func147 (by kernel_rfl) (by kernel_rfl) (by kernel_rfl) (e := Extern.SlicesOverlaps.overlaps #[38, 38] #[4]) (by kernel_rfl),
      Lib.run_overlaps_apart w 38 4 34 Tryz.underlying38 7 Tryz.sizeOf34 ⟨B, 0, none⟩ ⟨g, off + (p + 1) * 7, none⟩ 1 1 lb cb hBg 34 tB 7 (kB + 1) hsa hsb (by omega) (hB.fz 0) (hB.fz 7)]
    rfl
  have hw1 : IntKind.i64.wrap ((l.length : Int) + 1) = (l.length : Int) + 1 := IntWalk.i64_in _ (by omega)
  have hw2 : IntKind.i64.wrap ((p : Int) + 1) = (p : Int) + 1 := IntWalk.i64_in _ (by omega)
  have hc1 : ¬ (p : Int) = (l.length : Int) := by omega
  have hc2 : ¬ (cap : Int) < (l.length : Int) + 1 := by omega
  have hc3 : 0 ≤ (l.length : Int) + 1 := by omega
  have hc4 : ((l.length : Int) + 1).toNat = l.length + 1 := by omega
  have hc5 : (l.length : Int) + 1 ≤ (cap : Int) := by omega
  have hc6 : 0 ≤ (p : Int) + 1 := by omega
  have hc7 : ((p : Int) + 1).toNat = p + 1 := by omega
  have hc8 : (p : Int) + 1 ≤ (l.length : Int) + 1 := by omega
  have hc9 : p + 1 ≤ l.length + 1 := by omega
  have hca : p ≤ l.length := by omega
  have hcb : p ≤ l.length + 1 := by omega
  have hcc : (p : Int) ≤ (l.length : Int) := by omega
  have hcd : (p : Int) ≤ (l.length : Int) + 1 := by omega
  have hn1 : ¬ cap = p + 1 := by omega
  have hn2 : ¬ cap = p := by omega
  have hR1 : RowIn w.drew 34 7 g off (l.length + 1) cap (flat l ++ ys) := RowIn.block hR0 rfl
  have hcs : (flat (l.drop p)).length = (l.length - p) * 7 := by rw [flat_length, List.length_drop]
  have hmn : Nat.min (l.length + 1 - p) (l.length - p) = l.length - p := by show min _ _ = _; omega
  have hsrc : ∀ j u, (flat (l.drop p))[j]? = some u → w.drew.cell? ((⟨g, off + p * 7, none⟩ : Addr).add j) = some u := fun j u hj => by
    have hlt := (List.getElem?_eq_some_iff.1 hj).1
    rw [hcs] at hlt
    rw [flat_drop, List.getElem?_drop] at hj
    exact hR1.cellA _ (by rw [List.getElem?_append_left (by rw [flat_length]; have : (l.length - p) * 7 = l.length * 7 - p * 7 := Nat.sub_mul ..; omega)]; exact hj)
  have hmn2 : Nat.min 1 (l.length + 1 - p) = 1 := by show min _ _ = _; omega
  have hone := flat_one (l.drop p)
  have hone1 := flat_one [m]
  have hBd : BoxM w.drew B m := hB
  have hB4 : Hid (∀ w4, Hid (KeptC (ext g off (cap * 7)) w.drew w4) → ∀ j u, (flat [m])[j]? = some u → w4.cell? ((⟨B, 0, none⟩ : Addr).add j) = some u) := fun w4 hk j u hj => by
    have hb4 := hBd.keptC hk.out (fun o e => hBg e.1)
    rw [Addr.add_lit]
    exact hb4.rowIn.cell hj
  have hfin : Hid (∀ w4 w5, Hid (KeptC (ext g off (cap * 7)) w.drew w4) → Hid (RowIn w5 34 7 g off (l.length + 1) cap (splice (splice (flat l ++ ys) ((p + 1) * 7) (flat (l.drop p))) (p * 7) (flat [m]))) → Hid (KeptC (ext g off (cap * 7)) w4 w5) →
      InsRes w (.slice (some ⟨g, off, none⟩) l.length cap) l p m (.returned (.slice (some ⟨g, off, none⟩) (l.length + 1) cap)) w5) := by
    intro w4 w5 k4 r5 k5
    refine ⟨g, off, cap, rfl, ?_, (k4.out.undrew.trans k5.out).mono (fun k o _ e => vext_some.2 e), fun k o e => .inl (vext_some.2 e)⟩
    unfold RowM
    rw [ins_len l p (by omega), flat_ins, ← splice_shift (flat l) ys (flat [m]) (p * 7) 7 (by rw [flat_length]; omega) (by omega) (by rw [flat_length]; rfl)]
    have e1 : p * 7 + 7 = (p + 1) * 7 := by rw [Nat.add_mul]
    rw [e1, ← flat_drop]
    exact r5
  clear h hR0 hsa hsb hB hBd hy
  go_enter Tryz.func143, Tryz.ntmps143
  go_upto_region 15 with (simp only [hov])
  go_region_held3 (fun _ => True) (trivial) (first
    | (refine step_copy_rowC rfl (.tmp 73) (.tmp 76) 38 38 rfl hR1 34 Tryz.underlying38 infoS _ _ _ _ _ _ (p + 1) (l.length - p) (flat (l.drop p)) rfl rfl hcs hmn (fun h0 => ⟨rfl, _, rfl, hsrc⟩) (by omega) hone ?_; intro w4 hr4 hk4))
  clear hov hsrc hR1 hcs hmn
  go_wp2_with (refine wpList_copy_rowC rfl (.tmp 80) (.tmp 81) 38 38 rfl hr4.out 34 Tryz.underlying38 infoS _ _ _ _ _ _ p 1 (flat [m]) rfl rfl rfl hmn2 (fun h0 => ⟨rfl, _, rfl, hB4.out w4 hk4⟩) (by omega) hone1 ?_; intro w5 hr5 hk5)
  go_ret
  exact hfin.out w4 w5 hk4 hr5 hk5

set_option maxHeartbeats 4000000 in
set_option maxRecDepth 100000 in
/-- Ahead of some, where there is no room. -/
theorem insM_grow {w : World} {g off cap : Nat} {l : List M} (h : RowM w g off cap l) (p : Nat) (hp : p < l.length) {B : Nat} {m : M} (hB : BoxM w B m) (hl : l.length < 1000000) (hroom : ¬ l.length + 1 ≤ cap) :
    Calls Tryz.prog 143 #[.slice (some ⟨g, off, none⟩) l.length cap, .int .i64 p, .slice (some ⟨B, 0, none⟩) 1 1] w fun e w' => InsRes w (.slice (some ⟨g, off, none⟩) l.length cap) l p m e w' := by
  have mixed := mixed
  obtain ⟨i0, hi, hz0, hz1, hz2⟩ := info_parts infoM
  have hl' := Lib.hid hl
  have hb := RowIn.bounds h
  have hR1 : RowIn w 34 7 g off p cap ((flat l).take (p * 7)) := by
    have := RowIn.part h 0 p (by omega)
    simpa using this
  have hw1 : IntKind.i64.wrap ((l.length : Int) + 1) = (l.length : Int) + 1 := IntWalk.i64_in _ (by omega)
  have hw2 : IntKind.i64.wrap ((p : Int) + 1) = (p : Int) + 1 := IntWalk.i64_in _ (by omega)
  have hw3 : IntKind.i64.wrap ((l.length : Int) + 1 - (p : Int)) = (l.length : Int) + 1 - (p : Int) := IntWalk.i64_in _ (by omega)
  have hc1 : ¬ (p : Int) = (l.length : Int) := by omega
  have hc2 : (cap : Int) < (l.length : Int) + 1 := by omega
  have hc6 : 0 ≤ (p : Int) + 1 := by omega
  have hc7 : ((p : Int) + 1).toNat = p + 1 := by omega
  have hc8 : (p : Int) + 1 ≤ (l.length : Int) + 1 := by omega
  have hc9 : p + 1 ≤ l.length + 1 := by omega
  have hca : p ≤ l.length := by omega
  have hcb : p ≤ l.length + 1 := by omega
  have hcc : (p : Int) ≤ (l.length : Int) := by omega
  have hcd : (p : Int) ≤ (l.length : Int) + 1 := by omega
  have hce : (p : Int) ≤ (cap : Int) := by omega
  have hcf : p ≤ cap := by omega
  have hn2 : ¬ cap = p := by omega
  have hnk : Hid (l.length + 1 = p + (l.length + 1 - p)) := by show _ = _; omega
  have hcs : (flat (l.drop p)).length = (l.length - p) * 7 := by rw [flat_length, List.length_drop]
  have hmn : Nat.min 1 (l.length + 1 - p) = 1 := by show min _ _ = _; omega
  have hmn2 : Nat.min (l.length - p) (l.length - p) = l.length - p := Nat.min_self _
  have hone := flat_one (l.drop p)
  have hone1 := flat_one [m]
  have hby : (p + (l.length + 1 - p)) * i0.bytes ≤ 140737488355328 := by rw [hz2]; omega
  have h63 : p + (l.length + 1 - p) ≤ maxLen := by unfold maxLen; omega
  have hg1 : cap < p + (l.length + 1 - p) := by omega
  have hgw : g < w.heap.size := RowIn.lt h
  have hBw := hB.lt
  have hB4 : Hid (∀ w2, Hid (Below w.heap.size w w2) → ∀ j u, (flat [m])[j]? = some u → w2.cell? ((⟨B, 0, none⟩ : Addr).add j) = some u) := fun w2 hk j u hj => by
    rw [Addr.add_lit]
    exact (hB.below hk.out).rowIn.cell hj
  have hsrc : Hid (∀ w2 w3 c, Hid (Below w.heap.size w w2) → Hid (KeptC (ext w.heap.size 0 c) w2 w3) → ∀ j u, (flat (l.drop p))[j]? = some u → w3.drew.cell? ((⟨g, off + p * 7, none⟩ : Addr).add j) = some u) := fun w2 w3 c h2 h3 j u hj => by
    have r2 : RowM w2 g off cap l := h.kept0 h2.out
    have r3 : RowIn w3 34 7 g off l.length cap (flat l) := RowIn.keptC r2 h3.out (fun o _ e => by have := e.1; omega)
    have r4 : RowIn w3.drew 34 7 g off l.length cap (flat l) := RowIn.block r3 rfl
    rw [flat_drop, List.getElem?_drop] at hj
    exact r4.cellA _ hj
  have hfin : Hid (∀ g' cap' w2 w3 w4 zs, Hid (RowIn w2 34 7 g' 0 (l.length + 1) cap' ((flat l).take (p * 7) ++ zs)) → Hid (Below w.heap.size w w2) → Hid (g' = w.heap.size) → Hid (KeptC (ext g' 0 (cap' * 7)) w2 w3) → Hid (RowIn w4 34 7 g' 0 (l.length + 1) cap' (splice (splice ((flat l).take (p * 7) ++ zs) (p * 7) (flat [m])) ((p + 1) * 7) (flat (l.drop p)))) → Hid (KeptC (ext g' 0 (cap' * 7)) w3.drew w4) →
      InsRes w (.slice (some ⟨g, off, none⟩) l.length cap) l p m (.returned (.slice (some ⟨g', 0, none⟩) (l.length + 1) cap')) w4) := by
    intro g' cap' w2 w3 w4 zs r2 h2 hg' k3 r4 k4
    have hgg := hg'.out
    refine ⟨g', 0, cap', rfl, ?_, (((KeptC.of_below h2.out).then_new k3.out (fun k o hk e => by have := e.1; omega)).then_new k4.out.undrew (fun k o hk e => by have := e.1; omega)), fun k o e => .inr (by have := e.1; omega)⟩
    unfold RowM
    have hzl : zs.length = 7 + (flat (l.drop p)).length := by
      have := r2.out.bounds.2.2
      rw [List.length_append, List.length_take, flat_length] at this
      rw [hcs]
      omega
    have e1 : p * 7 + 7 = (p + 1) * 7 := by rw [Nat.add_mul]
    have e2 := splice_grow ((flat l).take (p * 7)) zs (flat [m]) (flat (l.drop p)) (p * 7) 7 (by rw [List.length_take, flat_length]; omega) (by rw [flat_length]; rfl) hzl
    rw [e1] at e2
    rw [ins_len l p (by omega), flat_ins, ← flat_drop, ← e2]
    exact r4
  clear h hB
  go_enter Tryz.func143, Tryz.ntmps143
  go_upto_region 10 with (at_builtin; refine wpList_append_zerosC rfl (.tmp 34) (.tmp 39) 38 3 rfl hR1 i0 _ .i64 .i64 Tryz.underlying38 Tryz.underlying3 hi hz0 hz1 rfl (by omega) rfl (l.length + 1 - p) _ rfl (by omega) hg1 h63 hby (l.length + 1) hnk.out ?_; intro g' cap' w2 zs hr2 hb2 hg2)
  have hcap' := hr2.out.bounds
  have hn3 : ¬ cap' = p := by omega
  have hn4 : ¬ cap' = p + 1 := by omega
  have hc3 : (p : Int) ≤ (cap' : Int) := by omega
  go_upto_region 11 with (refine wpList_copy_rowC rfl (.tmp 43) (.tmp 44) 38 38 rfl hr2.out 34 Tryz.underlying38 infoS _ _ _ _ _ _ p 1 (flat [m]) rfl rfl rfl hmn (fun h0 => ⟨by rw [Nat.zero_add], _, rfl, hB4.out w2 hb2⟩) (by omega) hone1 ?_; intro w3 hr3 hk3)
  have hR3 : RowIn w3.drew 34 7 g' 0 (l.length + 1) cap' (splice ((flat l).take (p * 7) ++ zs) (p * 7) (flat [m])) := RowIn.block hr3.out rfl
  have hsrc3 := hsrc.out w2 w3 _ hb2 (hg2.out ▸ hk3)
  go_region_held3 (fun _ => True) (trivial) (first
    | (refine step_copy_rowC rfl (.tmp 50) (.tmp 53) 38 38 rfl hR3 34 Tryz.underlying38 infoS _ _ _ _ _ _ (p + 1) (l.length - p) (flat (l.drop p)) rfl rfl hcs hmn2 (fun h0 => ⟨by rw [Nat.zero_add], _, rfl, hsrc3⟩) (by omega) hone ?_; intro w4 hr4 hk4))
  go_wp2
  go_ret
  exact hfin.out g' cap' w2 w3 w4 zs hr2 hb2 hg2 hk3 hr4 hk4

/-- Any. -/
theorem insM_any {w : World} {v : Value} {l : List M} (h : AtM w v l) (p : Nat) (hp : p ≤ l.length) {B : Nat} {m : M} (hB : BoxM w B m) (hBv : v.ownBlock ≠ some B) (hl : l.length < 1000000) :
    Calls Tryz.prog 143 #[v, .int .i64 p, .slice (some ⟨B, 0, none⟩) 1 1] w fun e w' => InsRes w v l p m e w' := by
  by_cases h1 : p = l.length
  · subst h1
    exact insM_end h hB hl
  · obtain ⟨g, off, cap, rfl, hr⟩ := AtM.form h (by omega)
    by_cases h2 : l.length + 1 ≤ cap
    · exact insM_room hr p (by omega) hB (fun e => hBv (by rw [e]; rfl)) hl h2
    · exact insM_grow hr p (by omega) hB hl h2
end Go.Proofs.YtjlbkdghlijoeaaGreat
