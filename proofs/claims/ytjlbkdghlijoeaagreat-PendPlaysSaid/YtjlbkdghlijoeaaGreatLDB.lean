/-
  What a step turns, cell by cell; rows of a slice, cell by cell.
  One taken out of a slice: slices.Delete, at messages and at rungs.
-/
import Derived.Test.YtjlbkdghlijoeaaGreatHB
import Derived.Lib.AppendZerosOnto
import Derived.Lib.Overlaps
import Derived.Test.YtjlbkdghlijoeaaGreatYC
namespace Go.Proofs.YtjlbkdghlijoeaaGreat
open Go.ChangeShapes Go.WideShapes Go.ChangeAt Go.Shelf Go.RowKit Go.Lib Go.Sort Go.Deep
set_option linter.unusedVariables false

/-- w' is w but for the cells of E, and new blocks; a block of cells stays one. -/
structure KeptC (E : Nat → Nat → Prop) (w w' : World) : Prop where
  os : w'.os = w.os
  tape : w'.tape = w.tape
  output : w'.output = w.output
  size : w.heap.size ≤ w'.heap.size
  block : ∀ k, k < w.heap.size → (∀ o, ¬ E k o) → w'.heap[k]? = w.heap[k]?
  part : ∀ k cur e, w.heap[k]? = some (.cells cur e (0, 0)) → ∃ cur', w'.heap[k]? = some (.cells cur' e (0, 0)) ∧ cur'.size = cur.size ∧ ∀ o, ¬ E k o → cur'[o]? = cur[o]?
theorem KeptC.refl (E : Nat → Nat → Prop) (w : World) : KeptC E w w := ⟨rfl, rfl, rfl, Nat.le_refl _, fun _ _ _ => rfl, fun k cur e h => ⟨cur, h, rfl, fun _ _ => rfl⟩⟩
theorem KeptC.then_new {E E' : Nat → Nat → Prop} {a b c : World} (h : KeptC E a b) (h' : KeptC E' b c) (hs : ∀ k o, k < a.heap.size → E' k o → E k o) : KeptC E a c :=
  ⟨h'.os.trans h.os, h'.tape.trans h.tape, h'.output.trans h.output, Nat.le_trans h.size h'.size,
    fun k hk hn => (h'.block k (Nat.lt_of_lt_of_le hk h.size) (fun o e => hn o (hs k o hk e))).trans (h.block k hk hn),
    fun k cur e hc => by
      have hk : k < a.heap.size := (Array.getElem?_eq_some_iff.1 hc).1
      obtain ⟨c1, h1, s1, p1⟩ := h.part k cur e hc
      obtain ⟨c2, h2, s2, p2⟩ := h'.part k c1 e h1
      exact ⟨c2, h2, s2.trans s1, fun o ho => (p2 o (fun e => ho (hs k o hk e))).trans (p1 o ho)⟩⟩
theorem KeptC.trans {E : Nat → Nat → Prop} {a b c : World} (h : KeptC E a b) (h' : KeptC E b c) : KeptC E a c := h.then_new h' (fun _ _ _ e => e)
theorem KeptC.mono {E E' : Nat → Nat → Prop} {a b : World} (h : KeptC E a b) (hs : ∀ k o, k < a.heap.size → E k o → E' k o) : KeptC E' a b := (KeptC.refl E' a).then_new h hs
theorem KeptC.of_below {E : Nat → Nat → Prop} {a b : World} (h : Below a.heap.size a b) : KeptC E a b :=
  ⟨h.os, h.tape, h.output, h.size, fun k hk _ => h.block k hk, fun k cur e hc => ⟨cur, (h.block k (Array.getElem?_eq_some_iff.1 hc).1).trans hc, rfl, fun _ _ => rfl⟩⟩
theorem KeptC.off {E : Nat → Nat → Prop} {S : Nat → Prop} {a b : World} (h : KeptC E a b) (hs : ∀ k o, k < a.heap.size → E k o → S k) : KeptOff S a b :=
  ⟨h.os, h.tape, h.output, h.size, fun k hk hn => h.block k hk (fun o e => hn (hs k o hk e))⟩
theorem KeptC.below {E : Nat → Nat → Prop} {a b : World} {B : Nat} (h : KeptC E a b) (hB : ∀ k o, k < a.heap.size → E k o → B ≤ k) (hs : B ≤ a.heap.size) : Below B a b :=
  (h.off (S := fun k => B ≤ k) hB).below (fun _ _ e => e) hs
theorem KeptC.undrew {E : Nat → Nat → Prop} {a b : World} (h : KeptC E a.drew b) : KeptC E a b := ⟨h.os, h.tape, h.output, h.size, h.block, h.part⟩
theorem KeptC.set {w : World} {g : Nat} {cs : Array Value} {t : TypeId} (hg : w.heap[g]? = some (.cells cs t (0, 0))) (p : Nat) (u : Value) : KeptC (fun k o => k = g ∧ o = p) w (w.setCell ⟨g, p, none⟩ u) := by
  refine ⟨rfl, rfl, rfl, by simp [World.setCell], fun k hk hn => heap_setCell_other w _ k u (fun e => hn p ⟨e, rfl⟩), fun k cur e hc => ?_⟩
  by_cases hk : k = g
  · subst hk
    obtain ⟨rfl, rfl⟩ : cur = cs ∧ e = t := by rw [hc] at hg; simpa using hg
    refine ⟨_, heap_setCell_same w k p cur e u hc, by simp, fun o ho => ?_⟩
    rw [Array.getElem?_setIfInBounds]
    rw [if_neg (fun e => ho ⟨rfl, e.symm⟩)]
  · exact ⟨cur, (heap_setCell_other w _ k u hk).trans hc, rfl, fun _ _ => rfl⟩
theorem KeptC.row {w : World} {g : Nat} {cur : Array Value} {e : TypeId} (hg : w.heap[g]? = some (.cells cur e (0, 0))) (p : Nat) (cs : List Value) (hp : p + cs.length ≤ cur.size) :
    KeptC (fun k o => k = g ∧ p ≤ o ∧ o < p + cs.length) w (w.setRow g (cur.toList.take p ++ cs ++ cur.toList.drop (p + cs.length)).toArray) := by
  have e1 : (cur.toList.take p ++ cs ++ cur.toList.drop (p + cs.length)) = splice cur.toList p cs := by unfold splice; rw [List.append_assoc]
  have e2 : p + cs.length ≤ cur.toList.length := by rw [Array.length_toList]; exact hp
  rw [e1]
  refine ⟨rfl, rfl, rfl, by simp [World.setRow], fun k hk hn => ?_, fun k cur' e' hc => ?_⟩
  · by_cases h1 : k = g
    · subst h1
      by_cases h0 : cs.length = 0
      · have : cs = [] := List.eq_nil_of_length_eq_zero h0
        subst this
        have e3 : splice cur.toList p [] = cur.toList := by simp [splice]
        rw [e3, setRow_heap w k cur _ e _ hg, hg]
      · exact absurd ⟨rfl, Nat.le_refl _, by omega⟩ (hn p)
    · exact setRow_other w g k _ h1
  · by_cases hk : k = g
    · subst hk
      obtain ⟨rfl, rfl⟩ : cur' = cur ∧ e' = e := by rw [hc] at hg; simpa using hg
      refine ⟨_, setRow_heap w k cur' _ e' _ hc, by rw [List.size_toArray, length_splice _ _ _ e2, Array.length_toList], fun o ho => ?_⟩
      rw [List.getElem?_toArray, splice_get _ _ _ e2, Array.getElem?_toList]
      by_cases h1 : o < p
      · rw [if_pos h1]
      · rw [if_neg h1, if_neg (fun h2 => ho ⟨rfl, by omega, h2⟩)]
    · exact ⟨cur', (setRow_other w g k _ hk).trans hc, rfl, fun _ _ => rfl⟩

/-- A stretch of cells of a block; the stretch that a slice reaches, its spare room too. -/
def ext (g off c : Nat) (k o : Nat) : Prop := k = g ∧ off ≤ o ∧ o < off + c
def vext (v : Value) (sz k o : Nat) : Prop := ∃ g off n cap, v = .slice (some ⟨g, off, none⟩) n cap ∧ ext g off (cap * sz) k o
theorem vext_some {g off n cap sz k o : Nat} : vext (.slice (some ⟨g, off, none⟩) n cap) sz k o ↔ ext g off (cap * sz) k o := by
  constructor
  · rintro ⟨g', off', n', cap', e, h⟩
    cases e
    exact h
  · exact fun h => ⟨_, _, _, _, rfl, h⟩
theorem vext_nil {n c sz k o : Nat} : ¬ vext (.slice none n c) sz k o := by rintro ⟨_, _, _, _, e, _⟩; cases e
theorem vext.own {v : Value} {sz k o : Nat} (h : vext v sz k o) : v.ownBlock = some k := by
  obtain ⟨g, off, n, cap, rfl, rfl, _⟩ := h
  rfl

theorem KeptC.fits {w w' : World} {g p l off c : Nat} (h : KeptC (fun k o => k = g ∧ p ≤ o ∧ o < p + l) w w') (h1 : off ≤ p) (h2 : p + l ≤ off + c) : KeptC (ext g off c) w w' := h.mono (fun k o _ e => ⟨e.1, by omega, by omega⟩)
section
variable {P : Program} {w w' : World} {e : TypeId} {sz g off n cap : Nat} {xs : List Value} {v : Value} {E : Nat → Nat → Prop}
theorem RowIn.keptC (h : RowIn w e sz g off n cap xs) (hk : KeptC E w w') (hn : ∀ o, ext g off (cap * sz) g o → ¬ E g o) : RowIn w' e sz g off n cap xs := by
  obtain ⟨cur, h0, h1, h2, h3, h4, h5⟩ := h
  obtain ⟨cur', g0, g1, g2⟩ := hk.part g cur e h0
  have e1 : n * sz ≤ cap * sz := Nat.mul_le_mul_right _ h1
  refine ⟨cur', g0, h1, h2, by omega, h4, fun j u hj => ?_⟩
  have hj' : j < n * sz := by
    have := (List.getElem?_eq_some_iff.1 hj).1
    omega
  rw [g2 (off + j) (hn _ ⟨rfl, by omega, by omega⟩)]
  exact h5 j u hj
theorem RowAt.keptC (h : RowAt w e sz v n xs) (hk : KeptC E w w') (hn : ∀ k o, vext v sz k o → ¬ E k o) : RowAt w' e sz v n xs := by
  rcases h with h | ⟨g, off, cap, rfl, h⟩
  · exact .inl h
  · exact .inr ⟨g, off, cap, rfl, h.keptC hk (fun o ho => hn g o (vext_some.2 ho))⟩
/-- A slice of one element that lies in a block of its own. -/
theorem RowIn.of_block {B : Nat} {cs : Array Value} (h : w.heap[B]? = some (.cells cs e (0, 0))) (hs : cs.size = sz) : RowIn w e sz B 0 1 1 cs.toList :=
  ⟨cs, h, Nat.le_refl _, by unfold maxLen; omega, by omega, by rw [Array.length_toList]; omega, fun j u hj => by rw [Nat.zero_add]; simpa using hj⟩
theorem RowIn.at_ (h : RowIn w e sz g off n cap xs) : RowAt w e sz (.slice (some ⟨g, off, none⟩) n cap) n xs := .inr ⟨g, off, cap, rfl, h⟩
/-- A write into it. -/
theorem RowIn.writeC (h : RowIn w e sz g off n cap xs) (p : Nat) (cs : List Value) (hp : p + cs.length ≤ xs.length) (h1 : ∀ u ∈ cs, u.oneCell' = true) :
    ∃ w', (storeCells ⟨g, off + p, none⟩ cs 0).run P w = .ok () w' ∧ RowIn w' e sz g off n cap (splice xs p cs) ∧ KeptC (fun k o => k = g ∧ off + p ≤ o ∧ o < off + p + cs.length) w w' := by
  have hR := h
  obtain ⟨cur, g0, g2, g3, g4, g5, g6⟩ := h
  have e1 : n * sz ≤ cap * sz := Nat.mul_le_mul_right _ g2
  have hst := run_storeCells_at P g (off + p) e cs 0 cur w g0 (by omega) h1
  simp only [Nat.add_zero] at hst
  exact ⟨_, hst, hR.turned p cs hp cur g0, KeptC.row g0 (off + p) cs (by omega)⟩
/-- A copy into it. -/
theorem RowIn.copyC (h : RowIn w e sz g off n cap xs) (dT sT ty el : TypeId) (hu : P.underlying dT = some (.slice el)) (hs : (P.info? el).map (·.size) = some sz) (dp sp : Option Addr) (dLen dCap sLen sCap p k : Nat) (cs : List Value)
    (hcs : cs.length = k * sz) (hk : Nat.min sLen dLen = k) (hpos : 0 < k → dp = some ⟨g, off + p * sz, none⟩ ∧ ∃ a : Addr, sp = some a ∧ ∀ j u, cs[j]? = some u → w.cell? (a.add j) = some u) (hfit : p + k ≤ n) (h1 : ∀ u ∈ cs, u.oneCell' = true) :
    ∃ w', (Builtin.copy_ #[dT, sT] ty #[.slice dp dLen dCap, .slice sp sLen sCap]).run P w = .ok (.int .i64 k) w' ∧ RowIn w' e sz g off n cap (splice xs (p * sz) cs) ∧ KeptC (ext g off (cap * sz)) w w' := by
  by_cases h0 : k = 0
  · subst h0
    obtain rfl : cs = [] := List.eq_nil_of_length_eq_zero (by omega)
    refine ⟨w, run_copy_no w dT sT ty el dp sp dLen dCap sLen sCap hu hs hk, ?_, KeptC.refl _ _⟩
    simpa [splice] using h
  · obtain ⟨rfl, a, rfl, hsrc⟩ := hpos (by omega)
    have e0 : (p + k) * sz ≤ n * sz := Nat.mul_le_mul_right _ hfit
    rw [Nat.add_mul] at e0
    have e1 : n * sz ≤ cap * sz := Nat.mul_le_mul_right _ h.bounds.1
    have hl := run_loadCells_list (P := P) w a cs hsrc
    obtain ⟨w', hst, r1, r2⟩ := h.writeC (P := P) (p * sz) cs (by have := h.bounds.2.2; omega) h1
    refine ⟨w', ?_, r1, r2.fits (by omega) (by omega)⟩
    cases hq : P.info? el with
    | none => simp [hq] at hs
    | some i =>
      have hi : i.size = sz := by simpa [hq] using hs
      simp [Builtin.copy_, run_underlying hu, Builtin.lenOf, Builtin.firstCells, sizeOf, typeInfo, hq, hi, hk, ← hcs, hl, hst]
      rfl
/-- Some elements more, where there is room for them. -/
theorem RowIn.roomC (h : RowIn w e sz g off n cap xs) (t ty : TypeId) (i : TypeInfo) (ht : P.underlying t = some (.slice e)) (hi : P.info? e = some i) (hsize : i.size = sz) (ad : Option Addr) (m c : Nat) (news : List Value) (hl : news.length = m * sz)
    (hnews : 0 < m → ∃ a : Addr, ad = some a ∧ ∀ j u, news[j]? = some u → w.cell? (a.add j) = some u) (h1 : ∀ u ∈ news, u.oneCell' = true) (hroom : n + m ≤ cap) :
    ∃ w', (Builtin.append_ #[t, t] ty #[.slice (some ⟨g, off, none⟩) n cap, .slice ad m c]).run P w = .ok (.slice (some ⟨g, off, none⟩) (n + m) cap) w' ∧ RowIn w' e sz g off (n + m) cap (xs ++ news) ∧ KeptC (fun k o => k = g ∧ off + n * sz ≤ o ∧ o < off + n * sz + news.length) w w' := by
  subst hsize
  obtain ⟨cur, g0, g2, g3, g4, g5, g6⟩ := h
  have e1 : (n + m) * i.size ≤ cap * i.size := Nat.mul_le_mul_right _ hroom
  rw [Nat.add_mul] at e1
  have hfc : (Builtin.firstCells i.size m (.slice ad m c)).run P w = .ok news.toArray w := by
    by_cases hm : m = 0
    · subst hm
      obtain rfl : news = [] := List.eq_nil_of_length_eq_zero (by omega)
      cases ad <;> simp [Builtin.firstCells, loadCells, loadCellsFrom]
    · obtain ⟨a, rfl, hn⟩ := hnews (by omega)
      exact run_firstCells_some (P := P) w i.size m a m c news hl hn
  have hst := run_storeCells_at P g (off + n * i.size) e news 0 cur w g0 (by omega) h1
  simp only [Nat.add_zero] at hst
  refine ⟨_, ?_, ⟨_, setRow_heap w g cur _ e _ g0, hroom, g3, ?_, by rw [List.length_append, Nat.add_mul]; omega, fun j u hj => ?_⟩, KeptC.row g0 (off + n * i.size) news (by omega)⟩
  · simp [Builtin.append_, run_underlying ht, sizeOf, typeInfo, hi, Builtin.lenOf, hroom, hfc, Addr.add_lit, hst]
  · simp; omega
  · have e2 : cur.toList.take (off + n * i.size) ++ news ++ cur.toList.drop (off + n * i.size + news.length) = splice cur.toList (off + n * i.size) news := by unfold splice; rw [List.append_assoc]
    have e3 : off + n * i.size + news.length ≤ cur.toList.length := by
      have : cur.toList.length = cur.size := Array.length_toList
      omega
    rw [e2, List.getElem?_toArray, splice_get _ _ _ e3]
    by_cases hj1 : j < n * i.size
    · rw [List.getElem?_append_left (by omega)] at hj
      rw [if_pos (by omega), Array.getElem?_toList]
      exact g6 j u hj
    · rw [List.getElem?_append_right (by omega)] at hj
      have hlt := (List.getElem?_eq_some_iff.1 hj).1
      rw [if_neg (by omega), if_pos (by omega), show off + j - (off + n * i.size) = j - xs.length by omega]
      exact hj
/-- Some elements more. -/
theorem RowAt.appendC (h : RowAt w e sz v n xs) (t ty : TypeId) (i : TypeInfo) (z : Value) (bytes : Nat) (ht : P.underlying t = some (.slice e)) (hi : P.info? e = some i) (hz : i.zero = some z) (hsize : i.size = sz) (hby : i.bytes = bytes)
    (hzs : z.cells.size = sz) (hsz : 0 < sz) {u : Value} {m : Nat} {news : List Value} (hx : RowAt w e sz u m news) (h1 : ∀ u ∈ news, u.oneCell' = true) (h63 : n + m ≤ maxLen) (hbytes : (n + m) * bytes ≤ 140737488355328) :
    ∃ v' w', (Builtin.append_ #[t, t] ty #[v, u]).run P w = .ok v' w' ∧ RowAt w' e sz v' (n + m) (xs ++ news) ∧ KeptC (vext v sz) w w' ∧ ∀ k o, vext v' sz k o → vext v sz k o ∨ w.heap.size ≤ k := by
  have hsrc : ∃ ad c, u = .slice ad m c ∧ (0 < m → ∃ a : Addr, ad = some a ∧ ∀ j u, news[j]? = some u → w.cell? (a.add j) = some u) := by
    rcases hx with ⟨rfl, rfl, rfl⟩ | ⟨g', off', cap', rfl, hx⟩
    · exact ⟨none, 0, rfl, fun h => by omega⟩
    · exact ⟨_, cap', rfl, fun _ => ⟨_, rfl, fun j u hj => by rw [Addr.add_lit]; exact hx.cell hj⟩⟩
  have hl : news.length = m * sz := hx.len
  obtain ⟨ad, c, rfl, hsrc⟩ := hsrc
  rcases h with ⟨rfl, rfl, rfl⟩ | ⟨g, off, cap, rfl, h⟩
  · by_cases hm : m = 0
    · subst hm
      obtain rfl : news = [] := List.eq_nil_of_length_eq_zero (by omega)
      have hfc : ∀ ad, (Builtin.firstCells sz 0 (.slice ad 0 c)).run P w = .ok #[] w := fun ad => by cases ad <;> simp [Builtin.firstCells, loadCells, loadCellsFrom]
      refine ⟨.slice none 0 0, w, ?_, .inl ⟨rfl, rfl, rfl⟩, KeptC.refl _ _, fun k o e => .inl e⟩
      simp [Builtin.append_, run_underlying ht, sizeOf, typeInfo, hi, Builtin.lenOf, hsize, hfc]
    · obtain ⟨a, rfl, hn⟩ := hsrc (by omega)
      obtain ⟨v', w', hrun, r1, r2, r3⟩ := run_append_own (P := P) w w.heap.size t ty e i z sz bytes ht hi hz hsize hby hzs hsz (.slice none 0 0) 0 [] (World.ownsRow_nil w _ e sz) a m c news hl hn h1 h63 hbytes (Nat.le_refl _)
      obtain ⟨g, cap, rfl, hb, hg⟩ := r1.form (by omega)
      refine ⟨_, w', hrun, (RowIn.of_own r1).at_, .of_below ⟨r2.os, r2.tape, r2.output, r2.size, fun k hk => r2.block k hk (fun e => by cases e)⟩, fun k o e => .inr ?_⟩
      obtain ⟨rfl, -⟩ := vext_some.1 e
      exact hb
  · by_cases hroom : n + m ≤ cap
    · obtain ⟨w', hrun, r1, r2⟩ := h.roomC (P := P) t ty i ht hi hsize ad m c news hl hsrc h1 hroom
      have e1 : (n + m) * sz ≤ cap * sz := Nat.mul_le_mul_right _ hroom
      rw [Nat.add_mul] at e1
      exact ⟨_, w', hrun, r1.at_, (r2.fits (by omega) (by omega)).mono (fun k o _ e => vext_some.2 e), fun k o e => .inl (vext_some.2 (vext_some.1 e))⟩
    · have hm : 0 < m := by have := h.bounds.1; omega
      obtain ⟨a, rfl, hn⟩ := hsrc hm
      obtain ⟨v', w', hrun, r1, r2⟩ := run_append_arg_grows (P := P) w t ty e i z sz bytes ht hi hz hsize hby hzs hsz ⟨g, off, none⟩ n cap xs h.bounds.2.2 (fun j u hj => by rw [Addr.add_lit]; exact h.cell hj) a m c news hl hn (by omega) h63 hbytes
      obtain ⟨g', cap', rfl, hb, hg⟩ := r1.form (by omega)
      refine ⟨_, w', hrun, (RowIn.of_own r1).at_, .of_below ⟨r2.os, r2.tape, r2.output, r2.size, fun k hk => r2.block k hk (fun e => by cases e)⟩, fun k o e => .inr ?_⟩
      obtain ⟨rfl, -⟩ := vext_some.1 e
      exact hb
/-- Zero values behind it, where there is no room for them. -/
theorem RowIn.zerosC (h : RowIn w e sz g off n cap xs) (t tn ty : TypeId) (i : TypeInfo) (z : Value) (kq kn : IntKind) (ht : P.underlying t = some (.slice e)) (htn : P.underlying tn = some (.int kn)) (hi : P.info? e = some i) (hz : i.zero = some z) (hsize : i.size = sz)
    (hzs : z.cells.size = sz) (hsz : 0 < sz) (k : Nat) (hg : cap < n + k) (h63 : n + k ≤ maxLen) (hbytes : (n + k) * i.bytes ≤ 140737488355328) :
    ∃ g' cap' w' zs, (Builtin.append_ #[t, tn] ty #[.slice (some ⟨g, off, none⟩) n cap, .int kq k]).run P w = .ok (.slice (some ⟨g', 0, none⟩) (n + k) cap') w' ∧ RowIn w' e sz g' 0 (n + k) cap' (xs ++ zs) ∧ Below w.heap.size w w' ∧ g' = w.heap.size := by
  subst hsize
  have hb := h.bounds
  have hk0 : 0 < k := by omega
  have hold : (Builtin.firstCells i.size n (.slice (some ⟨g, off, none⟩) n cap)).run P w.drew = .ok xs.toArray w.drew :=
    run_firstCells_some (P := P) w.drew i.size n ⟨g, off, none⟩ n cap xs hb.2.2 (fun j u hj => by rw [Addr.add_lit]; exact h.cell hj)
  have h48 : k * i.bytes ≤ (n + k) * i.bytes := Nat.mul_le_mul_right _ (by omega)
  have hrun := run_append_grow_zeros (P := P) w t tn ty e i z kq kn ht htn hi hz (some ⟨g, off, none⟩) n cap xs hold k hk0 hsz hg (by unfold maxLen at h63; omega) (by omega) (growslice_fits hg hbytes)
  have hge := grownCap_ge w (n + k) cap e
  have hcm : grownCap w (n + k) cap e ≤ maxLen := grownCap_le_maxLen w (n + k) cap e h63
  refine ⟨_, _, _, (Builtin.zeroCells z.cells k).toList, hrun, ⟨_, heap_alloc_new w.drew _, hge, hcm, ?_, ?_, fun j u hj => ?_⟩, ?_, rfl⟩
  · simp only [Array.size_append, List.size_toArray, size_zeroCells, hzs, hb.2.2, ← Nat.add_mul]
    rw [Nat.zero_add]
    exact Nat.mul_le_mul_right _ (by omega)
  · have e1 : (Builtin.zeroCells z.cells k).toList.length = k * i.size := by rw [Array.length_toList, size_zeroCells, hzs]
    rw [List.length_append, e1, hb.2.2, Nat.add_mul]
  · have hj' := (List.getElem?_eq_some_iff.1 hj).1
    rw [Nat.zero_add, Array.getElem?_append_left (by simp at hj' ⊢; omega), ← Array.getElem?_toList, Array.toList_append]
    exact hj
  · exact (Below.refl _ w).drew.alloc (by simp) _
/-- Zero values written over the elements behind the first ones. -/
theorem RowIn.clearC (h : RowIn w e sz g off n cap xs) (t ty : TypeId) (z : Value) (ht : P.underlying t = some (.slice e)) (hz : ∀ w, (zeroValue e).run P w = .ok z w) (hzs : z.cells.size = sz) (hz1 : ∀ u ∈ z.cells.toList, u.oneCell' = true) (p m c : Nat) (hp : n ≤ p) (hm : 0 < m) (hpm : p + m ≤ cap) :
    ∃ w', (Builtin.clear_ #[t] ty #[.slice (some ⟨g, off + p * sz, none⟩) m c]).run P w = .ok (.tuple #[]) w' ∧ RowIn w' e sz g off n cap xs ∧ KeptC (ext g off (cap * sz)) w w' := by
  have hR := h
  obtain ⟨cur, g0, g2, g3, g4, g5, g6⟩ := h
  have e1 : (p + m) * sz ≤ cap * sz := Nat.mul_le_mul_right _ hpm
  have e2 : n * sz ≤ p * sz := Nat.mul_le_mul_right _ hp
  rw [Nat.add_mul] at e1
  have hzl : (Builtin.zeroCells z.cells m).toList.length = m * sz := by rw [Array.length_toList, size_zeroCells, hzs]
  have hz2 : ∀ u ∈ (Builtin.zeroCells z.cells m).toList, u.oneCell' = true := by
    intro u hu
    simp only [Builtin.zeroCells, Array.toList_map, List.mem_map] at hu
    obtain ⟨x, hx, rfl⟩ := hu
    simp at hx
    have h0 : 0 < z.cells.size := by
      rcases Nat.eq_zero_or_pos z.cells.size with h | h
      · rw [h] at hx; omega
      · exact h
    have hlt := Nat.mod_lt x h0
    rw [getElem!_pos z.cells _ hlt]
    exact hz1 _ (by simp)
  have hst := run_storeCells_at P g (off + p * sz) e _ 0 cur w g0 (by rw [hzl]; omega) hz2
  simp only [Nat.add_zero] at hst
  have hk := KeptC.row g0 (off + p * sz) (Builtin.zeroCells z.cells m).toList (by rw [hzl]; omega)
  obtain ⟨m, rfl⟩ : ∃ m', m = m' + 1 := ⟨m - 1, by omega⟩
  refine ⟨_, ?_, ?_, hk.fits (by omega) (by rw [hzl]; omega)⟩
  · simp [Builtin.clear_, run_underlying ht, hz, hst]
  · have e3 : (cur.toList.take (off + p * sz) ++ (Builtin.zeroCells z.cells (m + 1)).toList ++ cur.toList.drop (off + p * sz + (Builtin.zeroCells z.cells (m + 1)).toList.length)) = splice cur.toList (off + p * sz) (Builtin.zeroCells z.cells (m + 1)).toList := by unfold splice; rw [List.append_assoc]
    have e4 : off + p * sz + (Builtin.zeroCells z.cells (m + 1)).toList.length ≤ cur.toList.length := by
      rw [hzl, Array.length_toList]
      omega
    rw [e3]
    refine ⟨_, setRow_heap w g cur _ e _ g0, g2, g3, by rw [List.size_toArray, length_splice _ _ _ e4, Array.length_toList]; exact g4, g5, fun j u hj => ?_⟩
    have hj' := (List.getElem?_eq_some_iff.1 hj).1
    rw [List.getElem?_toArray, splice_get _ _ _ e4, if_pos (by omega), Array.getElem?_toList]
    exact g6 j u hj
/-- A store of one cell. -/
theorem RowIn.cellC (h : RowIn w e sz g off n cap xs) (q : Nat) (u : Value) (hq : q < xs.length) : RowIn (w.setCell ⟨g, off + q, none⟩ u) e sz g off n cap (splice xs q [u]) ∧ KeptC (fun k o => k = g ∧ o = off + q) w (w.setCell ⟨g, off + q, none⟩ u) := by
  have hR := h
  obtain ⟨cur, g0, g2, g3, g4, g5, g6⟩ := h
  refine ⟨⟨_, heap_setCell_same w g (off + q) cur e u g0, g2, g3, by simpa using g4, ?_, fun j x hj => ?_⟩, KeptC.set g0 _ _⟩
  · rw [length_splice _ _ _ (by rw [List.length_singleton]; omega)]
    exact g5
  · have e1 : n * sz ≤ cap * sz := Nat.mul_le_mul_right _ g2
    rw [splice_get _ _ _ (by rw [List.length_singleton]; omega)] at hj
    rw [Array.getElem?_setIfInBounds]
    by_cases h1 : j < q
    · rw [if_pos h1] at hj
      rw [if_neg (by omega)]
      exact g6 j x hj
    · rw [if_neg h1] at hj
      by_cases h2 : j = q
      · subst h2
        rw [if_pos (by simp)] at hj
        simp at hj
        subst hj
        rw [if_pos rfl, if_pos (by omega)]
      · rw [if_neg (by simp; omega)] at hj
        rw [if_neg (by omega)]
        exact g6 j x hj
end
end Go.Proofs.YtjlbkdghlijoeaaGreat
namespace Go.Proofs.YtjlbkdghlijoeaaGreat
open Go.ChangeShapes Go.WideShapes Go.ChangeAt Go.Shelf Go.RowKit Go.Lib Go.Sort Go.Deep
set_option linter.unusedVariables false

/-! At an operation of a walk. -/
section
variable {P : Program} {w : World} {ops : Array Oper} {rest : List Oper} {o : Oper} {a : Act} {Q : Exit → Act → World → Prop} {K : Act → World → Prop} {E : Prop}
theorem wp_append_roomC (s x : Operand) (t : TypeId) (ho : o.op = .call { callee := .builtin .append, args := #[s, x], argTypes := #[t, t] })
    {e : TypeId} {sz g off n cap : Nat} {xs : List Value} (h : RowIn w e sz g off n cap xs) (i : TypeInfo) (ht : P.underlying t = some (.slice e)) (hi : P.info? e = some i) (hsize : i.size = sz) (hs : a.eval s = .slice (some ⟨g, off, none⟩) n cap)
    (ad : Option Addr) (m c : Nat) (news : List Value) (hx : a.eval x = .slice ad m c) (hl : news.length = m * sz) (hnews : 0 < m → ∃ a : Addr, ad = some a ∧ ∀ j u, news[j]? = some u → w.cell? (a.add j) = some u) (h1 : ∀ u ∈ news, u.oneCell' = true) (hroom : n + m ≤ cap) (nm : Nat) (hnm : nm = n + m)
    (hK : ∀ w', Hid (RowIn w' e sz g off nm cap (xs ++ news)) → Hid (KeptC (fun k o => k = g ∧ off + n * sz ≤ o ∧ o < off + n * sz + news.length) w w') → K (a.put o.dst (.slice (some ⟨g, off, none⟩) nm cap)) w') : o.wp P a w K Q := by
  subst hnm
  obtain ⟨w', hrun, r1, r2⟩ := h.roomC (P := P) t o.type i ht hi hsize ad m c news hl hnews h1 hroom
  exact Lib.wp_append_run w s x t t ho _ _ hs hx _ _ hrun (hK w' r1 r2)
theorem step_append_roomC (hgd : o.guard = none) (s x : Operand) (t : TypeId) (ho : o.op = .call { callee := .builtin .append, args := #[s, x], argTypes := #[t, t] })
    {e : TypeId} {sz g off n cap : Nat} {xs : List Value} (h : RowIn w e sz g off n cap xs) (i : TypeInfo) (ht : P.underlying t = some (.slice e)) (hi : P.info? e = some i) (hsize : i.size = sz) (hs : a.eval s = .slice (some ⟨g, off, none⟩) n cap)
    (ad : Option Addr) (m c : Nat) (news : List Value) (hx : a.eval x = .slice ad m c) (hl : news.length = m * sz) (hnews : 0 < m → ∃ a : Addr, ad = some a ∧ ∀ j u, news[j]? = some u → w.cell? (a.add j) = some u) (h1 : ∀ u ∈ news, u.oneCell' = true) (hroom : n + m ≤ cap) (nm : Nat) (hnm : nm = n + m)
    (hK : ∀ w', Hid (RowIn w' e sz g off nm cap (xs ++ news)) → Hid (KeptC (fun k o => k = g ∧ off + n * sz ≤ o ∧ o < off + n * sz + news.length) w w') → K (a.put o.dst (.slice (some ⟨g, off, none⟩) nm cap)) w') :
    if Region.wanted o (yielded ops a.tmps) = true then Oper.wp P o a w K Q else E := by
  have hw : Region.wanted o (yielded ops a.tmps) = true := by simp [Region.wanted, hgd]
  rw [if_pos hw]
  exact wp_append_roomC s x t ho h i ht hi hsize hs ad m c news hx hl hnews h1 hroom nm hnm hK
theorem wpList_clear_rowC (hgd : o.guard = none) (x : Operand) (t : TypeId) (ho : o.op = .call { callee := .builtin .clear, args := #[x], argTypes := #[t] })
    {e : TypeId} {sz g off n cap : Nat} {xs : List Value} (h : RowIn w e sz g off n cap xs) (z : Value) (ht : P.underlying t = some (.slice e)) (hz : ∀ w, (zeroValue e).run P w = .ok z w) (hzs : z.cells.size = sz) (hz1 : ∀ u ∈ z.cells.toList, u.oneCell' = true)
    (p m c q : Nat) (hx : a.eval x = .slice (some ⟨g, q, none⟩) m c) (hq : q = off + p * sz) (hp : n ≤ p) (hm : 0 < m) (hpm : p + m ≤ cap)
    (hK : ∀ w', Hid (RowIn w' e sz g off n cap xs) → Hid (KeptC (ext g off (cap * sz)) w w') → wpList P ops Q rest (a.put o.dst (.tuple #[])) w') : wpList P ops Q (o :: rest) a w := by
  subst hq
  refine wpList_plain hgd fun K' hK' => ?_
  obtain ⟨w', hrun, r1, r2⟩ := h.clearC (P := P) t o.type z ht hz hzs hz1 p m c hp hm hpm
  unfold Oper.wp
  simp [execOp, ho, resolve, invoke, builtin, hx, hrun, Result.andThen]
  exact hK' _ _ (hK w' r1 r2)
end

theorem RowM.kept0 {w w' : World} {g off cap : Nat} {l : List M} (h : RowM w g off cap l) (hb : Below w.heap.size w w') : RowM w' g off cap l := RowIn.block h (hb.block g (RowIn.lt h))
theorem flat_take (l : List M) (p : Nat) : flat (l.take p) = (flat l).take (p * 7) := fm_take encM_length l p
theorem flat_drop (l : List M) (p : Nat) : flat (l.drop p) = (flat l).drop (p * 7) := fm_drop encM_length l p

theorem delM_zero (w : World) : (zeroValue 34).run Tryz.prog w = .ok (.agg #[.int .i64 0, .int .i64 0, .int .i64 0, .int .i64 0, .int .i64 0, .int .i64 0, .bool false]) w := by kernel_rfl

set_option maxHeartbeats 4000000 in
set_option maxRecDepth 100000 in
theorem delM_any {w : World} {g off cap : Nat} {l : List M} (h : RowM w g off cap l) (p : Nat) (hp : p < l.length) (hl : l.length < 1000000) :
    Calls Tryz.prog 145 #[.slice (some ⟨g, off, none⟩) l.length cap, .int .i64 p, .int .i64 ((p : Int) + 1)] w fun e w' => e = .returned (.slice (some ⟨g, off, none⟩) (l.length - 1) cap) ∧ RowM w' g off cap (l.eraseIdx p) ∧ KeptC (ext g off (cap * 7)) w w' := by
  have mixed := mixed
  obtain ⟨i0, hi, hz0, hz1, hz2⟩ := info_parts infoM
  have hl' := Lib.hid hl
  have hb := RowIn.bounds h
  have hR1 : RowIn w.drew 34 7 g off p cap ((flat l).take (p * 7)) := by
    have := RowIn.part (RowIn.block h (w' := w.drew) rfl) 0 p (by omega)
    simpa using this
  have hnews : 0 < l.length - (p + 1) → ∃ a : Addr, (if cap = p + 1 then (some ⟨g, off, none⟩ : Option Addr) else some ⟨g, off + (p + 1) * 7, none⟩) = some a ∧ ∀ j u, (flat (l.drop (p + 1)))[j]? = some u → w.drew.cell? (a.add j) = some u := fun h0 => by
    refine ⟨⟨g, off + (p + 1) * 7, none⟩, by rw [if_neg (by omega)], fun j u hj => ?_⟩
    rw [flat_drop, List.getElem?_drop] at hj
    exact RowIn.cellA (RowIn.block h (w' := w.drew) rfl) _ hj
  have hcs : (flat (l.drop (p + 1))).length = (l.length - (p + 1)) * 7 := by rw [flat_length, List.length_drop]
  have hfin : ∀ (w4 w5 : World), Hid (RowIn w4 34 7 g off (l.length - 1) cap ((flat l).take (p * 7) ++ flat (l.drop (p + 1)))) → Hid (KeptC (fun k o => k = g ∧ off + p * 7 ≤ o ∧ o < off + p * 7 + (flat (l.drop (p + 1))).length) w.drew w4) → Hid (RowIn w5 34 7 g off (l.length - 1) cap ((flat l).take (p * 7) ++ flat (l.drop (p + 1)))) →
      Hid (KeptC (ext g off (cap * 7)) w4 w5) → RowM w5 g off cap (l.eraseIdx p) ∧ KeptC (ext g off (cap * 7)) w w5 := by
    intro w4 w5 h4 k4 h5 k5
    refine ⟨?_, ?_⟩
    · unfold RowM
      rw [List.length_eraseIdx_of_lt hp, List.eraseIdx_eq_take_drop_succ, flat_append, flat_take]
      exact h5.out
    · exact ((k4.out.fits (by omega) (by rw [hcs]; omega)).undrew).trans k5.out
  have hf' := Lib.hid hfin
  have hw1 : IntKind.i64.wrap ((p : Int) + 1) = (p : Int) + 1 := IntWalk.i64_in _ (by omega)
  have hc1 : ¬ (p : Int) = (p : Int) + 1 := by omega
  have hc2 : p ≤ p + 1 := by omega
  have hc3 : p + 1 ≤ l.length := by omega
  have hc4 : (p : Int) ≤ (p : Int) + 1 := by omega
  have hc5 : (p : Int) + 1 ≤ (l.length : Int) := by omega
  have hc6 : 0 ≤ (p : Int) + 1 := by omega
  have hc7 : ((p : Int) + 1).toNat = p + 1 := by omega
  have hc8 : l.length ≤ cap := hb.1
  have hc9 : (p : Int) ≤ (cap : Int) := by omega
  have hca : (l.length : Int) ≤ (cap : Int) := by omega
  have hcb : p ≤ cap := by omega
  have hne : ¬ cap = p := by omega
  have hnm : Hid (l.length - 1 = p + (l.length - (p + 1))) := by show _ = _; omega
  have hroom : p + (l.length - (p + 1)) ≤ cap := by omega
  have hone := flat_one (l.drop (p + 1))
  have hne2 : ¬ cap = l.length - 1 := by omega
  have hd1 : l.length - 1 ≤ l.length := by omega
  have hd2 : ((l.length - 1 : Nat) : Int) ≤ (l.length : Int) := by omega
  have hd3 : l.length - (l.length - 1) = 1 := by omega
  have hd4 : l.length - 1 + 1 ≤ cap := by omega
  have hzz := delM_zero
  clear hfin h
  go_enter Tryz.func145, Tryz.ntmps145
  go_upto_region 5 with (fail)
  go_region_held3 (fun _ => True) (trivial) (first
    | (refine step_append_roomC rfl (.tmp 22) (.tmp 25) 38 rfl hR1 i0 Tryz.underlying38 hi hz1 rfl _ (l.length - (p + 1)) _ (flat (l.drop (p + 1))) rfl hcs hnews hone hroom (l.length - 1) hnm.out ?_; intro w4 hr4 hk4))
  clear hnews hR1 hcs hone
  generalize (if cap = p + 1 then (some ⟨g, off, none⟩ : Option Addr) else some ⟨g, off + (p + 1) * 7, none⟩) = ad1
  go_wp2_with (refine wpList_clear_rowC rfl (.tmp 31) 38 rfl hr4.out (.agg #[.int .i64 0, .int .i64 0, .int .i64 0, .int .i64 0, .int .i64 0, .int .i64 0, .bool false]) Tryz.underlying38 hzz rfl (by simp [Value.cells, Value.oneCell']) (l.length - 1) _ _ _ rfl (by omega) (by omega) (by omega) (by omega) ?_; intro w5 hr5 hk5)
  go_ret
  exact ⟨rfl, hf'.out w4 w5 hr4 hk4 hr5 hk5⟩

/-! A rung above the bottom: its list (what it holds, and the slice's value), and its foot. -/
structure Up where
  v : Value
  L : List M
  foot : M
instance : Inhabited Up := ⟨⟨.slice none 0 0, [], ⟨⟨0, 0, 0⟩, 0, 0, 0, false⟩⟩⟩
def encU (u : Up) : List Value := u.v :: encM u.foot
theorem encU_length (u : Up) : (encU u).length = 8 := rfl
def flatU (l : List Up) : List Value := l.flatMap encU
theorem flatU_length (l : List Up) : (flatU l).length = l.length * 8 := fm_length encU_length l
theorem flatU_take (l : List Up) (p : Nat) : flatU (l.take p) = (flatU l).take (p * 8) := fm_take encU_length l p
theorem flatU_drop (l : List Up) (p : Nat) : flatU (l.drop p) = (flatU l).drop (p * 8) := fm_drop encU_length l p
theorem flatU_append (l l' : List Up) : flatU (l ++ l') = flatU l ++ flatU l' := by unfold flatU; rw [List.flatMap_append]
/-- The values of rungs' slices are of one cell. -/
def OneU (l : List Up) : Prop := ∀ u ∈ l, u.v.oneCell' = true
theorem encU_one {u : Up} (h : u.v.oneCell' = true) : ∀ x ∈ encU u, x.oneCell' = true := by
  intro x hx
  rcases List.mem_cons.1 hx with rfl | hx
  · exact h
  · exact encM_one _ x hx
theorem flatU_one {l : List Up} (h : OneU l) : ∀ u ∈ flatU l, u.oneCell' = true := by
  intro x hx
  unfold flatU at hx
  obtain ⟨u, hu, hx⟩ := List.mem_flatMap.1 hx
  exact encU_one (h u hu) x hx
theorem infoU : (Tryz.prog.info? 178).map (fun i => (i.zero, i.size, i.bytes)) = some (some (.agg #[.slice none 0 0, .int .i64 0, .int .i64 0, .int .i64 0, .int .i64 0, .int .i64 0, .int .i64 0, .bool false]), 8, 80) := by kernel_rfl
theorem infoU8 : (Tryz.prog.info? 178).map (·.size) = some 8 := by kernel_rfl
def RowU (w : World) (g off cap : Nat) (l : List Up) : Prop := RowIn w 178 8 g off l.length cap (flatU l)
def AtU (w : World) (v : Value) (l : List Up) : Prop := RowAt w 178 8 v l.length (flatU l)
theorem delU_zero (w : World) : (zeroValue 178).run Tryz.prog w = .ok (.agg #[.slice none 0 0, .int .i64 0, .int .i64 0, .int .i64 0, .int .i64 0, .int .i64 0, .int .i64 0, .bool false]) w := by kernel_rfl

set_option maxHeartbeats 4000000 in
set_option maxRecDepth 100000 in
theorem delU_any {w : World} {g off cap : Nat} {l : List Up} (h : RowU w g off cap l) (h1 : OneU l) (p : Nat) (hp : p < l.length) (hl : l.length < 1000000) :
    Calls Tryz.prog 146 #[.slice (some ⟨g, off, none⟩) l.length cap, .int .i64 p, .int .i64 ((p : Int) + 1)] w fun e w' => e = .returned (.slice (some ⟨g, off, none⟩) (l.length - 1) cap) ∧ RowU w' g off cap (l.eraseIdx p) ∧ KeptC (ext g off (cap * 8)) w w' := by
  have mixed := mixed
  obtain ⟨i0, hi, hz0, hz1, hz2⟩ := info_parts infoU
  have hl' := Lib.hid hl
  have hb := RowIn.bounds h
  have hR1 : RowIn w.drew 178 8 g off p cap ((flatU l).take (p * 8)) := by
    have := RowIn.part (RowIn.block h (w' := w.drew) rfl) 0 p (by omega)
    simpa using this
  have hnews : 0 < l.length - (p + 1) → ∃ a : Addr, (if cap = p + 1 then (some ⟨g, off, none⟩ : Option Addr) else some ⟨g, off + (p + 1) * 8, none⟩) = some a ∧ ∀ j u, (flatU (l.drop (p + 1)))[j]? = some u → w.drew.cell? (a.add j) = some u := fun h0 => by
    refine ⟨⟨g, off + (p + 1) * 8, none⟩, by rw [if_neg (by omega)], fun j u hj => ?_⟩
    rw [flatU_drop, List.getElem?_drop] at hj
    exact RowIn.cellA (RowIn.block h (w' := w.drew) rfl) _ hj
  have hcs : (flatU (l.drop (p + 1))).length = (l.length - (p + 1)) * 8 := by rw [flatU_length, List.length_drop]
  have hfin : ∀ (w4 w5 : World), Hid (RowIn w4 178 8 g off (l.length - 1) cap ((flatU l).take (p * 8) ++ flatU (l.drop (p + 1)))) → Hid (KeptC (fun k o => k = g ∧ off + p * 8 ≤ o ∧ o < off + p * 8 + (flatU (l.drop (p + 1))).length) w.drew w4) → Hid (RowIn w5 178 8 g off (l.length - 1) cap ((flatU l).take (p * 8) ++ flatU (l.drop (p + 1)))) →
      Hid (KeptC (ext g off (cap * 8)) w4 w5) → RowU w5 g off cap (l.eraseIdx p) ∧ KeptC (ext g off (cap * 8)) w w5 := by
    intro w4 w5 h4 k4 h5 k5
    refine ⟨?_, ?_⟩
    · unfold RowU
      rw [List.length_eraseIdx_of_lt hp, List.eraseIdx_eq_take_drop_succ, flatU_append, flatU_take]
      exact h5.out
    · exact ((k4.out.fits (by omega) (by rw [hcs]; omega)).undrew).trans k5.out
  have hf' := Lib.hid hfin
  have hw1 : IntKind.i64.wrap ((p : Int) + 1) = (p : Int) + 1 := IntWalk.i64_in _ (by omega)
  have hc1 : ¬ (p : Int) = (p : Int) + 1 := by omega
  have hc2 : p ≤ p + 1 := by omega
  have hc3 : p + 1 ≤ l.length := by omega
  have hc4 : (p : Int) ≤ (p : Int) + 1 := by omega
  have hc5 : (p : Int) + 1 ≤ (l.length : Int) := by omega
  have hc6 : 0 ≤ (p : Int) + 1 := by omega
  have hc7 : ((p : Int) + 1).toNat = p + 1 := by omega
  have hc8 : l.length ≤ cap := hb.1
  have hc9 : (p : Int) ≤ (cap : Int) := by omega
  have hca : (l.length : Int) ≤ (cap : Int) := by omega
  have hcb : p ≤ cap := by omega
  have hne : ¬ cap = p := by omega
  have hnm : Hid (l.length - 1 = p + (l.length - (p + 1))) := by show _ = _; omega
  have hroom : p + (l.length - (p + 1)) ≤ cap := by omega
  have hone := flatU_one (l := l.drop (p + 1)) (fun u hu => h1 u (List.mem_of_mem_drop hu))
  have hne2 : ¬ cap = l.length - 1 := by omega
  have hd1 : l.length - 1 ≤ l.length := by omega
  have hd2 : ((l.length - 1 : Nat) : Int) ≤ (l.length : Int) := by omega
  have hd3 : l.length - (l.length - 1) = 1 := by omega
  have hd4 : l.length - 1 + 1 ≤ cap := by omega
  have hzz := delU_zero
  clear hfin h
  go_enter Tryz.func146, Tryz.ntmps146
  go_upto_region 5 with (fail)
  go_region_held3 (fun _ => True) (trivial) (first
    | (refine step_append_roomC rfl (.tmp 22) (.tmp 25) 106 rfl hR1 i0 Tryz.underlying106 hi hz1 rfl _ (l.length - (p + 1)) _ (flatU (l.drop (p + 1))) rfl hcs hnews hone hroom (l.length - 1) hnm.out ?_; intro w4 hr4 hk4))
  clear hnews hR1 hcs hone
  generalize (if cap = p + 1 then (some ⟨g, off, none⟩ : Option Addr) else some ⟨g, off + (p + 1) * 8, none⟩) = ad1
  go_wp2_with (refine wpList_clear_rowC rfl (.tmp 31) 106 rfl hr4.out (.agg #[.slice none 0 0, .int .i64 0, .int .i64 0, .int .i64 0, .int .i64 0, .int .i64 0, .int .i64 0, .bool false]) Tryz.underlying106 hzz rfl (by simp [Value.cells, Value.oneCell']) (l.length - 1) _ _ _ rfl (by omega) (by omega) (by omega) (by omega) ?_; intro w5 hr5 hk5)
  go_ret
  exact ⟨rfl, hf'.out w4 w5 hr4 hk4 hr5 hk5⟩
end Go.Proofs.YtjlbkdghlijoeaaGreat
