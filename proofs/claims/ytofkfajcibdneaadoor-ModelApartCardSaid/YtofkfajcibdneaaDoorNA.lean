
/-
  A slice's row within a block: what lies there, an append of one, a copy within, a store, a cut (stage 13).
-/
import Derived.Test.YtofkfajcibdneaaDoorCode7
import Derived.Shelf.SlSortCmp.KitK
import Derived.Below
import Derived.Deep.Slices
import Derived.Deep.Fields
import Derived.Lib.Hide
import Derived.Deep.RegionLaw
import Derived.Deep.RegionHeld3
import Derived.Shelf.RegionOpen
import Derived.LoopTactic
import Derived.BigRegion
import Derived.Deep.DeepCutAuto
import Derived.Outline
import Derived.Deep.RegionWith
import Derived.Lib.MinMax
import Derived.OwnWalk
import Derived.Lib.OwnBridge
import Derived.Deep.AppendLies
import Derived.Laws.AppendOwnNone
import Derived.BigQuiet
import Derived.ArgAppend
import Derived.Laws.CopyOwn
import Derived.Laws.Tables
namespace Go.Proofs.YtofkfajcibdneaaDoor
open Go.ChangeShapes Go.WideShapes Go.ChangeAt Go.Shelf Go.RowKit Go.Lib Go.Sort Go.Deep
set_option linter.unusedVariables false

/-- w' is w but for the blocks of S, and new ones. -/
structure KeptOff (S : Nat → Prop) (w w' : World) : Prop where
  os : w'.os = w.os
  tape : w'.tape = w.tape
  output : w'.output = w.output
  size : w.heap.size ≤ w'.heap.size
  block : ∀ k, k < w.heap.size → ¬ S k → w'.heap[k]? = w.heap[k]?
theorem KeptOff.refl (S : Nat → Prop) (w : World) : KeptOff S w w := ⟨rfl, rfl, rfl, Nat.le_refl _, fun _ _ _ => rfl⟩
theorem KeptOff.trans {S : Nat → Prop} {a b c : World} (h : KeptOff S a b) (h' : KeptOff S b c) : KeptOff S a c :=
  ⟨h'.os.trans h.os, h'.tape.trans h.tape, h'.output.trans h.output, Nat.le_trans h.size h'.size, fun k hk hn => (h'.block k (Nat.lt_of_lt_of_le hk h.size) hn).trans (h.block k hk hn)⟩
theorem KeptOff.mono {S S' : Nat → Prop} {a b : World} (h : KeptOff S a b) (hs : ∀ k, k < a.heap.size → S k → S' k) : KeptOff S' a b :=
  ⟨h.os, h.tape, h.output, h.size, fun k hk hn => h.block k hk (fun e => hn (hs k hk e))⟩
theorem KeptOff.of_below {S : Nat → Prop} {a b : World} (h : Below a.heap.size a b) : KeptOff S a b := ⟨h.os, h.tape, h.output, h.size, fun k hk _ => h.block k hk⟩
theorem KeptOff.of_grown {a b : World} {row : Option Nat} (h : a.grownBy b row) : KeptOff (fun k => row = some k) a b := ⟨h.os, h.tape, h.output, h.size, fun k hk hn => h.block k hk (fun e => hn e.symm)⟩
theorem KeptOff.set (w : World) (p : Addr) (u : Value) : KeptOff (fun k => k = p.block) w (w.setCell p u) := ⟨rfl, rfl, rfl, by simp [World.setCell], fun k hk hn => Below.heap_setCell _ _ _ _ hn⟩
theorem KeptOff.row (w : World) (g : Nat) (cs : Array Value) : KeptOff (fun k => k = g) w (w.setRow g cs) := ⟨rfl, rfl, rfl, by simp [World.setRow], fun k hk hn => setRow_other w g k cs hn⟩
theorem KeptOff.below {S : Nat → Prop} {a b : World} {B : Nat} (h : KeptOff S a b) (hB : ∀ k, k < a.heap.size → S k → B ≤ k) (hs : B ≤ a.heap.size) : Below B a b :=
  ⟨h.os, h.tape, h.output, h.size, fun k hk => h.block k (by omega) (fun e => by have := hB k (by omega) e; omega)⟩
/-- A step whose writes lie in blocks that were not there at the start. -/
theorem KeptOff.then_new {S S' : Nat → Prop} {a b c : World} (h : KeptOff S a b) (h' : KeptOff S' b c) (hs : ∀ k, k < a.heap.size → S' k → S k) : KeptOff S a c :=
  ⟨h'.os.trans h.os, h'.tape.trans h.tape, h'.output.trans h.output, Nat.le_trans h.size h'.size, fun k hk hn => (h'.block k (Nat.lt_of_lt_of_le hk h.size) (fun e => hn (hs k hk e))).trans (h.block k hk hn)⟩

theorem KeptOff.undrew {S : Nat → Prop} {a b : World} (h : KeptOff S a.drew b) : KeptOff S a b := ⟨h.os, h.tape, h.output, h.size, h.block⟩

/-! Cells of elements, one behind the other. -/
theorem splice_get {α : Type} (L : List α) (p : Nat) (cs : List α) (h : p + cs.length ≤ L.length) (j : Nat) : (splice L p cs)[j]? = if j < p then L[j]? else if j < p + cs.length then cs[j - p]? else L[j]? := by
  unfold splice
  by_cases h1 : j < p
  · rw [if_pos h1, List.getElem?_append_left (by rw [List.length_take]; omega), List.getElem?_take_of_lt h1]
  · rw [if_neg h1, List.getElem?_append_right (by rw [List.length_take]; omega), List.length_take, Nat.min_eq_left (by omega)]
    by_cases h2 : j < p + cs.length
    · rw [if_pos h2, List.getElem?_append_left (by omega)]
    · rw [if_neg h2, List.getElem?_append_right (by omega), List.getElem?_drop]
      congr 1
      omega

/-- In block g lies a slice's row: n elements of sz cells each from place off on, room for cap. -/
def RowIn (w : World) (e : TypeId) (sz g off n cap : Nat) (xs : List Value) : Prop :=
  ∃ cur : Array Value, w.heap[g]? = some (.cells cur e (0, 0)) ∧ n ≤ cap ∧ cap ≤ maxLen ∧ off + cap * sz ≤ cur.size ∧ xs.length = n * sz ∧ ∀ j u, xs[j]? = some u → cur[off + j]? = some u
section
variable {w w' : World} {e : TypeId} {sz g off n cap : Nat} {xs : List Value}
theorem RowIn.lt (h : RowIn w e sz g off n cap xs) : g < w.heap.size := by
  obtain ⟨cur, h1, _⟩ := h
  exact (Array.getElem?_eq_some_iff.1 h1).1
theorem RowIn.bounds (h : RowIn w e sz g off n cap xs) : n ≤ cap ∧ cap ≤ maxLen ∧ xs.length = n * sz := by
  obtain ⟨cur, _, h2, h3, _, h5, _⟩ := h
  exact ⟨h2, h3, h5⟩
theorem RowIn.block (h : RowIn w e sz g off n cap xs) (hb : w'.heap[g]? = w.heap[g]?) : RowIn w' e sz g off n cap xs := by
  obtain ⟨cur, h1, h2⟩ := h
  exact ⟨cur, hb.trans h1, h2⟩
theorem RowIn.kept {S : Nat → Prop} (h : RowIn w e sz g off n cap xs) (hk : KeptOff S w w') (hn : ¬ S g) : RowIn w' e sz g off n cap xs := h.block (hk.block g h.lt hn)
theorem RowIn.cell (h : RowIn w e sz g off n cap xs) {j : Nat} {u : Value} (hj : xs[j]? = some u) : w.cell? ⟨g, off + j, none⟩ = some u := by
  obtain ⟨cur, h1, _, _, _, _, h6⟩ := h
  rw [cell_of_row w g _ cur e (0, 0) h1]
  exact h6 j u hj
theorem RowIn.cellA (h : RowIn w e sz g off n cap xs) (i : Nat) {j : Nat} {u : Value} (hj : xs[i + j]? = some u) : w.cell? ((⟨g, off + i, none⟩ : Addr).add j) = some u := by
  rw [Addr.add_lit, Nat.add_assoc]
  exact h.cell hj
theorem RowIn.fz (h : RowIn w e sz g off n cap xs) (o : Nat) : w.frozen? ⟨g, o, none⟩ = false := by
  obtain ⟨cur, h1, _⟩ := h
  simp [World.frozen?, h1]
/-- A shorter one, or one that begins later. -/
theorem RowIn.part (h : RowIn w e sz g off n cap xs) (i m : Nat) (h1 : i + m ≤ n) : RowIn w e sz g (off + i * sz) m (cap - i) ((xs.drop (i * sz)).take (m * sz)) := by
  obtain ⟨cur, h0, h2, h3, h4, h5, h6⟩ := h
  have e1 : (i + m) * sz ≤ n * sz := Nat.mul_le_mul_right _ h1
  have e2 : (cap - i) * sz + i * sz = cap * sz := by rw [← Nat.add_mul]; congr 1; omega
  rw [Nat.add_mul] at e1
  refine ⟨cur, h0, by omega, by omega, by omega, by rw [List.length_take, List.length_drop]; omega, fun j u hj => ?_⟩
  have hlt : j < m * sz := by
    have := (List.getElem?_eq_some_iff.1 hj).1
    rw [List.length_take] at this
    omega
  rw [List.getElem?_take_of_lt hlt, List.getElem?_drop] at hj
  have := h6 _ u hj
  rwa [← Nat.add_assoc] at this
/-- What is written into it. -/
theorem RowIn.turned (h : RowIn w e sz g off n cap xs) (p : Nat) (cs : List Value) (hp : p + cs.length ≤ xs.length) (cur : Array Value) (hg : w.heap[g]? = some (.cells cur e (0, 0))) :
    RowIn (w.setRow g (cur.toList.take (off + p) ++ cs ++ cur.toList.drop (off + p + cs.length)).toArray) e sz g off n cap (splice xs p cs) := by
  obtain ⟨cur', h0, h2, h3, h4, h5, h6⟩ := h
  obtain rfl : cur' = cur := by rw [h0] at hg; simpa using hg
  have hc : xs.length ≤ cap * sz := by rw [h5]; exact Nat.mul_le_mul_right _ h2
  have e1 : (cur'.toList.take (off + p) ++ cs ++ cur'.toList.drop (off + p + cs.length)) = splice cur'.toList (off + p) cs := by unfold splice; rw [List.append_assoc]
  have e2 : off + p + cs.length ≤ cur'.toList.length := by
    have : cur'.toList.length = cur'.size := Array.length_toList
    omega
  rw [e1]
  refine ⟨_, Go.setRow_heap w g cur' _ e _ h0, h2, h3, ?_, ?_, fun j u hj => ?_⟩
  · rw [List.size_toArray, length_splice _ _ _ e2, Array.length_toList]; exact h4
  · rw [length_splice _ _ _ hp]; exact h5
  · rw [List.getElem?_toArray, splice_get _ _ _ e2]
    rw [splice_get _ _ _ hp] at hj
    by_cases h1 : j < p
    · rw [if_pos h1] at hj
      rw [if_pos (by omega), Array.getElem?_toList]
      exact h6 j u hj
    · rw [if_neg h1] at hj
      rw [if_neg (by omega)]
      by_cases h2 : j < p + cs.length
      · rw [if_pos h2] at hj
        rw [if_pos (by omega), show off + j - (off + p) = j - p by omega]
        exact hj
      · rw [if_neg h2] at hj
        rw [if_neg (by omega), Array.getElem?_toList]
        exact h6 j u hj
end

/-- v is a slice of n elements of sz cells each; xs are their cells. -/
def RowAt (w : World) (e : TypeId) (sz : Nat) (v : Value) (n : Nat) (xs : List Value) : Prop :=
  (v = .slice none 0 0 ∧ n = 0 ∧ xs = []) ∨ ∃ g off cap, v = .slice (some ⟨g, off, none⟩) n cap ∧ RowIn w e sz g off n cap xs
section
variable {P : Program} {w w' : World} {e : TypeId} {sz n : Nat} {v : Value} {xs : List Value}
theorem RowAt.nil (w : World) (e : TypeId) (sz : Nat) : RowAt w e sz (.slice none 0 0) 0 [] := .inl ⟨rfl, rfl, rfl⟩
theorem RowAt.len (h : RowAt w e sz v n xs) : xs.length = n * sz := by
  rcases h with ⟨_, rfl, rfl⟩ | ⟨g, off, cap, _, h⟩
  · simp
  · exact h.bounds.2.2
theorem RowAt.lt (h : RowAt w e sz v n xs) : ∀ k, v.ownBlock = some k → k < w.heap.size := by
  intro k hk
  rcases h with ⟨rfl, _⟩ | ⟨g, off, cap, rfl, h⟩
  · cases hk
  · simp [Value.ownBlock] at hk
    subst hk
    exact h.lt
theorem RowAt.kept {S : Nat → Prop} (h : RowAt w e sz v n xs) (hk : KeptOff S w w') (hn : ∀ k, v.ownBlock = some k → ¬ S k) : RowAt w' e sz v n xs := by
  rcases h with h | ⟨g, off, cap, rfl, h⟩
  · exact .inl h
  · exact .inr ⟨g, off, cap, rfl, h.kept hk (hn g rfl)⟩
theorem RowAt.form (h : RowAt w e sz v n xs) (h0 : 0 < n) : ∃ g off cap, v = .slice (some ⟨g, off, none⟩) n cap ∧ RowIn w e sz g off n cap xs := by
  rcases h with ⟨_, h1, _⟩ | h
  · omega
  · exact h
/-- What its slice looks like. -/
theorem RowAt.shape (h : RowAt w e sz v n xs) : ∃ a cap, v = .slice a n cap ∧ n ≤ cap := by
  rcases h with ⟨rfl, rfl, _⟩ | ⟨g, off, cap, rfl, h⟩
  · exact ⟨none, 0, rfl, Nat.le_refl _⟩
  · exact ⟨_, cap, rfl, h.bounds.1⟩
theorem RowIn.of_own {base g cap : Nat} (h : w.ownsRow base e sz (.slice (some ⟨g, 0, none⟩) n cap) n xs) : RowIn w e sz g 0 n cap xs := by
  obtain ⟨hl, h⟩ := h
  rcases h with ⟨h0, _⟩ | ⟨g', cap', cur, hv, hb, hg, hn, hcm, hcs, ht⟩
  · cases h0
  · cases hv
    refine ⟨cur, hg, hn, hcm, by omega, hl, fun j u hj => ?_⟩
    have hlt : j < n * sz := by
      have := (List.getElem?_eq_some_iff.1 hj).1
      omega
    rw [← ht, List.getElem?_take_of_lt hlt, Array.getElem?_toList] at hj
    rwa [Nat.zero_add]

/-- One element more. -/
theorem RowAt.append (h : RowAt w e sz v n xs) (t ty : TypeId) (i : TypeInfo) (z : Value) (bytes : Nat) (ht : P.underlying t = some (.slice e)) (hi : P.info? e = some i) (hz : i.zero = some z) (hsize : i.size = sz) (hby : i.bytes = bytes)
    (hzs : z.cells.size = sz) (hsz : 0 < sz) (ad : Addr) (c : Nat) (news : List Value) (hl : news.length = sz) (hnews : ∀ j u, news[j]? = some u → w.cell? (ad.add j) = some u) (h1 : ∀ u ∈ news, u.oneCell' = true)
    (h63 : n + 1 ≤ maxLen) (hbytes : (n + 1) * bytes ≤ 140737488355328) :
    ∃ g off cap w', (Builtin.append_ #[t, t] ty #[v, .slice (some ad) 1 c]).run P w = .ok (.slice (some ⟨g, off, none⟩) (n + 1) cap) w' ∧ RowIn w' e sz g off (n + 1) cap (xs ++ news) ∧ KeptOff (fun k => v.ownBlock = some k) w w' ∧
      (v.ownBlock = some g ∨ w.heap.size ≤ g) := by
  subst hsize
  have hl1 : news.length = 1 * i.size := by omega
  rcases h with ⟨rfl, rfl, rfl⟩ | ⟨g, off, cap, rfl, h⟩
  · obtain ⟨v', w', hrun, r1, r2, r3⟩ := run_append_own (P := P) w w.heap.size t ty e i z i.size bytes ht hi hz rfl hby hzs hsz (.slice none 0 0) 0 [] (World.ownsRow_nil w _ e i.size) ad 1 c news hl1 hnews h1 h63 hbytes (Nat.le_refl _)
    obtain ⟨g, cap, rfl, hb, hg⟩ := r1.form (by omega)
    exact ⟨g, 0, cap, w', hrun, .of_own r1, (KeptOff.of_grown r2).mono (fun k _ e => e), .inr hb⟩
  · by_cases hroom : n + 1 ≤ cap
    · have hR := h
      obtain ⟨cur, h0, h2, h3, h4, h5, h6⟩ := h
      have e1 : (n + 1) * i.size ≤ cap * i.size := Nat.mul_le_mul_right _ hroom
      rw [Nat.add_mul, Nat.one_mul] at e1
      have hfc := run_firstCells_some (P := P) w i.size 1 ad 1 c news hl1 hnews
      have hst := run_storeCells_at P g (off + n * i.size) e news 0 cur w h0 (by omega) h1
      simp only [Nat.add_zero] at hst
      refine ⟨g, off, cap, w.setRow g (cur.toList.take (off + n * i.size) ++ news ++ cur.toList.drop (off + n * i.size + news.length)).toArray, ?_, ?_, (KeptOff.row w g _).mono (fun k _ e => by rw [e]; rfl), .inl rfl⟩
      · simp [Builtin.append_, run_underlying ht, sizeOf, typeInfo, hi, Builtin.lenOf, hroom, hfc, Addr.add_lit, hst]
      · refine ⟨_, Go.setRow_heap w g cur _ e _ h0, hroom, h3, ?_, by rw [List.length_append, h5, Nat.add_mul]; omega, fun j u hj => ?_⟩
        · simp; omega
        · have e2 : cur.toList.take (off + n * i.size) ++ news ++ cur.toList.drop (off + n * i.size + news.length) = splice cur.toList (off + n * i.size) news := by unfold splice; rw [List.append_assoc]
          have e3 : off + n * i.size + news.length ≤ cur.toList.length := by
            have : cur.toList.length = cur.size := Array.length_toList
            omega
          rw [e2, List.getElem?_toArray, splice_get _ _ _ e3]
          by_cases hj1 : j < n * i.size
          · rw [List.getElem?_append_left (by omega)] at hj
            rw [if_pos (by omega), Array.getElem?_toList]
            exact h6 j u hj
          · rw [List.getElem?_append_right (by omega)] at hj
            have hlt := (List.getElem?_eq_some_iff.1 hj).1
            rw [if_neg (by omega), if_pos (by omega), show off + j - (off + n * i.size) = j - xs.length by omega]
            exact hj
    · obtain ⟨v', w', hrun, r1, r2⟩ := run_append_arg_grows (P := P) w t ty e i z i.size bytes ht hi hz rfl hby hzs hsz ⟨g, off, none⟩ n cap xs h.bounds.2.2 (fun j u hj => by rw [Addr.add_lit]; exact h.cell hj) ad 1 c news hl1 hnews (by omega) h63 hbytes
      obtain ⟨g', cap', rfl, hb, hg⟩ := r1.form (by omega)
      exact ⟨g', 0, cap', w', hrun, .of_own r1, (KeptOff.of_grown r2).mono (fun k _ e => by cases e), .inr hb⟩

theorem run_copy_no (w : World) (dT sT ty elem : TypeId) (d a : Option Addr) (dLen dCap sLen sCap : Nat) (hu : P.underlying dT = some (.slice elem)) (hs : (P.info? elem).map (·.size) = some sz) (hn : Nat.min sLen dLen = 0) :
    (Builtin.copy_ #[dT, sT] ty #[.slice d dLen dCap, .slice a sLen sCap]).run P w = .ok (goInt 0) w := by
  cases hq : P.info? elem with
  | none => simp [hq] at hs
  | some i =>
    have hl : ∀ (x : Addr), (loadCells x 0).run P w = .ok #[] w := fun x => by simpa using run_loadCells_list (P := P) w x [] (by simp)
    cases d <;> cases a <;> simp [Builtin.copy_, run_underlying hu, Builtin.lenOf, Builtin.firstCells, sizeOf, typeInfo, hq, hn, storeCells, hl]
/-- A copy into it. -/
theorem RowIn.copy {g off cap : Nat} (h : RowIn w e sz g off n cap xs) (dT sT ty el : TypeId) (hu : P.underlying dT = some (.slice el)) (hs : (P.info? el).map (·.size) = some sz) (dp sp : Option Addr) (dLen dCap sLen sCap p k : Nat) (cs : List Value)
    (hcs : cs.length = k * sz) (hk : Nat.min sLen dLen = k) (hpos : 0 < k → dp = some ⟨g, off + p * sz, none⟩ ∧ ∃ a : Addr, sp = some a ∧ ∀ j u, cs[j]? = some u → w.cell? (a.add j) = some u) (hfit : p + k ≤ n) (h1 : ∀ u ∈ cs, u.oneCell' = true) :
    ∃ w', (Builtin.copy_ #[dT, sT] ty #[.slice dp dLen dCap, .slice sp sLen sCap]).run P w = .ok (.int .i64 k) w' ∧ RowIn w' e sz g off n cap (splice xs (p * sz) cs) ∧ KeptOff (fun b => b = g) w w' := by
  by_cases h0 : k = 0
  · subst h0
    obtain rfl : cs = [] := List.eq_nil_of_length_eq_zero (by omega)
    refine ⟨w, run_copy_no w dT sT ty el dp sp dLen dCap sLen sCap hu hs hk, ?_, KeptOff.refl _ _⟩
    simpa [splice] using h
  · obtain ⟨rfl, a, rfl, hsrc⟩ := hpos (by omega)
    have hR := h
    obtain ⟨cur, g0, g2, g3, g4, g5, g6⟩ := h
    have e0 : (p + k) * sz ≤ n * sz := Nat.mul_le_mul_right _ hfit
    rw [Nat.add_mul] at e0
    have e1 : n * sz ≤ cap * sz := Nat.mul_le_mul_right _ g2
    have hl := run_loadCells_list (P := P) w a cs hsrc
    have hst := run_storeCells_at P g (off + p * sz) e cs 0 cur w g0 (by omega) h1
    simp only [Nat.add_zero] at hst
    refine ⟨_, ?_, hR.turned (p * sz) cs (by omega) cur g0, KeptOff.row w g _⟩
    cases hq : P.info? el with
    | none => simp [hq] at hs
    | some i =>
      have hi : i.size = sz := by simpa [hq] using hs
      simp [Builtin.copy_, run_underlying hu, Builtin.lenOf, Builtin.firstCells, sizeOf, typeInfo, hq, hi, hk, ← hcs, hl, hst]
      rfl
/-- A store of one element. -/
theorem RowIn.store {g off cap : Nat} (h : RowIn w e sz g off n cap xs) (ty : TypeId) (u : Value) (hi : (P.info? ty).map (·.size) = some sz) (hu : u.cells.size = sz) (h1 : ∀ x ∈ u.cells.toList, x.oneCell' = true) (p : Nat) (hp : p < n) :
    ∃ w', (storeVar ty ⟨g, off + p * sz, none⟩ u).run P w = .ok () w' ∧ RowIn w' e sz g off n cap (splice xs (p * sz) u.cells.toList) ∧ KeptOff (fun b => b = g) w w' := by
  have hR := h
  obtain ⟨cur, g0, g2, g3, g4, g5, g6⟩ := h
  have e0 : (p + 1) * sz ≤ n * sz := Nat.mul_le_mul_right _ hp
  rw [Nat.add_mul] at e0
  have e1 : n * sz ≤ cap * sz := Nat.mul_le_mul_right _ g2
  have hst := run_storeCells_at P g (off + p * sz) e u.cells.toList 0 cur w g0 (by rw [Array.length_toList]; omega) h1
  simp only [Nat.add_zero] at hst
  refine ⟨_, ?_, hR.turned (p * sz) u.cells.toList (by rw [Array.length_toList]; omega) cur g0, KeptOff.row w g _⟩
  cases hq : P.info? ty with
  | none => simp [hq] at hi
  | some i =>
    have hs : u.cells.size = i.size := by simp [hq] at hi; omega
    simp [storeVar, sizeOf, typeInfo, hq, hs, hst]
end

/-! At an operation of a walk. -/
section
variable {P : Program} {w : World} {ops : Array Oper} {rest : List Oper} {o : Oper} {a : Act} {Q : Exit → Act → World → Prop} {K : Act → World → Prop}
theorem wpList_append_row (hgd : o.guard = none) (s x : Operand) (t : TypeId) (ho : o.op = .call { callee := .builtin .append, args := #[s, x], argTypes := #[t, t] })
    {e : TypeId} {sz n : Nat} {v : Value} {xs : List Value} (h : RowAt w e sz v n xs) (i : TypeInfo) (z : Value) (bytes : Nat) (ht : P.underlying t = some (.slice e)) (hi : P.info? e = some i) (hz : i.zero = some z) (hsize : i.size = sz) (hby : i.bytes = bytes)
    (hzs : z.cells.size = sz) (hsz : 0 < sz) (hs : a.eval s = v) (ad : Addr) (c : Nat) (news : List Value) (hx : a.eval x = .slice (some ad) 1 c) (hl : news.length = sz) (hnews : ∀ j u, news[j]? = some u → w.cell? (ad.add j) = some u) (h1 : ∀ u ∈ news, u.oneCell' = true)
    (h63 : n + 1 ≤ maxLen) (hbytes : (n + 1) * bytes ≤ 140737488355328)
    (hK : ∀ g off cap w', Hid (RowIn w' e sz g off (n + 1) cap (xs ++ news)) → Hid (KeptOff (fun k => v.ownBlock = some k) w w') → Hid (v.ownBlock = some g ∨ w.heap.size ≤ g) → wpList P ops Q rest (a.put o.dst (.slice (some ⟨g, off, none⟩) (n + 1) cap)) w') :
    wpList P ops Q (o :: rest) a w := by
  refine wpList_plain hgd fun K' hK' => ?_
  obtain ⟨g, off, cap, w', hrun, r1, r2, r3⟩ := h.append (P := P) t o.type i z bytes ht hi hz hsize hby hzs hsz ad c news hl hnews h1 h63 hbytes
  unfold Oper.wp
  simp [execOp, ho, resolve, invoke, builtin, hs, hx, hrun, Result.andThen]
  exact hK' _ _ (hK g off cap w' r1 r2 r3)
theorem wp_copy_row (d s : Operand) (dT sT : TypeId) (ho : o.op = .call { callee := .builtin .copy, args := #[d, s], argTypes := #[dT, sT] })
    {e : TypeId} {sz g off n cap : Nat} {xs : List Value} (h : RowIn w e sz g off n cap xs) (el : TypeId) (hu : P.underlying dT = some (.slice el)) (hsz : (P.info? el).map (·.size) = some sz) (dp sp : Option Addr) (dLen dCap sLen sCap p k : Nat) (cs : List Value)
    (hd : a.eval d = .slice dp dLen dCap) (hs : a.eval s = .slice sp sLen sCap) (hcs : cs.length = k * sz) (hk : Nat.min sLen dLen = k)
    (hpos : 0 < k → dp = some ⟨g, off + p * sz, none⟩ ∧ ∃ a : Addr, sp = some a ∧ ∀ j u, cs[j]? = some u → w.cell? (a.add j) = some u) (hfit : p + k ≤ n) (h1 : ∀ u ∈ cs, u.oneCell' = true)
    (hK : ∀ w', Hid (RowIn w' e sz g off n cap (splice xs (p * sz) cs)) → Hid (KeptOff (fun b => b = g) w w') → K (a.put o.dst (.int .i64 k)) w') : o.wp P a w K Q := by
  obtain ⟨w', hrun, r1, r2⟩ := h.copy (P := P) dT sT o.type el hu hsz dp sp dLen dCap sLen sCap p k cs hcs hk hpos hfit h1
  unfold Oper.wp
  simp [execOp, ho, resolve, invoke, builtin, hd, hs, hrun, Result.andThen]
  exact hK w' r1 r2
theorem wpList_copy_row (hgd : o.guard = none) (d s : Operand) (dT sT : TypeId) (ho : o.op = .call { callee := .builtin .copy, args := #[d, s], argTypes := #[dT, sT] })
    {e : TypeId} {sz g off n cap : Nat} {xs : List Value} (h : RowIn w e sz g off n cap xs) (el : TypeId) (hu : P.underlying dT = some (.slice el)) (hsz : (P.info? el).map (·.size) = some sz) (dp sp : Option Addr) (dLen dCap sLen sCap p k : Nat) (cs : List Value)
    (hd : a.eval d = .slice dp dLen dCap) (hs : a.eval s = .slice sp sLen sCap) (hcs : cs.length = k * sz) (hk : Nat.min sLen dLen = k)
    (hpos : 0 < k → dp = some ⟨g, off + p * sz, none⟩ ∧ ∃ a : Addr, sp = some a ∧ ∀ j u, cs[j]? = some u → w.cell? (a.add j) = some u) (hfit : p + k ≤ n) (h1 : ∀ u ∈ cs, u.oneCell' = true)
    (hK : ∀ w', Hid (RowIn w' e sz g off n cap (splice xs (p * sz) cs)) → Hid (KeptOff (fun b => b = g) w w') → wpList P ops Q rest (a.put o.dst (.int .i64 k)) w') : wpList P ops Q (o :: rest) a w :=
  wpList_plain hgd fun K' hK' => wp_copy_row d s dT sT ho h el hu hsz dp sp dLen dCap sLen sCap p k cs hd hs hcs hk hpos hfit h1 fun w' r1 r2 => hK' _ _ (hK w' r1 r2)
theorem step_copy_row {E : Prop} (hgd : o.guard = none) (d s : Operand) (dT sT : TypeId) (ho : o.op = .call { callee := .builtin .copy, args := #[d, s], argTypes := #[dT, sT] })
    {e : TypeId} {sz g off n cap : Nat} {xs : List Value} (h : RowIn w e sz g off n cap xs) (el : TypeId) (hu : P.underlying dT = some (.slice el)) (hsz : (P.info? el).map (·.size) = some sz) (dp sp : Option Addr) (dLen dCap sLen sCap p k : Nat) (cs : List Value)
    (hd : a.eval d = .slice dp dLen dCap) (hs : a.eval s = .slice sp sLen sCap) (hcs : cs.length = k * sz) (hk : Nat.min sLen dLen = k)
    (hpos : 0 < k → dp = some ⟨g, off + p * sz, none⟩ ∧ ∃ a : Addr, sp = some a ∧ ∀ j u, cs[j]? = some u → w.cell? (a.add j) = some u) (hfit : p + k ≤ n) (h1 : ∀ u ∈ cs, u.oneCell' = true)
    (hK : ∀ w', Hid (RowIn w' e sz g off n cap (splice xs (p * sz) cs)) → Hid (KeptOff (fun b => b = g) w w') → K (a.put o.dst (.int .i64 k)) w') : if Region.wanted o (yielded ops a.tmps) = true then Oper.wp P o a w K Q else E := by
  have hw : Region.wanted o (yielded ops a.tmps) = true := by simp [Region.wanted, hgd]
  rw [if_pos hw]
  exact wp_copy_row d s dT sT ho h el hu hsz dp sp dLen dCap sLen sCap p k cs hd hs hcs hk hpos hfit h1 hK
theorem wpList_store_in (hgd : o.guard = none) (ty : TypeId) (x y : Operand) (ho : o.op = .store ty x y) {e : TypeId} {sz g off n cap : Nat} {xs : List Value} (h : RowIn w e sz g off n cap xs) (u : Value) (p q : Nat)
    (hx : a.eval x = .pointer (some ⟨g, q, none⟩)) (hq : q = off + p * sz) (hy : a.eval y = u) (hi : (P.info? ty).map (·.size) = some sz) (hu : u.cells.size = sz) (h1 : ∀ x ∈ u.cells.toList, x.oneCell' = true) (hp : p < n)
    (hK : ∀ w', Hid (RowIn w' e sz g off n cap (splice xs (p * sz) u.cells.toList)) → Hid (KeptOff (fun b => b = g) w w') → wpList P ops Q rest (a.put o.dst undef) w') : wpList P ops Q (o :: rest) a w := by
  subst hq
  refine wpList_plain hgd fun K' hK' => ?_
  obtain ⟨w', hrun, r1, r2⟩ := h.store (P := P) ty u hi hu h1 p hp
  unfold Oper.wp execOp
  simp only [ho, hx, hy, Instr.storeAt, Instr.sureAddr, Sem.run_bind, Sem.run_pure, Result.andThen_ok, hrun]
  exact hK' _ _ (hK w' r1 r2)
end
end Go.Proofs.YtofkfajcibdneaaDoor
