/-
  Rows that a law makes out of a model's own, with one more behind: appends of whole rows; models with one more program, link, start.
-/
import Derived.Test.YtofkfajcibdneaaDoorNP
import Derived.Laws.AppendOwnNone
namespace Go.Proofs.YtofkfajcibdneaaDoor
open Go.ChangeShapes Go.WideShapes Go.ChangeAt Go.Shelf Go.RowKit Go.Lib Go.Sort Go.Deep
set_option linter.unusedVariables false
set_option linter.unusedSimpArgs false
set_option maxRecDepth 4000

section
variable {P : Program} {ops : Array Oper} {rest : List Oper} {E : Prop} {o : Oper} {a : Act} {w : World} {K : Act → World → Prop} {Q : Exit → Act → World → Prop}
theorem run_append_none13 (base : Nat) (t ty e : TypeId) (i : TypeInfo) (size c : Nat) (ht : P.underlying t = some (.slice e)) (hi : P.info? e = some i)
    (v : Value) (n : Nat) (xs : List Value) (hown : w.ownsRow base e size v n xs) : (Builtin.append_ #[t, t] ty #[v, .slice none 0 c]).run P w = .ok v w := by
  rcases hown.2 with ⟨rfl, rfl⟩ | ⟨g, cap, cur, rfl, _, _, hnc, _⟩
  · simp [Builtin.append_, run_underlying ht, sizeOf, typeInfo, hi, Builtin.lenOf, Builtin.firstCells]
  · simp [Builtin.append_, run_underlying ht, sizeOf, typeInfo, hi, Builtin.lenOf, Builtin.firstCells, hnc, storeCells]
/-- What a row that is appended holds. -/
def Holds13 (w : World) (x : Option Addr) (m : Nat) (news : List Value) : Prop := (x = none → m = 0) ∧ ∀ ad, x = some ad → ∀ j u, news[j]? = some u → w.cell? (ad.add j) = some u
theorem run_append13 (base : Nat) (t ty e : TypeId) (i : TypeInfo) (z : Value) (size bytes : Nat) (ht : P.underlying t = some (.slice e)) (hi : P.info? e = some i) (hz : i.zero = some z)
    (hsize : i.size = size) (hby : i.bytes = bytes) (hzs : z.cells.size = size) (hsz : 0 < size)
    (v : Value) (n : Nat) (xs : List Value) (hown : w.ownsRow base e size v n xs)
    (x : Option Addr) (m c : Nat) (news : List Value) (hl : news.length = m * size) (hnews : Holds13 w x m news) (h1 : ∀ u ∈ news, u.oneCell' = true)
    (h63 : n + m ≤ maxLen) (hbytes : (n + m) * bytes ≤ 140737488355328) (hbase : base ≤ w.heap.size) :
    ∃ v' w', (Builtin.append_ #[t, t] ty #[v, .slice x m c]).run P w = .ok v' w' ∧ w'.ownsRow base e size v' (n + m) (xs ++ news) ∧ w.grownBy w' v.ownBlock := by
  cases x with
  | none =>
    obtain rfl := hnews.1 rfl
    obtain rfl : news = [] := List.eq_nil_of_length_eq_zero (by rw [hl, Nat.zero_mul])
    refine ⟨v, w, run_append_none13 base t ty e i size c ht hi v n xs hown, by simpa using hown, ⟨rfl, rfl, rfl, Nat.le_refl _, fun k _ _ => rfl⟩⟩
  | some ad =>
    obtain ⟨v', w', h2, h3, h4, -⟩ := run_append_own (P := P) (w := w) base t ty e i z size bytes ht hi hz hsize hby hzs hsz v n xs hown ad m c news hl (hnews.2 ad rfl) h1 h63 hbytes hbase
    exact ⟨v', w', h2, h3, h4⟩
theorem wpList_append13 (hgd : o.guard = none) (s x : Operand) (t : TypeId) (ho : o.op = .call { callee := .builtin .append, args := #[s, x], argTypes := #[t, t] })
    (base : Nat) {e : TypeId} (i : TypeInfo) (z : Value) {size : Nat} (bytes : Nat) (ht : P.underlying t = some (.slice e)) (hi : P.info? e = some i) (hz : i.zero = some z)
    (hsize : i.size = size) (hby : i.bytes = bytes) (hzs : z.cells.size = size) (hsz : 0 < size)
    {v : Value} {n : Nat} {xs : List Value} (hs : a.eval s = v) (hown : w.ownsRow base e size v n xs)
    (x' : Option Addr) (m c : Nat) (news : List Value) (hx : a.eval x = .slice x' m c) (hl : news.length = m * size) (hnews : Holds13 w x' m news) (h1 : ∀ u ∈ news, u.oneCell' = true)
    (h63 : n + m ≤ maxLen) (hbytes : (n + m) * bytes ≤ 140737488355328) (hbase : base ≤ w.heap.size)
    (h : ∀ v' w', Hid (w'.ownsRow base e size v' (n + m) (xs ++ news)) → Hid (w.grownBy w' v.ownBlock) → wpList P ops Q rest (a.put o.dst v') w') : wpList P ops Q (o :: rest) a w := by
  refine wpList_plain hgd fun K hK => ?_
  obtain ⟨v', w', hrun, h2, h3⟩ := run_append13 (P := P) (w := w) base t o.type e i z size bytes ht hi hz hsize hby hzs hsz v n xs hown x' m c news hl hnews h1 h63 hbytes hbase
  unfold Oper.wp
  simp [execOp, ho, resolve, invoke, builtin, hs, hx, hrun, Result.andThen]
  exact hK _ _ (h v' w' h2 h3)
theorem step_append13 (hgd : o.guard = none) (s x : Operand) (t : TypeId) (ho : o.op = .call { callee := .builtin .append, args := #[s, x], argTypes := #[t, t] })
    (base : Nat) {e : TypeId} (i : TypeInfo) (z : Value) {size : Nat} (bytes : Nat) (ht : P.underlying t = some (.slice e)) (hi : P.info? e = some i) (hz : i.zero = some z)
    (hsize : i.size = size) (hby : i.bytes = bytes) (hzs : z.cells.size = size) (hsz : 0 < size)
    {v : Value} {n : Nat} {xs : List Value} (hs : a.eval s = v) (hown : w.ownsRow base e size v n xs)
    (x' : Option Addr) (m c : Nat) (news : List Value) (hx : a.eval x = .slice x' m c) (hl : news.length = m * size) (hnews : Holds13 w x' m news) (h1 : ∀ u ∈ news, u.oneCell' = true)
    (h63 : n + m ≤ maxLen) (hbytes : (n + m) * bytes ≤ 140737488355328) (hbase : base ≤ w.heap.size)
    (hK : ∀ v' w', Hid (w'.ownsRow base e size v' (n + m) (xs ++ news)) → Hid (w.grownBy w' v.ownBlock) → K (a.put o.dst v') w') :
    if Region.wanted o (yielded ops a.tmps) = true then Oper.wp P o a w K Q else E := by
  have hw : Region.wanted o (yielded ops a.tmps) = true := by simp [Region.wanted, hgd]
  rw [if_pos hw]
  obtain ⟨v', w', hrun, h2, h3⟩ := run_append13 (P := P) (w := w) base t o.type e i z size bytes ht hi hz hsize hby hzs hsz v n xs hown x' m c news hl hnews h1 h63 hbytes hbase
  unfold Oper.wp
  simp [execOp, ho, resolve, invoke, builtin, hs, hx, hrun, Result.andThen]
  exact hK v' w' h2 h3
end

/-! Rows of equal parts. -/
section
variable {α : Type} {f : α → List Value} {k : Nat} {w : World}
def flatG (f : α → List Value) (l : List α) : List Value := l.flatMap f
theorem flatG_len (hk : ∀ x, (f x).length = k) : ∀ l : List α, (flatG f l).length = l.length * k
  | [] => by simp [flatG]
  | x :: l => by
    have ih := flatG_len hk l
    unfold flatG at *
    rw [List.flatMap_cons, List.length_append, ih, hk, List.length_cons, Nat.add_mul]
    omega
theorem flatG_get (d : α) (hk : ∀ x, (f x).length = k) : ∀ (l : List α) (i c : Nat), i < l.length → c < k → (flatG f l)[i * k + c]? = (f (l.getD i d))[c]?
  | [], i, c, h, _ => by simp at h
  | x :: l, 0, c, _, hc => by
    unfold flatG
    rw [List.flatMap_cons, Nat.zero_mul, Nat.zero_add, List.getElem?_append_left (by rw [hk]; exact hc)]
    rfl
  | x :: l, i + 1, c, h, hc => by
    have ih := flatG_get d hk l i c (by simpa using h) hc
    unfold flatG at *
    have e : (i + 1) * k + c = k + (i * k + c) := by rw [Nat.add_mul]; omega
    rw [List.flatMap_cons, List.getElem?_append_right (by rw [hk, e]; omega), hk, e, Nat.add_sub_cancel_left, ih]
    rfl
theorem flatG_one (h : ∀ x, ∀ u ∈ f x, u.oneCell' = true) (l : List α) : ∀ u ∈ flatG f l, u.oneCell' = true := by
  intro u hu
  obtain ⟨x, -, hx⟩ := List.mem_flatMap.1 hu
  exact h x u hx
theorem flatG_append (a b : List α) : flatG f (a ++ b) = flatG f a ++ flatG f b := by simp [flatG]
theorem holds_flatG (d : α) (hk : ∀ x, (f x).length = k) (hk0 : 0 < k) {l : List α} {x : Option Addr} {m : Nat} (hl : l.length = m)
    (h : m = 0 ∨ ∃ b off, x = some ⟨b, off, none⟩ ∧ ∀ i, i < m → ∀ c u, (f (l.getD i d))[c]? = some u → w.cell? ⟨b, off + i * k + c, none⟩ = some u) : Holds13 w x m (flatG f l) := by
  subst hl
  refine ⟨fun e => ?_, fun ad e j u hj => ?_⟩
  · rcases h with h | ⟨b, off, hx, -⟩
    · exact h
    · rw [e] at hx; cases hx
  · have hlt : j < l.length * k := by
      have := (List.getElem?_eq_some_iff.1 hj).1
      rwa [flatG_len hk] at this
    rcases h with h | ⟨b, off, hx, h⟩
    · rw [h] at hlt; omega
    · rw [e] at hx
      cases hx
      have hi : j / k < l.length := Nat.div_lt_of_lt_mul (by rw [Nat.mul_comm]; exact hlt)
      have hc : j % k < k := Nat.mod_lt _ hk0
      have ej : j = j / k * k + j % k := by rw [Nat.mul_comm]; exact (Nat.div_add_mod j k).symm
      rw [ej, flatG_get d hk l _ _ hi hc] at hj
      have := h (j / k) hi (j % k) u hj
      rw [Nat.add_assoc, ← ej] at this
      rw [Addr.add_lit]
      exact this
theorem own_flatG (d : α) (hk : ∀ x, (f x).length = k) (hk0 : 0 < k) {base : Nat} {e : TypeId} {v : Value} {n : Nat} {l : List α} (h : w.ownsRow base e k v n (flatG f l)) :
    l.length = n ∧ ∃ a c, v = .slice a n c ∧ n ≤ c ∧ c ≤ maxLen ∧ (n = 0 ∨ ∃ g, a = some ⟨g, 0, none⟩ ∧ g < w.heap.size ∧ ∀ i, i < n → ∀ c u, (f (l.getD i d))[c]? = some u → w.cell? ⟨g, 0 + i * k + c, none⟩ = some u) := by
  have hl := h.1
  rw [flatG_len hk] at hl
  have hn : l.length = n := Nat.eq_of_mul_eq_mul_right hk0 hl
  refine ⟨hn, ?_⟩
  rcases h.2 with ⟨rfl, rfl⟩ | ⟨g, cap, cur, rfl, hb, hg, hnc, hcm, hcs, ht⟩
  · exact ⟨none, 0, rfl, Nat.le_refl _, Nat.zero_le _, .inl rfl⟩
  · refine ⟨_, cap, rfl, hnc, hcm, .inr ⟨g, rfl, (Array.getElem?_eq_some_iff.1 hg).1, fun i hi c u hu => ?_⟩⟩
    have hc : c < k := by have := (List.getElem?_eq_some_iff.1 hu).1; rwa [hk] at this
    have hlt : i * k + c < n * k := by
      have h1 : (i + 1) * k ≤ n * k := Nat.mul_le_mul_right k hi
      rw [Nat.add_mul] at h1
      omega
    rw [Nat.zero_add]
    have hcell := h.cellAt (i * k + c) hlt
    rw [hcell, flatG_get d hk l i c (by omega) hc]
    exact hu
end
def sttC (s : Stt) : List Value := [.int .i64 s.dst, .int .i64 s.t, .int .i64 s.v]
/-- A program's header. -/
structure Hd where
  a : Option Addr
  l : Nat
  c : Nat
  deriving Inhabited
def hdC (h : Hd) : List Value := [.slice h.a h.l h.c]
theorem lkC_len (l : Lk) : (lkC l).length = 4 := rfl
theorem sttC_len (l : Stt) : (sttC l).length = 3 := rfl
theorem hdC_len (l : Hd) : (hdC l).length = 1 := rfl
theorem sttC_one (s : Stt) : ∀ u ∈ sttC s, u.oneCell' = true := by
  intro u hu
  simp only [sttC, List.mem_cons, List.not_mem_nil, or_false] at hu
  rcases hu with rfl | rfl | rfl <;> rfl
theorem hdC_one (s : Hd) : ∀ u ∈ hdC s, u.oneCell' = true := by
  intro u hu
  simp only [hdC, List.mem_cons, List.not_mem_nil, or_false] at hu
  rcases hu with rfl; rfl
section
variable {w : World} {x : Option Addr} {m c : Nat}
theorem Lks.holds {ls : List Lk} (h : Lks w x m c ls) : Holds13 w x m (flatG lkC ls) :=
  holds_flatG default lkC_len (by decide) h.1 (h.2.2.2.imp id fun ⟨b, off, hx, hm⟩ => ⟨b, off, hx, fun i hi c u hu => (hm i hi).range c u hu⟩)
theorem Stts.holds {ls : List Stt} (h : Stts w x m c ls) : Holds13 w x m (flatG sttC ls) :=
  holds_flatG default sttC_len (by decide) h.1 (h.2.2.2.imp id fun ⟨b, off, hx, hm⟩ => ⟨b, off, hx, fun i hi c u hu => by
    obtain ⟨-, h0, h1, h2⟩ := hm i hi
    match c, hu with
    | 0, hu => simp [sttC] at hu; subst hu; exact h0
    | 1, hu => simp [sttC] at hu; subst hu; exact h1
    | 2, hu => simp [sttC] at hu; subst hu; exact h2
    | c + 3, hu => simp [sttC] at hu⟩)
theorem Lks.of_own {base n : Nat} {v : Value} {ls : List Lk} (h : w.ownsRow base 43 4 v n (flatG lkC ls)) : ∃ a c, v = .slice a n c ∧ Lks w a n c ls := by
  obtain ⟨h1, a, c, rfl, h2, h3, h4⟩ := own_flatG default lkC_len (by decide) h
  exact ⟨a, c, rfl, h1, h2, h3, h4.imp id fun ⟨g, hx, hg, hm⟩ => ⟨g, 0, hx, fun i hi => ⟨hg, hm i hi 0 _ rfl, hm i hi 1 _ rfl, hm i hi 2 _ rfl, hm i hi 3 _ rfl⟩⟩⟩
theorem Stts.of_own {base n : Nat} {v : Value} {ls : List Stt} (h : w.ownsRow base 56 3 v n (flatG sttC ls)) : ∃ a c, v = .slice a n c ∧ Stts w a n c ls := by
  obtain ⟨h1, a, c, rfl, h2, h3, h4⟩ := own_flatG default sttC_len (by decide) h
  exact ⟨a, c, rfl, h1, h2, h3, h4.imp id fun ⟨g, hx, hg, hm⟩ => ⟨g, 0, hx, fun i hi => ⟨hg, hm i hi 0 _ rfl, hm i hi 1 _ rfl, hm i hi 2 _ rfl⟩⟩⟩
/-- The headers that lie there, and what they head. -/
def Hds (w : World) (hs : List Hd) (ps : List (List I)) : Prop := hs.length = ps.length ∧ ∀ i, i < hs.length → Inss w (hs.getD i default).a (hs.getD i default).l (hs.getD i default).c (ps.getD i [])
theorem Hds.below {w' : World} {hs : List Hd} {ps : List (List I)} (h : Hds w hs ps) (hb : Below w.heap.size w w') : Hds w' hs ps := ⟨h.1, fun i hi => (h.2 i hi).below hb⟩
theorem Hds.snoc {hs : List Hd} {ps : List (List I)} (h : Hds w hs ps) {d : Hd} {p : List I} (hp : Inss w d.a d.l d.c p) : Hds w (hs ++ [d]) (ps ++ [p]) := by
  refine ⟨by simp [h.1], fun i hi => ?_⟩
  rw [List.length_append] at hi
  by_cases e : i < hs.length
  · have e1 : (hs ++ [d]).getD i default = hs.getD i default := by rw [List.getD_eq_getElem?_getD, List.getElem?_append_left e, ← List.getD_eq_getElem?_getD]
    have e2 : (ps ++ [p]).getD i [] = ps.getD i [] := by rw [List.getD_eq_getElem?_getD, List.getElem?_append_left (by rw [← h.1]; exact e), ← List.getD_eq_getElem?_getD]
    rw [e1, e2]
    exact h.2 i e
  · have hi2 : i = hs.length := by simp at hi; omega
    have e1 : (hs ++ [d]).getD i default = d := by rw [List.getD_eq_getElem?_getD, List.getElem?_append_right (by omega), hi2]; simp
    have e2 : (ps ++ [p]).getD i [] = p := by rw [List.getD_eq_getElem?_getD, List.getElem?_append_right (by rw [← h.1]; omega), hi2, h.1]; simp
    rw [e1, e2]
    exact hp
theorem Prs.heads {ps : List (List I)} (h : Prs w x m c ps) : ∃ hs, Hds w hs ps ∧ Holds13 w x m (flatG hdC hs) := by
  obtain ⟨h1, h2, h3, h4⟩ := h
  rcases h4 with h0 | ⟨b, off, rfl, hm⟩
  · subst h0
    refine ⟨[], ⟨by simp [h1], fun i hi => by simp at hi⟩, holds_flatG default hdC_len (by decide) rfl (.inl rfl)⟩
  · have hM : ∀ i, i < m → ∃ d : Hd, PrAt w b (off + i) d.a d.l d.c (ps.getD i []) := fun i hi => by
      obtain ⟨a', l', c', hp⟩ := hm i hi
      exact ⟨⟨a', l', c'⟩, hp⟩
    have hg : ∀ i, i < m → PrAt w b (off + i) (((List.range m).map fun i => if hi : i < m then (hM i hi).choose else default).getD i default).a (((List.range m).map fun i => if hi : i < m then (hM i hi).choose else default).getD i default).l (((List.range m).map fun i => if hi : i < m then (hM i hi).choose else default).getD i default).c (ps.getD i []) := fun i hi => by
      have e : ((List.range m).map fun i => if hi : i < m then (hM i hi).choose else default).getD i default = (hM i hi).choose := by simp [List.getD_eq_getElem?_getD, hi]
      rw [e]
      exact (hM i hi).choose_spec
    refine ⟨(List.range m).map fun i => if hi : i < m then (hM i hi).choose else default, ⟨by simp [h1], fun i hi => (hg i (by simpa using hi)).2.2⟩, holds_flatG default hdC_len (by decide) (by simp) (.inr ⟨b, off, rfl, fun i hi c u hu => ?_⟩)⟩
    have hp := (hg i hi).2.1
    have hc : c = 0 := by have := (List.getElem?_eq_some_iff.1 hu).1; rw [hdC_len] at this; omega
    subst hc
    simp only [hdC, List.getElem?_cons_zero, Option.some.injEq] at hu
    subst hu
    rw [Nat.mul_one, Nat.add_zero]
    exact hp
theorem Prs.of_own {base n : Nat} {v : Value} {hs : List Hd} {ps : List (List I)} (h : w.ownsRow base 33 1 v n (flatG hdC hs)) (hh : Hds w hs ps) : ∃ a c, v = .slice a n c ∧ Prs w a n c ps := by
  obtain ⟨h1, a, c, rfl, h2, h3, h4⟩ := own_flatG default hdC_len (by decide) h
  refine ⟨a, c, rfl, by rw [← hh.1]; exact h1, h2, h3, h4.imp id fun ⟨g, hx, hg, hm⟩ => ⟨g, 0, hx, fun i hi => ⟨_, _, _, hg, ?_, hh.2 i (by omega)⟩⟩⟩
  have := hm i hi 0 _ rfl
  rw [Nat.mul_one, Nat.add_zero] at this
  exact this
end
end Go.Proofs.YtofkfajcibdneaaDoor
