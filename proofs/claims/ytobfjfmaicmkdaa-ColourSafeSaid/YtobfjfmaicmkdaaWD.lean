
/-
  The law of two colours: how it begins; an element laid ahead of a row; what stands between two rounds.
-/
import Derived.Test.YtobfjfmaicmkdaaWC
import Derived.Laws.AppendOwn
namespace Go.Proofs.Ytobfjfmaicmkdaa
open Go.ChangeShapes Go.WideShapes Go.ChangeAt Go.Shelf Go.RowKit Go.Lib Go.Sort Go.Deep Col
set_option linter.unusedVariables false
set_option linter.unusedSimpArgs false
set_option maxRecDepth 4000

theorem made_vals (N : Nat) : (madeCells (Value.slice none 0 0).cells (N * 1)).toList = vals (fun _ => .slice none 0 0) N := by
  refine List.ext_getElem? fun j => ?_
  by_cases hj : j < N
  · rw [vals_get _ hj]
    simp [madeCells, Value.cells, hj, Nat.mod_one]
  · rw [List.getElem?_eq_none (by rw [Array.length_toList, size_madeCells]; omega), List.getElem?_eq_none (by rw [vals_len]; omega)]
section
variable {P : Program} {w w' wr : World} {e : TypeId} {n : Nat} {v : Value} {xs : List Value}
/-- An element of its own, and a row behind it. -/
theorem RowAt.prepend (h : RowAt w e 1 v n xs) (t ty : TypeId) (i : TypeInfo) (z : Value) (bytes : Nat) (ht : P.underlying t = some (.slice e)) (hi : P.info? e = some i) (hz : i.zero = some z) (hsize : i.size = 1) (hby : i.bytes = bytes)
    (hzs : z.cells.size = 1) (g0 : Nat) (u : Value) (hg : w.heap[g0]? = some (.cells #[u] e (0, 0))) (h1 : ∀ u ∈ xs, u.oneCell' = true) (h63 : 1 + n ≤ maxLen) (hbytes : (1 + n) * bytes ≤ 140737488355328) :
    ∃ g cap w', (Builtin.append_ #[t, t] ty #[.slice (some ⟨g0, 0, none⟩) 1 1, v]).run P w = .ok (.slice (some ⟨g, 0, none⟩) (1 + n) cap) w' ∧ RowIn w' e 1 g 0 (1 + n) cap (u :: xs) ∧ KeptOff (fun k => k = g0) w w' ∧ g0 ≤ g := by
  have hown : w.ownsRow g0 e 1 (.slice (some ⟨g0, 0, none⟩) 1 1) 1 [u] := ⟨by simp, .inr ⟨g0, 1, #[u], rfl, Nat.le_refl _, hg, by omega, by unfold maxLen; omega, by simp, by simp⟩⟩
  have hl0 : g0 < w.heap.size := (Array.getElem?_eq_some_iff.1 hg).1
  have hl := h.len
  rcases h with ⟨rfl, rfl, rfl⟩ | ⟨g, off, cap, rfl, h⟩
  · have hrun := run_append_owned_none (P := P) (w := w) g0 t ty e i 1 ht hi _ 1 [u] hown
    exact ⟨g0, 1, w, hrun, .of_own hown, KeptOff.refl _ _, Nat.le_refl _⟩
  · obtain ⟨v', w', hrun, r1, r2, r3⟩ := run_append_own (P := P) w g0 t ty e i z 1 bytes ht hi hz hsize hby hzs (by omega) _ 1 [u] hown ⟨g, off, none⟩ n cap xs hl (fun j y hj => by rw [Addr.add_lit]; exact h.cell hj) h1 h63 hbytes (by omega)
    obtain ⟨g', cap', rfl, hb, hg'⟩ := r1.form (by omega)
    exact ⟨g', cap', w', hrun, .of_own r1, (KeptOff.of_grown r2).mono (fun k _ e => by simp [Value.ownBlock] at e; exact e.symm), hb⟩
end
section
variable {P : Program} {ops : Array Oper} {E : Prop} {o : Oper} {a : Act} {w w2 : World} {K : Act → World → Prop} {Q : Exit → Act → World → Prop}
theorem step_append_row (hgd : o.guard = none) (s x : Operand) (t : TypeId) (ho : o.op = .call { callee := .builtin .append, args := #[s, x], argTypes := #[t, t] })
    {e : TypeId} {sz n : Nat} {v : Value} {xs : List Value} (h : RowAt w e sz v n xs) (i : TypeInfo) (z : Value) (bytes : Nat) (ht : P.underlying t = some (.slice e)) (hi : P.info? e = some i) (hz : i.zero = some z) (hsize : i.size = sz) (hby : i.bytes = bytes)
    (hzs : z.cells.size = sz) (hsz : 0 < sz) (hs : a.eval s = v) (ad : Addr) (c : Nat) (news : List Value) (hx : a.eval x = .slice (some ad) 1 c) (hl : news.length = sz) (hnews : ∀ j u, news[j]? = some u → w.cell? (ad.add j) = some u) (h1 : ∀ u ∈ news, u.oneCell' = true)
    (h63 : n + 1 ≤ maxLen) (hbytes : (n + 1) * bytes ≤ 140737488355328)
    (hK : ∀ g off cap w', Hid (RowIn w' e sz g off (n + 1) cap (xs ++ news)) → Hid (KeptOff (fun k => v.ownBlock = some k) w w') → Hid (v.ownBlock = some g ∨ w.heap.size ≤ g) → K (a.put o.dst (.slice (some ⟨g, off, none⟩) (n + 1) cap)) w') :
    if Region.wanted o (yielded ops a.tmps) = true then Oper.wp P o a w K Q else E := by
  have hw : Region.wanted o (yielded ops a.tmps) = true := by simp [Region.wanted, hgd]
  rw [if_pos hw]
  obtain ⟨g, off, cap, w', hrun, r1, r2, r3⟩ := h.append (P := P) t o.type i z bytes ht hi hz hsize hby hzs hsz ad c news hl hnews h1 h63 hbytes
  unfold Oper.wp
  simp [execOp, ho, resolve, invoke, builtin, hs, hx, hrun, Result.andThen]
  exact hK g off cap w' r1 r2 r3
theorem step_prepend (hgd : o.guard = none) (s x : Operand) (t : TypeId) (ho : o.op = .call { callee := .builtin .append, args := #[s, x], argTypes := #[t, t] })
    {e : TypeId} {n : Nat} {v : Value} {xs : List Value} (h : RowAt w e 1 v n xs) (i : TypeInfo) (z : Value) (bytes : Nat) (ht : P.underlying t = some (.slice e)) (hi : P.info? e = some i) (hz : i.zero = some z) (hsize : i.size = 1) (hby : i.bytes = bytes)
    (hzs : z.cells.size = 1) (g0 : Nat) (u : Value) (hg : w.heap[g0]? = some (.cells #[u] e (0, 0))) (hs : a.eval s = .slice (some ⟨g0, 0, none⟩) 1 1) (hx : a.eval x = v) (h1 : ∀ u ∈ xs, u.oneCell' = true) (h63 : 1 + n ≤ maxLen) (hbytes : (1 + n) * bytes ≤ 140737488355328)
    (hK : ∀ g cap w', Hid (RowIn w' e 1 g 0 (1 + n) cap (u :: xs)) → Hid (KeptOff (fun k => k = g0) w w') → Hid (g0 ≤ g) → K (a.put o.dst (.slice (some ⟨g, 0, none⟩) (1 + n) cap)) w') :
    if Region.wanted o (yielded ops a.tmps) = true then Oper.wp P o a w K Q else E := by
  have hw : Region.wanted o (yielded ops a.tmps) = true := by simp [Region.wanted, hgd]
  rw [if_pos hw]
  obtain ⟨g, cap, w', hrun, r1, r2, r3⟩ := h.prepend (P := P) t o.type i z bytes ht hi hz hsize hby hzs g0 u hg h1 h63 hbytes
  unfold Oper.wp
  simp [execOp, ho, resolve, invoke, builtin, hs, hx, hrun, Result.andThen]
  exact hK g cap w' r1 r2 r3
end
theorem ints_one (l : List Int) : ∀ u ∈ ints l, u.oneCell' = true := by
  intro u hu
  obtain ⟨z, _, rfl⟩ := List.mem_map.1 hu
  rfl
section
variable {w wr w' : World} {σ : Nat → Nat} {vt : Value} {gh gm kb N : Nat} {pa : Nat → Nat} {hv mv : Nat → Value} {s : WS} {x : Nat}
theorem Sf.preH (h : Sf w σ vt gh gm kb N pa hv mv s wr) (hN : N ≤ 6) (hx : x < N) {g cap : Nat} {t : Int} (hb : Below wr.heap.size wr w') (h1 : RowIn w' 2 1 g 0 (1 + (s.held x).length) cap (.int .i64 t :: ints (s.held x))) (hg : wr.heap.size ≤ g) :
    ∃ σ', Sf w σ' vt gh gm kb N pa (upd hv x (.slice (some ⟨g, 0, none⟩) (1 + (s.held x).length) cap)) mv { s with held := upd s.held x (t :: s.held x) } (w'.setCell ⟨gh, x, none⟩ (.slice (some ⟨g, 0, none⟩) (1 + (s.held x).length) cap)) := by
  have h2 := h.grow hb (x + 105)
  refine ⟨_, h2.setH hN hx (l := t :: s.held x) ⟨.inr ⟨g, 0, cap, ?_, ?_⟩, fun j e => ?_⟩⟩
  · rw [List.length_cons, Nat.add_comm]
  · rw [List.length_cons, Nat.add_comm]; exact h1
  · simp [Value.ownBlock] at e
    subst e
    exact if_neg (by omega)
theorem Sf.start {W0 W1 W2 : World} {ts : Nat → Ta} (h1 : Wld w σ W0) (h2 : Tls σ W0 vt N pa ts) (hts : ts = fun _ => Ta.new) (h3 : TkO σ W0 2 kb (Tk.new N)) (b1 : Below W0.heap.size W0 W1) (r1 : RowIn W1 58 1 W0.heap.size 0 N N (vals (fun _ => .slice none 0 0) N))
    (b2 : Below W1.heap.size W1 W2) (r2 : RowIn W2 59 1 W1.heap.size 0 N N (vals (fun _ => .slice none 0 0) N)) : ∃ σ', Sf w σ' vt W0.heap.size W1.heap.size kb N pa (fun _ => .slice none 0 0) (fun _ => .slice none 0 0) (WS.start fun _ => []) W2 := by
  subst hts
  have hb : Below W0.heap.size W0 W2 := b1.trans (b2.mono b1.size)
  have hT : Turns σ (fun j => if j < W0.heap.size then σ j else if j < W1.heap.size then 3 else 4) (fun _ => False) W0 W2 := ⟨.of_below hb, fun j hj => if_pos hj⟩
  refine ⟨_, h1.step hT (fun e => e), h2.step hT (fun e => e) (fun _ _ e => e), h3.step hT (fun e => e), ⟨r1.block (b2.block _ r1.lt), ?_⟩, ⟨r2, ?_⟩, fun i hi => ⟨.inl ⟨rfl, rfl, rfl⟩, fun j e => by cases e⟩, fun i hi => ⟨.inl ⟨rfl, rfl, rfl⟩, fun j e => by cases e⟩⟩
  · show (if W0.heap.size < W0.heap.size then _ else if W0.heap.size < W1.heap.size then 3 else 4) = 3
    rw [if_neg (by omega), if_pos r1.lt]
  · have := b1.size
    show (if W1.heap.size < W0.heap.size then _ else if W1.heap.size < W1.heap.size then 3 else 4) = 4
    rw [if_neg (by omega), if_neg (by omega)]
theorem Bds.more {st : Nat} (B : Bds N st s) : Bds N (st + 1) s :=
  ⟨fun i hi z hz => by have := B.hb i hi z hz; omega, fun i hi m hm => by have := B.mb i hi m hm; omega, fun i hi q => by have := B.nb i hi q; omega, B.sb, fun i hi => by have := B.hl i hi; omega, fun i hi => by have := B.ml i hi; omega, B.rb, B.lb⟩
theorem Bds.ok {st : Nat} (B : Bds N st s) (h9 : st ≤ 1000) (hx : x < N) : Ta.ok (s.ta x) := by
  have h1 := B.nb x hx true
  have h2 := B.nb x hx false
  simp only [Ta.net, if_true, Bool.false_eq_true, if_false] at h1 h2
  exact ⟨⟨by omega, by omega⟩, by omega, by omega⟩
theorem Bds.small {st : Nat} (B : Bds N st s) (h9 : st ≤ 1000) (hx : x < N) : Ta.small (s.ta x) := by
  have h1 := B.nb x hx true
  have h2 := B.nb x hx false
  simp only [Ta.net, if_true, Bool.false_eq_true, if_false] at h1 h2
  exact ⟨⟨by omega, by omega⟩, by omega, by omega⟩
theorem Bds.tok {st : Nat} (B : Bds N st s) (hN : N ≤ 6) (hat : s.at' < N) : (tok N s).ok := by
  have h1 := B.sb
  exact ⟨hat, by show N ≤ 16; omega, by show -2305843009213693952 < s.sum; omega, by show s.sum < 2305843009213693952; omega⟩
end
/-- What stands while the law lays the times that are held at first. -/
def Sf0 (w : World) (vt : Value) (gh gm kb N : Nat) (pa : Nat → Nat) (i : Nat) (wr : World) : Prop := ∃ σ hv mv held, Sf w σ vt gh gm kb N pa hv mv (WS.start held) wr ∧ (∀ j, j < N → ∀ z ∈ held j, 0 ≤ z ∧ z ≤ 255) ∧ ∀ j, j < N → (held j).length ≤ i
/-- .. between two rounds. -/
def SfI (w : World) (vt : Value) (gh gm kb N : Nat) (pa : Nat → Nat) (i : Nat) (g : Int) (wr : World) : Prop := ∃ σ hv mv s c, Sf w σ vt gh gm kb N pa hv mv s wr ∧ Inv N s c ∧ Bds N i s ∧ s.g = g
theorem Sf0.go {w wr : World} {vt : Value} {gh gm kb N : Nat} {pa : Nat → Nat} {i : Nat} (h : Sf0 w vt gh gm kb N pa i wr) (hi : i ≤ 50) (hN : 0 < N) : SfI w vt gh gm kb N pa 0 0 wr := by
  obtain ⟨σ, hv, mv, held, h1, h2, h3⟩ := h
  exact ⟨σ, hv, mv, WS.start held, false, h1, Inv.start hN (fun j hj z hz => (h2 j hj z hz).1), Bds.start h2 (fun j hj => by have := h3 j hj; omega), rfl⟩
end Go.Proofs.Ytobfjfmaicmkdaa
