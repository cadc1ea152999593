/-
  A copy of a program; what stands between two rounds of the program's world.
-/
import Derived.Test.YtofkfajcibdneaaDoorNH
import Derived.Test.YtofkfajcibdneaaDoorOB
namespace Go.Proofs.YtofkfajcibdneaaDoor
open Go.ChangeShapes Go.WideShapes Go.ChangeAt Go.Shelf Go.RowKit Go.Lib Go.Sort Go.Deep
set_option linter.unusedVariables false
set_option linter.unusedSimpArgs false
set_option maxRecDepth 4000

theorem infoIn : (Tryd.prog.info? 41).map (fun i => (i.zero, i.size, i.bytes)) = some (some (.agg #[.int .i64 0, .int .i64 0, .int .i64 0, .int .i64 0]), 4, 32) := by kernel_rfl
def cellsOfI (i : I) : List Value := [.int .i64 i.op, .int .i64 i.a, .int .i64 i.b, .int .i64 i.c]
/-- The cells of instructions, one behind the other. -/
def flatI (is : List I) : List Value := is.flatMap cellsOfI
theorem flatI_length (is : List I) : (flatI is).length = is.length * 4 := by
  induction is with
  | nil => rfl
  | cons m ms ih => unfold flatI at *; rw [List.flatMap_cons, List.length_append, ih, List.length_cons]; simp [cellsOfI]; omega
theorem flatI_append (a b : List I) : flatI (a ++ b) = flatI a ++ flatI b := by simp [flatI]
theorem flatI_one (is : List I) : ∀ u ∈ flatI is, u.oneCell' = true := by
  intro u hu
  unfold flatI at hu
  obtain ⟨m, _, hm⟩ := List.mem_flatMap.1 hu
  simp only [cellsOfI, List.mem_cons, List.not_mem_nil, or_false] at hm
  rcases hm with rfl | rfl | rfl | rfl <;> rfl
theorem flatI_get : ∀ (is : List I) (i c : Nat), i < is.length → c < 4 → (flatI is)[i * 4 + c]? = (cellsOfI (is.getD i default))[c]?
  | [], i, c, h, _ => by simp at h
  | m :: ms, 0, c, _, hc => by
    unfold flatI
    rw [List.flatMap_cons, Nat.zero_mul, Nat.zero_add, List.getElem?_append_left (by simp [cellsOfI]; exact hc)]
    rfl
  | m :: ms, i + 1, c, h, hc => by
    have ih := flatI_get ms i c (by simpa using h) hc
    unfold flatI at *
    rw [List.flatMap_cons, List.getElem?_append_right (by simp [cellsOfI]; omega), show (i + 1) * 4 + c - (cellsOfI m).length = i * 4 + c by simp [cellsOfI]; omega, ih]
    rfl
theorem InsAt.cell {w : World} {b o : Nat} {m : I} (h : InsAt w b o m) (c : Nat) (u : Value) (hc : (cellsOfI m)[c]? = some u) : w.cell? ⟨b, o + c, none⟩ = some u := by
  obtain ⟨_, h0, h1, h2, h3⟩ := h
  have hlt : c < 4 := (List.getElem?_eq_some_iff.1 hc).1
  rcases (by omega : c = 0 ∨ c = 1 ∨ c = 2 ∨ c = 3) with rfl | rfl | rfl | rfl
  all_goals (simp [cellsOfI] at hc; subst hc; first | exact h0 | exact h1 | exact h2 | exact h3)
theorem Inss.cells {w : World} {ad : Addr} {len cap : Nat} {is : List I} (h : Inss w (some ad) len cap is) (j : Nat) (u : Value) (hj : (flatI is)[j]? = some u) : w.cell? (ad.add j) = some u := by
  obtain ⟨h1, h2, h3, hf, h4⟩ := h
  have hlt : j < is.length * 4 := by
    have := (List.getElem?_eq_some_iff.1 hj).1
    rwa [flatI_length] at this
  rcases h4 with h0 | ⟨b, off, ha, hm⟩
  · omega
  · cases ha
    rw [show (⟨b, off, none⟩ : Addr).add j = ⟨b, off + j, none⟩ from Addr.add_lit _ _ _]
    have e : j = j / 4 * 4 + j % 4 := by omega
    rw [e, flatI_get is (j / 4) (j % 4) (by omega) (by omega)] at hj
    have := (hm (j / 4) (by omega)).cell (j % 4) u hj
    rwa [Nat.add_assoc, ← e] at this
theorem insAt_of_block {w : World} {g n : Nat} {cur : Array Value} {e : TypeId} {is : List I} (hg : w.heap[g]? = some (.cells cur e (0, 0))) (hn : is.length = n) (ht : cur.toList.take (n * 4) = flatI is) (k : Nat) (hk : k < n) : InsAt w g (k * 4) (is.getD k default) := by
  have hc : ∀ c, c < 4 → w.cell? ⟨g, k * 4 + c, none⟩ = (cellsOfI (is.getD k default))[c]? := fun c hc => by
    have : w.cell? ⟨g, k * 4 + c, none⟩ = cur[k * 4 + c]? := by simp [World.cell?, hg]
    rw [this, ← flatI_get is k c (by omega) hc, ← ht, List.getElem?_take_of_lt (by omega), Array.getElem?_toList]
  exact ⟨(Array.getElem?_eq_some_iff.1 hg).1, hc 0 (by omega), hc 1 (by omega), hc 2 (by omega), hc 3 (by omega)⟩
theorem inss_of_own {w : World} {base : Nat} {v : Value} {n : Nat} {is : List I} (h : w.ownsRow base 41 4 v n (flatI is)) (hf : ∀ i ∈ is, i.fits) : ∃ a cap, v = .slice a n cap ∧ Inss w a n cap is := by
  obtain ⟨hl, hv⟩ := h
  rw [flatI_length] at hl
  have hl' : is.length = n := by omega
  rcases hv with ⟨rfl, rfl⟩ | ⟨g, cap, cur, rfl, _, hg, hn, hm, hs, ht⟩
  · exact ⟨none, 0, rfl, hl', Nat.le_refl _, by unfold maxLen; omega, hf, .inl rfl⟩
  · refine ⟨some ⟨g, 0, none⟩, cap, rfl, hl', hn, hm, hf, .inr ⟨g, 0, rfl, fun k hk => ?_⟩⟩
    have := insAt_of_block hg hl' ht k hk
    rwa [Nat.zero_add]

set_option maxHeartbeats 1000000 in
theorem cloneI_some (ad : Addr) (n c : Nat) (news : List Value) (w : World) (hl : news.length = n * 4) (hn : n ≤ maxLen) (hbig : n * 32 ≤ 140737488355328)
    (hc : ∀ j u, news[j]? = some u → w.cell? (ad.add j) = some u) (h1 : ∀ u ∈ news, u.oneCell' = true) :
    Calls Tryd.prog 41 #[.slice (some ad) n c] w fun e w' => ∃ v', e = .returned v' ∧ w'.ownsRow w.heap.size 41 4 v' n news ∧ Below w.heap.size w w' := by
  obtain ⟨i0, hi, hz0, hz1, hz2⟩ := info_parts13 infoIn
  have q22 : ∀ (w : World) (a : Option Addr) (n c n' c' : Nat), (binOp .eql 33 (.slice a n c) (.slice none n' c')).run Tryd.prog w = .ok (.bool a.isNone) w := fun w a n c n' c' => Lib.run_eql_slice_nil w _ _ a n c n' c' Tryd.underlying33
  have A : Aside (∀ j u, news[j]? = some u → w.cell? (ad.add j) = some u) := hc
  clear hc
  go_enter Tryd.func41, Tryd.ntmps41
  go_wp2_with (at_builtin; refine wpList_append_own _ rfl _ _ 33 rfl w.heap.size 41 i0 _ 4 32 Tryd.underlying33 hi hz0 hz1 hz2 rfl (by omega) _ _ _ rfl (World.ownsRow_made w #[] 0 (Nat.le_refl _) (Nat.zero_le _) (by simp)) ad n c news rfl ?qc1 ?qc2 ?qc3 ?qc4 ?qc5 ?qc6 ?_)
  case qc1 => exact hl
  case qc2 =>
    intro j u hj
    exact Lib.cell?_alloc_some _ (A.out j u hj)
  case qc3 => exact h1
  case qc4 => rw [Nat.zero_add]; exact hn
  case qc5 => rw [Nat.zero_add]; exact hbig
  case qc6 => simp
  intro v' w1 hown hgrow hnil
  go_wp2
  go_ret
  refine ⟨v', rfl, by simpa using hown, ?_⟩
  exact ((Below.refl _ w).alloc (Nat.le_refl _) _).grown hgrow (by simp) (by intro k hk; simp [Value.ownBlock] at hk; omega)
theorem cloneI_nil (n c : Nat) (w : World) : Calls Tryd.prog 41 #[.slice none n c] w fun e w' => e = .returned (.slice none 0 0) ∧ w' = w := by
  have q22 : ∀ (w : World) (a : Option Addr) (n c n' c' : Nat), (binOp .eql 33 (.slice a n c) (.slice none n' c')).run Tryd.prog w = .ok (.bool a.isNone) w := fun w a n c n' c' => Lib.run_eql_slice_nil w _ _ a n c n' c' Tryd.underlying33
  go_enter Tryd.func41, Tryd.ntmps41
  go_wp2
  go_ret
  exact ⟨rfl, rfl⟩

theorem own_new {w : World} {base : Nat} {e : TypeId} {sz n : Nat} {v : Value} {xs : List Value} (h : w.ownsRow base e sz v n xs) : ∃ a c, v = .slice a n c ∧ ∀ k, v.ownBlock = some k → base ≤ k := by
  rcases h.2 with ⟨rfl, rfl⟩ | ⟨g, cap, cur, rfl, hb, _⟩
  · exact ⟨none, 0, rfl, fun k hk => by cases hk⟩
  · exact ⟨_, cap, rfl, fun k hk => by simp [Value.ownBlock] at hk; omega⟩
theorem Inss.keptOff {S : Nat → Prop} {w w' : World} {a : Option Addr} {len cap : Nat} {os : List I} (h : Inss w a len cap os) (hk : KeptOff S w w') (hn : ∀ k, (Value.slice a len cap).ownBlock = some k → ¬ S k) : Inss w' a len cap os := by
  obtain ⟨h1, h2, h3, hf, h4⟩ := h
  refine ⟨h1, h2, h3, hf, h4.imp id ?_⟩
  rintro ⟨b, off, ha, hm⟩
  subst ha
  refine ⟨b, off, rfl, fun i hi => ?_⟩
  obtain ⟨hlt, h0⟩ := hm i hi
  have e : ∀ o, w'.cell? ⟨b, o, none⟩ = w.cell? ⟨b, o, none⟩ := fun o => by simp [World.cell?, hk.block b hlt (hn b rfl)]
  unfold InsAt
  simp only [e]
  exact ⟨Nat.lt_of_lt_of_le hlt hk.size, h0⟩
theorem clone13 {w : World} {a : Option Addr} {len cap : Nat} {is : List I} (h : Inss w a len cap is) (hs : len ≤ 16384) :
    Calls Tryd.prog 41 #[.slice a len cap] w fun e w' => ∃ a' c', e = .returned (.slice a' len c') ∧ Hid (Inss w' a' len c' is ∧ Below w.heap.size w w' ∧ ∀ k, (Value.slice a' len c').ownBlock = some k → w.heap.size ≤ k ∧ k < w'.heap.size) := by
  have hl : is.length = len := h.1
  cases a with
  | none =>
    obtain rfl : len = 0 := by
      rcases h.2.2.2.2 with h0 | ⟨b, off, ha, _⟩
      · exact h0
      · cases ha
    refine (cloneI_nil 0 cap w).mono ?_
    rintro e w' ⟨rfl, rfl⟩
    exact ⟨none, 0, rfl, ⟨hl, Nat.le_refl _, by unfold maxLen; omega, h.2.2.2.1, .inl rfl⟩, Below.refl _ _, fun k hk => by cases hk⟩
  | some ad =>
    refine (cloneI_some ad len cap (flatI is) w (by rw [flatI_length, hl]) (by unfold maxLen; omega) (by omega) (fun j u hj => h.cells j u hj) (flatI_one is)).mono ?_
    rintro e w' ⟨v', rfl, ho, hb⟩
    obtain ⟨a', c', rfl, hk⟩ := own_new ho
    obtain ⟨a2, c2, e2, hI⟩ := inss_of_own ho h.2.2.2.1
    cases e2
    refine ⟨a', c', rfl, hI, hb, fun k e => ⟨hk k e, ?_⟩⟩
    rcases ho.2 with ⟨e1, -⟩ | ⟨g, cap, cur, e1, -, hg, -⟩
    · rw [e1] at e; cases e
    · rw [e1] at e
      simp [Value.ownBlock] at e
      subst e
      exact (Array.getElem?_eq_some_iff.1 hg).1
/-- What stands between two rounds of world. -/
structure WoJ (w : World) (B X R : Nat) (v : Mv) (M : Md) (k : Nat) (qa : Option Addr) (ql qc : Nat) (is : List I) (av : Value) (L : List Nat) (i : Nat) (lu : Value) (wr : World) : Prop where
  b : Below w.heap.size w wr
  hp : wr.heap[B]? = some (.cells (v.cells M) 27 (0, 0))
  md : Mds w v M
  wo : wr.heap[X]? = some (.cells (woC (.slice qa ql qc) k lu M.seed) 35 (0, 0))
  rz : wr.heap[R]? = some (.cells woZ 35 (0, 0))
  ways : RowAt wr 3 1 av L.length (nats L)
  row : RowAt wr 43 4 lu i (lksC M.links (L.take i))
  bX : w.heap.size ≤ X
  nX : X ≠ B ∧ X ≠ R
  ownA : ∀ j, av.ownBlock = some j → j ≠ X
  own : ∀ j, lu.ownBlock = some j → w.heap.size ≤ j ∧ j ≠ B ∧ j ≠ X ∧ j ≠ R ∧ av.ownBlock ≠ some j
  cl : Inss wr qa ql qc is
  clX : ∀ j, (Value.slice qa ql qc).ownBlock = some j → j ≠ X ∧ j < wr.heap.size ∧ lu.ownBlock ≠ some j
section
variable {w wr w' : World} {B X R : Nat} {v : Mv} {M : Md} {k i : Nat} {qa : Option Addr} {ql qc : Nat} {is : List I} {av lu : Value} {L : List Nat}
theorem WoJ.box (h : WoJ w B X R v M k qa ql qc is av L i lu wr) : MdBox wr B v M := ⟨h.hp, h.md.below h.b⟩
theorem WoJ.xlt (h : WoJ w B X R v M k qa ql qc is av L i lu wr) : X < wr.heap.size := (Array.getElem?_eq_some_iff.1 h.wo).1
theorem WoJ.rlt (h : WoJ w B X R v M k qa ql qc is av L i lu wr) : R < wr.heap.size := (Array.getElem?_eq_some_iff.1 h.rz).1
theorem WoJ.below (h : WoJ w B X R v M k qa ql qc is av L i lu wr) (hb : Below wr.heap.size wr w') : WoJ w B X R v M k qa ql qc is av L i lu w' :=
  ⟨h.b.trans (hb.mono h.b.size), (h.box.below hb).1, h.md, (hb.block X h.xlt).trans h.wo, (hb.block R h.rlt).trans h.rz, h.ways.kept (S := fun _ => False) (.of_below hb) (fun _ _ e => e), h.row.kept (S := fun _ => False) (.of_below hb) (fun _ _ e => e), h.bX, h.nX, h.ownA, h.own, h.cl.below hb, fun j e => ⟨(h.clX j e).1, Nat.lt_of_lt_of_le (h.clX j e).2.1 hb.size, (h.clX j e).2.2⟩⟩
/-- What an append to the links keeps. -/
theorem WoJ.keep (h : WoJ w B X R v M k qa ql qc is av L i lu wr) (hk : KeptOff (fun j => lu.ownBlock = some j) wr w') :
    (Below w.heap.size w w' ∧ w'.heap[B]? = some (.cells (v.cells M) 27 (0, 0))) ∧ (w'.heap[X]? = some (.cells (woC (.slice qa ql qc) k lu M.seed) 35 (0, 0)) ∧ w'.heap[R]? = some (.cells woZ 35 (0, 0))) ∧ (RowAt w' 3 1 av L.length (nats L) ∧ Inss w' qa ql qc is) :=
  ⟨⟨h.b.trans (hk.below (fun j _ e => (h.own j e).1) h.b.size), (hk.block B h.box.lt (fun e => (h.own B e).2.1 rfl)).trans h.hp⟩, ⟨(hk.block X h.xlt (fun e => (h.own X e).2.2.1 rfl)).trans h.wo, (hk.block R h.rlt (fun e => (h.own R e).2.2.2.1 rfl)).trans h.rz⟩, h.ways.kept hk (fun j e e2 => (h.own j e2).2.2.2.2 e), h.cl.keptOff hk (fun j e e2 => (h.clX j e).2.2 e2)⟩
theorem WoJ.more (h : WoJ w B X R v M k qa ql qc is av L i lu wr) (hi : i < L.length) {g off cap : Nat} (h1 : RowIn w' 43 4 g off (i + 1) cap (lksC M.links (L.take i) ++ lkC (M.links.getD (L.getD i 0) default))) (h2 : KeptOff (fun j => lu.ownBlock = some j) wr w') (h3 : lu.ownBlock = some g ∨ wr.heap.size ≤ g) :
    WoJ w B X R v M k qa ql qc is av L (i + 1) (.slice (some ⟨g, off, none⟩) (i + 1) cap) (w'.setCell ⟨X, 2, none⟩ (.slice (some ⟨g, off, none⟩) (i + 1) cap)) := by
  obtain ⟨⟨a1, a2⟩, ⟨a3, a4⟩, a5, a6⟩ := h.keep h2
  have hks := KeptOff.set w' ⟨X, 2, none⟩ (.slice (some ⟨g, off, none⟩) (i + 1) cap)
  have hw := Go.heap_setCell_same w' X 2 _ _ (.slice (some ⟨g, off, none⟩) (i + 1) cap) a3
  have hgX : w.heap.size ≤ g ∧ g ≠ B ∧ g ≠ X ∧ g ≠ R ∧ av.ownBlock ≠ some g := by
    rcases h3 with h3 | h3
    · exact h.own g h3
    · exact ⟨Nat.le_trans h.b.size h3, fun e => by have := h.box.lt; omega, fun e => by have := h.xlt; omega, fun e => by have := h.rlt; omega, fun e => by have := h.ways.lt g e; omega⟩
  refine ⟨a1.trans (hks.below (fun j _ e => by rw [show j = X from e]; exact h.bX) a1.size), (hks.block B (Array.getElem?_eq_some_iff.1 a2).1 (fun e => h.nX.1 e.symm)).trans a2, h.md, hw, (hks.block R (Array.getElem?_eq_some_iff.1 a4).1 (fun e => h.nX.2 e.symm)).trans a4, a5.kept hks (fun j e e2 => h.ownA j e e2), ?_, h.bX, h.nX, h.ownA, fun j e => ?_, a6.keptOff hks (fun j e e2 => (h.clX j e).1 e2), fun j e => ⟨(h.clX j e).1, Nat.lt_of_lt_of_le (Nat.lt_of_lt_of_le (h.clX j e).2.1 h2.size) hks.size, fun e2 => ?_⟩⟩
  · have hL : L.take (i + 1) = L.take i ++ [L.getD i 0] := by rw [List.take_succ_eq_append_getElem hi, List.getD_eq_getElem?_getD, List.getElem?_eq_getElem hi]; rfl
    rw [hL, lksC_snoc]
    exact .inr ⟨g, off, cap, rfl, h1.kept hks (fun e => hgX.2.2.1 e)⟩
  · simp [Value.ownBlock] at e
    subst e
    exact hgX
  · have e3 : g = j := by simpa [Value.ownBlock] using e2
    subst e3
    rcases h3 with h3 | h3
    · exact (h.clX g e).2.2 h3
    · have := (h.clX g e).2.1
      omega
theorem WoJ.look (h : WoJ w B X R v M k qa ql qc is av L i lu wr) (hi : i < L.length) (hL : ∀ j ∈ L, j < v.ll) : ∃ (ag ao ac j lb lo : Nat) (l : Lk), av = .slice (some ⟨ag, ao, none⟩) L.length ac ∧ L.length ≤ ac ∧ j < v.ll ∧ v.la = some ⟨lb, lo, none⟩ ∧ Hid (∀ W, Below wr.heap.size wr W → WoS X B ag ao i j lb lo v.ll v.lc lu l W ∧ RowAt W 43 4 lu i (lksC M.links (L.take i)) ∧
    ∀ w4, KeptOff (fun j => lu.ownBlock = some j) W w4 → WoS X B ag ao i j lb lo v.ll v.lc lu l w4 ∧ w4.frozen? ⟨X, 2, none⟩ = false ∧ ∀ g off cap, RowIn w4 43 4 g off (i + 1) cap (lksC M.links (L.take i) ++ lkC l) → (lu.ownBlock = some g ∨ W.heap.size ≤ g) →
      WoJ w B X R v M k qa ql qc is av L (i + 1) (.slice (some ⟨g, off, none⟩) (i + 1) cap) (w4.setCell ⟨X, 2, none⟩ (.slice (some ⟨g, off, none⟩) (i + 1) cap))) := by
  obtain ⟨ag, ao, ac, hv, hR⟩ := h.ways.form (by omega)
  have hj : L.getD i 0 < v.ll := hL _ (by rw [List.getD_eq_getElem?_getD, List.getElem?_eq_getElem hi]; exact List.getElem_mem hi)
  obtain ⟨lb, lo, hla, hlk⟩ := h.md.2.1.get hj
  have hsee : ∀ w5, Below w.heap.size w w5 → w5.heap[B]? = some (.cells (v.cells M) 27 (0, 0)) → w5.heap[X]? = some (.cells (woC (.slice qa ql qc) k lu M.seed) 35 (0, 0)) → RowAt w5 3 1 av L.length (nats L) → WoS X B ag ao i (L.getD i 0) lb lo v.ll v.lc lu (M.links.getD (L.getD i 0) default) w5 := by
    intro w5 q1 q2 q3 q4
    obtain ⟨g', o', c', e1, e2⟩ := q4.form (by omega)
    rw [hv] at e1
    simp only [Value.slice.injEq, Option.some.injEq, Addr.mk.injEq, and_true, true_and] at e1
    obtain ⟨⟨rfl, rfl⟩, rfl⟩ := e1
    refine ⟨⟨cell_of_block q3 rfl, ?_⟩, e2.cell (nats_get hi), (hlk.below q1).range⟩
    rw [← hla]
    exact cell_of_block q2 rfl
  refine ⟨ag, ao, ac, L.getD i 0, lb, lo, M.links.getD (L.getD i 0) default, hv, hR.bounds.1, hj, hla, Lib.hid fun W hb => ?_⟩
  have h4 := h.below hb
  refine ⟨hsee W h4.b h4.hp h4.wo h4.ways, h4.row, fun w4 hk => ?_⟩
  obtain ⟨⟨a1, a2⟩, ⟨a3, a4⟩, a5, a6⟩ := h4.keep hk
  exact ⟨hsee w4 a1 a2 a3 a5, frozen_of_cells13 a3, fun g off cap r1 r2 => h4.more hi r1 hk r2⟩
end
end Go.Proofs.YtofkfajcibdneaaDoor
