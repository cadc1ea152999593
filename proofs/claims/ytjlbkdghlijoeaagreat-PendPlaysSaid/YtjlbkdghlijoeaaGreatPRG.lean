/-
  The program's Pend and the document's in one world.
  One call of a script, on both: Push, First, Pop.
-/
import Derived.Test.YtjlbkdghlijoeaaGreatPRE
import Derived.Deep.RegionWith
namespace Go.Proofs.YtjlbkdghlijoeaaGreat
open Go.ChangeShapes Go.WideShapes Go.ChangeAt Go.Shelf Go.RowKit Go.Lib Go.Sort Go.Deep Go.Maps
set_option linter.unusedVariables false

/-- The document's Pend: its queue, its kind. -/
def DRow (w : World) (dp rb K : Nat) : Prop := w.heap[dp]? = some (.cells #[.pointer (some ⟨rb, 0, none⟩), .int .i64 K] 43 (0, 0))
theorem DRow.c0 {w : World} {dp rb K : Nat} (h : DRow w dp rb K) : w.cell? ⟨dp, 0, none⟩ = some (.pointer (some ⟨rb, 0, none⟩)) := cell_of_block (o := 0) h rfl
theorem DRow.c1 {w : World} {dp rb K : Nat} (h : DRow w dp rb K) : w.cell? ⟨dp, 1, none⟩ = some (.int .i64 K) := cell_of_block (o := 1) h rfl
theorem DRow.fz {w : World} {dp rb K : Nat} (h : DRow w dp rb K) : w.frozen? ⟨dp, 1, none⟩ = false := by unfold DRow at h; simp [World.frozen?, h]
theorem DRow.lt {w : World} {dp rb K : Nat} (h : DRow w dp rb K) : dp < w.heap.size := (Array.getElem?_eq_some_iff.1 h).1
theorem DRow.kept {X : Nat → Prop} {w w' : World} {dp rb K : Nat} (h : DRow w dp rb K) (hk : KeptOff X w w') (hn : ¬ X dp) : DRow w' dp rb K := (hk.block dp h.lt hn).trans h

/-- The program's Pend (kind K) holds T, the document's (kind K') D; the blocks of X are another's. -/
def Mixed (w : World) (pb dp rb K K' n : Nat) (X : Nat → Prop) (T D : List M) (wr : World) : Prop :=
  ∃ S a cap, PAt wr pb K n S T ∧ DocAt wr rb a cap D ∧ PlainA a cap ∧ (∀ g, S g → w.heap.size ≤ g ∧ g ≠ rb ∧ g ≠ dp ∧ ¬ X g) ∧
    (D.length = 0 ∨ ∃ b off, a = some ⟨b, off, none⟩ ∧ dp < b ∧ b < wr.heap.size ∧ ¬ S b ∧ ¬ X b) ∧ Below w.heap.size w wr ∧ w.heap.size ≤ rb ∧ rb < dp ∧ DRow wr dp rb K' ∧ ∀ k, X k → dp < k ∧ k < wr.heap.size
section
variable {w wr w' : World} {pb dp rb K K' n n' : Nat} {X X' : Nat → Prop} {T T' D D' : List M}
theorem Mixed.below (h : Mixed w pb dp rb K K' n X T D wr) (hb : Below wr.heap.size wr w') : Mixed w pb dp rb K K' n X T D w' := by
  obtain ⟨S, a, cap, h1, h2, h3, h4, h5, h6, h7, h9, h10, h8⟩ := h
  exact ⟨S, a, cap, h1.below hb, h2.below hb, h3, h4, h5.imp id (fun ⟨b, off, e, x1, x2, x3⟩ => ⟨b, off, e, x1, Nat.lt_of_lt_of_le x2 hb.size, x3⟩), h6.trans (hb.mono h6.size), h7, h9, h10.kept (X := fun _ => False) (.of_below hb) (fun e => e),
    fun k hk => ⟨(h8 k hk).1, Nat.lt_of_lt_of_le (h8 k hk).2 hb.size⟩⟩
theorem Mixed.mono (h : Mixed w pb dp rb K K' n X T D wr) (hn : n ≤ n') : Mixed w pb dp rb K K' n' X T D wr := by
  obtain ⟨S, a, cap, h1, h2⟩ := h
  exact ⟨S, a, cap, h1.mono hn, h2⟩
theorem Mixed.row (h : Mixed w pb dp rb K K' n X T D wr) : DRow wr dp rb K' := by
  obtain ⟨S, a, cap, h1, h2, h3, h4, h5, h6, h7, h9, h10, h8⟩ := h
  exact h10
theorem Mixed.b (h : Mixed w pb dp rb K K' n X T D wr) : Below w.heap.size w wr := by
  obtain ⟨S, a, cap, h1, h2, h3, h4, h5, h6, h7, h9, h10, h8⟩ := h
  exact h6
theorem Mixed.pend (h : Mixed w pb dp rb K K' n X T D wr) : ∃ S, PAt wr pb K n S T := by
  obtain ⟨S, a, cap, h1, _⟩ := h
  exact ⟨S, h1⟩
/-- New blocks are another's. -/
theorem Mixed.others (h : Mixed w pb dp rb K K' n X T D wr) (hb : Below wr.heap.size wr w') (hX : ∀ k, X' k → wr.heap.size ≤ k ∧ k < w'.heap.size) : Mixed w pb dp rb K K' n X' T D w' := by
  have hrl := h.row.lt
  obtain ⟨S, a, cap, h1, h2, h3, h4, h5, h6, h7, h9, h10, h8⟩ := h
  have hs := hb.size
  exact ⟨S, a, cap, h1.below hb, h2.below hb, h3, fun g hg => ⟨(h4 g hg).1, (h4 g hg).2.1, (h4 g hg).2.2.1, fun e => by have := (hX g e).1; have := h1.lt hg; omega⟩,
    h5.imp id (fun ⟨b, off, e, x1, x2, x3, x4⟩ => ⟨b, off, e, x1, by omega, x3, fun e2 => by have := (hX b e2).1; omega⟩), h6.trans (hb.mono h6.size), h7, h9, h10.kept (X := fun _ => False) (.of_below hb) (fun e => e), fun k hk => ⟨by have := (hX k hk).1; omega, (hX k hk).2⟩⟩
theorem Mixed.drop (h : Mixed w pb dp rb K K' n X T D wr) : Mixed w pb dp rb K K' n (fun _ => False) T D wr := h.others (Below.refl _ _) (fun k hk => hk.elim)
theorem Mixed.order (h : Mixed w pb dp rb K K' n X T D wr) : InOrder ltM T ∧ Unlike T ∧ T.length ≤ 16384 := by
  obtain ⟨S, a, cap, h1, _⟩ := h
  exact ⟨h1.o, h1.u, h1.small⟩
/-- What another writes. -/
theorem Mixed.write (h : Mixed w pb dp rb K K' n X T D wr) (hk : KeptOff X wr w') : Mixed w pb dp rb K K' n X T D w' := by
  obtain ⟨S, a, cap, h1, h2, h3, h4, h5, h6, h7, h9, h10, h8⟩ := h
  have hs := hk.size
  refine ⟨S, a, cap, h1.kept hk (fun k hh e => (h4 k hh).2.2.2 e), ⟨(hk.block rb h2.lt (fun e => by have := (h8 _ e).1; omega)).trans h2.1, h2.2.kept hk ?_⟩, h3,
    h4, h5.imp id (fun ⟨b, off, e, x1, x2, x3⟩ => ⟨b, off, e, x1, by omega, x3⟩), h6.trans (hk.below (fun k _ e => by have := (h8 k e).1; omega) h6.size), h7, h9, h10.kept hk (fun e => by have := (h8 _ e).1; omega), fun k hh => ⟨(h8 k hh).1, by have := (h8 k hh).2; omega⟩⟩
  exact h5.imp id (fun ⟨b, off, e, x1, x2, x3, x4⟩ => ⟨b, off, e, x4⟩)
/-- A call on the program's Pend. -/
theorem Mixed.q {K2 : Nat} (h : Mixed w pb dp rb K K' n X T D wr) {f : FuncId} {args : Array Value} {r : Value}
    (hc : ∀ S, PAt wr pb K n S T → Calls Tryz.prog f args wr fun e w1 => e = .returned r ∧ ∃ S', PAt w1 pb K2 n' S' T' ∧ CStep wr w1 S S') :
    Calls Tryz.prog f args wr fun e w1 => e = .returned r ∧ Hid (Mixed w pb dp rb K2 K' n' X T' D w1 ∧ KeptOff (fun k => ¬ X k) wr w1) := by
  have hrl := h.row.lt
  obtain ⟨S, a, cap, h1, h2, h3, h4, h5, h6, h7, h9, h10, h8⟩ := h
  refine (hc S h1).mono ?_
  rintro e w1 ⟨he, S', hq', hst, hrf⟩
  have hsz := hst.size
  have hdoc : DocAt w1 rb a cap D := by
    refine ⟨(hst.block rb h2.lt (fun e => (h4 rb e).2.1 rfl)).trans h2.1, h2.2.kept hst ?_⟩
    rcases h5 with h0 | ⟨b, off, e, x1, x2, x3, _⟩
    · exact .inl h0
    · exact .inr ⟨b, off, e, x3⟩
  have hws := h6.size
  refine ⟨he, ⟨S', a, cap, hq', hdoc, h3, ?_, ?_, h6.trans (hst.below (fun k _ e => (h4 k e).1) h6.size), h7, h9, h10.kept hst (fun e => (h4 dp e).2.2.1 rfl), fun k hk => ⟨(h8 k hk).1, by have := (h8 k hk).2; omega⟩⟩, hst.mono (fun k _ e => (h4 k e).2.2.2)⟩
  · intro g hg
    rcases hrf g hg with e | e
    · exact h4 g e
    · exact ⟨by omega, by omega, by omega, fun e2 => by have := (h8 g e2).2; omega⟩
  · rcases h5 with h0 | ⟨b, off, e, x1, x2, x3, x4⟩
    · exact .inl h0
    · refine .inr ⟨b, off, e, x1, by omega, fun e2 => ?_, x4⟩
      rcases hrf b e2 with e | e
      · exact x3 e
      · omega
/-- A call on the document's queue. -/
theorem Mixed.d (h : Mixed w pb dp rb K K' n X T D wr) {f : FuncId} {args : Array Value} {r : Value}
    (hc : ∀ a cap, DocAt wr rb a cap D → PlainA a cap → (∀ b off, a = some ⟨b, off, none⟩ → D.length = 0 ∨ rb < b) → Calls Tryz.prog f args wr fun e w1 => e = .returned r ∧ ∃ a' cap', DocAt w1 rb a' cap' D' ∧ KeptOff (fun k => k = rb) wr w1 ∧ PlainA a' cap' ∧
      (D'.length = 0 ∨ (D.length ≠ 0 ∧ ∃ b off off', a = some ⟨b, off, none⟩ ∧ a' = some ⟨b, off', none⟩) ∨ ∃ g, a' = some ⟨g, 0, none⟩ ∧ wr.heap.size ≤ g)) :
    Calls Tryz.prog f args wr fun e w1 => e = .returned r ∧ Hid (Mixed w pb dp rb K K' n X T D' w1 ∧ KeptOff (fun k => ¬ X k) wr w1) := by
  have hrl := h.row.lt
  obtain ⟨S, a, cap, h1, h2, h3, h4, h5, h6, h7, h9, h10, h8⟩ := h
  refine (hc a cap h2 h3 ?_).mono ?_
  · intro b off e
    rcases h5 with h0 | ⟨b1, o1, e1, x1, _⟩
    · exact .inl h0
    · rw [e1] at e
      cases e
      exact .inr (by omega)
  · rintro e w1 ⟨he, a', cap', hd, hk, hp, hr⟩
    have hsz := hk.size
    refine ⟨he, ⟨S, a', cap', h1.kept hk (fun k hk e => (h4 k hk).2.1 e), hd, hp, h4, ?_, h6.trans (hk.below (fun k _ e => by omega) h6.size), h7, h9, h10.kept hk (fun e => by omega), fun k hk => ⟨(h8 k hk).1, by have := (h8 k hk).2; omega⟩⟩,
      hk.mono (fun k _ e hX => by have := (h8 k hX).1; omega)⟩
    rcases hr with h0 | ⟨hD, b, off, off', e1, e2⟩ | ⟨g, e1, hg⟩
    · exact .inl h0
    · rcases h5 with h0 | ⟨b1, o1, e3, x1, x2, x3, x4⟩
      · exact absurd h0 hD
      · rw [e3] at e1
        cases e1
        exact .inr ⟨b, off', e2, x1, by omega, x3, x4⟩
    · by_cases h0 : D'.length = 0
      · exact .inl h0
      · rcases hd.2.2.2.2.2 with h1' | ⟨b2, o2, e2, hm⟩
        · exact .inl h1'
        · rw [e1] at e2
          cases e2
          exact .inr ⟨g, 0, e1, by omega, (hm 0 (by omega)).1, fun e => by have := h1.lt e; omega, fun e => by have := (h8 g e).2; omega⟩
/-- The document's Turn: its second cell. -/
theorem Mixed.turned {K2 : Nat} (h : Mixed w pb dp rb K K' n X T D wr) : wr.cell? ⟨dp, 1, none⟩ = some (.int .i64 K') ∧ wr.frozen? ⟨dp, 1, none⟩ = false ∧ Mixed w pb dp rb K K2 n X T D (wr.setCell ⟨dp, 1, none⟩ (.int .i64 K2)) ∧ KeptOff (fun k => ¬ X k) wr (wr.setCell ⟨dp, 1, none⟩ (.int .i64 K2)) := by
  have hrow := h.row
  obtain ⟨S, a, cap, h1, h2, h3, h4, h5, h6, h7, h9, h10, h8⟩ := h
  have hk : KeptOff (fun k => k = dp) wr (wr.setCell ⟨dp, 1, none⟩ (.int .i64 K2)) := KeptOff.set wr ⟨dp, 1, none⟩ (.int .i64 K2)
  have hsz := hk.size
  have hlt := hrow.lt
  refine ⟨hrow.c1, hrow.fz, ⟨S, a, cap, h1.kept hk (fun k hh e => (h4 k hh).2.2.1 e), ⟨(hk.block rb h2.lt (fun e => by omega)).trans h2.1, h2.2.kept hk ?_⟩, h3, h4, h5.imp id (fun ⟨b, off, e, x1, x2, x3⟩ => ⟨b, off, e, x1, by omega, x3⟩), h6.trans (hk.below (fun k _ e => by omega) h6.size), h7, h9, ?_, fun k hh => ⟨(h8 k hh).1, by have := (h8 k hh).2; omega⟩⟩,
    hk.mono (fun k _ e hX => by have := (h8 k hX).1; omega)⟩
  · exact h5.imp id (fun ⟨b, off, e, x1, x2, x3, x4⟩ => ⟨b, off, e, fun e2 => by omega⟩)
  · unfold DRow at hrow ⊢
    simp [World.setCell, Array.getElem?_modify, hrow]
end

/-! The calls, on both sides. -/
theorem stay_d {wr w1 : World} {rb cap : Nat} {a : Option Addr} {D : List M} (h : DocAt wr rb a cap D) (hp : PlainA a cap) (hb' : Below wr.heap.size wr w1) : ∃ a' cap', DocAt w1 rb a' cap' D ∧ KeptOff (fun k => k = rb) wr w1 ∧ PlainA a' cap' ∧
      (D.length = 0 ∨ (D.length ≠ 0 ∧ ∃ b off off', a = some ⟨b, off, none⟩ ∧ a' = some ⟨b, off', none⟩) ∨ ∃ g, a' = some ⟨g, 0, none⟩ ∧ wr.heap.size ≤ g) := by
  refine ⟨a, cap, h.below hb', .of_below hb', hp, ?_⟩
  by_cases h0 : D.length = 0
  · exact .inl h0
  · rcases h.2.2.2.2.2 with h1 | ⟨b, off, e, _⟩
    · exact .inl h1
    · exact .inr (.inl ⟨h0, b, off, off, e, e⟩)
section
variable {w wr : World} {pb dp rb K K' n : Nat} {X : Nat → Prop} {T D : List M}
theorem Mixed.pushQ (h : Mixed w pb dp rb K K' n X T D wr) (m : M) (hm : m.fits) (hn : n < maxLen) :
    Calls Tryz.prog 13 #[.pointer (some ⟨pb, 0, none⟩), m.val] wr fun e w1 => e = .returned (.int .i64 (pushC T m)) ∧ Hid (Mixed w pb dp rb K K' (n + 1) X (pushT T m) D w1 ∧ KeptOff (fun k => ¬ X k) wr w1) :=
  h.q fun v hq => (pdPush_any hq m hm hn).mono fun e w1 hh => hh
theorem Mixed.pushD (h : Mixed w pb dp rb K K' n X T D wr) (m : M) (hm : m.fits) (hO : InOrder ltM D) (hl : D.length ≤ 16384) :
    Calls Tryz.prog 19 #[.pointer (some ⟨rb, 0, none⟩), m.val] wr fun e w1 => e = .returned (.int .i64 (pushC D m)) ∧ Hid (Mixed w pb dp rb K K' n X T (pushT D m) w1 ∧ KeptOff (fun k => ¬ X k) wr w1) :=
  h.d fun a cap hd hp _ => (rPush_any hd hp hO hm hl).mono fun e w1 ⟨he, a', cap', h1, h2, h3, h4⟩ => ⟨he, a', cap', h1, h2, h3, by
    by_cases h0 : (pushT D m).length = 0
    · exact .inl h0
    · rcases h4 with ⟨hs, rfl⟩ | h4
      · rw [hs] at h0
        rcases hd.2.2.2.2.2 with h1' | ⟨b, off, e, _⟩
        · exact absurd h1' h0
        · exact .inr (.inl ⟨h0, b, off, off, e, e⟩)
      · exact .inr (.inr h4)⟩
theorem Mixed.firstQ (h : Mixed w pb dp rb K K' n X T D wr) :
    Calls Tryz.prog 20 #[.pointer (some ⟨pb, 0, none⟩)] wr fun e w1 => e = .returned (.tuple #[(T.headD zeroM).val, .int .i64 (if T = [] then 6 else 0)]) ∧ Hid (Mixed w pb dp rb K K' n X T D w1 ∧ KeptOff (fun k => ¬ X k) wr w1) :=
  h.q fun v hq => pdFirst_any hq
theorem Mixed.firstD (h : Mixed w pb dp rb K K' n X T D wr) :
    Calls Tryz.prog 21 #[.pointer (some ⟨rb, 0, none⟩)] wr fun e w1 => e = .returned (.tuple #[(D.headD zeroM).val, .int .i64 (if D = [] then 6 else 0)]) ∧ Hid (Mixed w pb dp rb K K' n X T D w1 ∧ KeptOff (fun k => ¬ X k) wr w1) := by
  cases D with
  | nil => exact h.d fun a cap hd hp _ => (rFirst_none hd).mono fun e w1 hh => ⟨hh.1, stay_d hd hp hh.2⟩
  | cons m D => exact h.d fun a cap hd hp _ => (rFirst_some hd).mono fun e w1 hh => ⟨hh.1, stay_d hd hp hh.2⟩
theorem Mixed.popQ (h : Mixed w pb dp rb K K' n X T D wr) :
    Calls Tryz.prog 15 #[.pointer (some ⟨pb, 0, none⟩)] wr fun e w1 => e = .returned (.tuple #[(T.headD zeroM).val, .int .i64 (if T = [] then 6 else 0)]) ∧ Hid (Mixed w pb dp rb K K' n X T.tail D w1 ∧ KeptOff (fun k => ¬ X k) wr w1) :=
  h.q fun v hq => pdPop_any hq
theorem Mixed.popD (h : Mixed w pb dp rb K K' n X T D wr) :
    Calls Tryz.prog 22 #[.pointer (some ⟨rb, 0, none⟩)] wr fun e w1 => e = .returned (.tuple #[(D.headD zeroM).val, .int .i64 (if D = [] then 6 else 0)]) ∧ Hid (Mixed w pb dp rb K K' n X T D.tail w1 ∧ KeptOff (fun k => ¬ X k) wr w1) := by
  cases D with
  | nil => exact h.d fun a cap hd hp _ => (rPop_none hd).mono fun e w1 hh => ⟨hh.1, stay_d hd hp hh.2⟩
  | cons m D =>
    refine h.d fun a cap hd hp hr => (rPop_some hd (fun b off e => ?_)).mono fun e w1 ⟨he, a', cap', h1, h2, h3⟩ => ⟨he, a', cap', h1, h2, ?_, ?_⟩
    · rcases hr b off e with h0 | h0
      · simp at h0
      · omega
    · obtain ⟨b, off, off', e1, e2⟩ := h3
      exact .inr ⟨b, off', e2⟩
    · obtain ⟨b, off, off', e1, e2⟩ := h3
      exact .inr (.inl ⟨by simp, b, off, off', e1, e2⟩)
theorem Mixed.cut (h : Mixed w pb dp rb K K' n X T T wr) (f u : Int) (hf : (Lit.int .i64 f).wf = true) (hu : (Lit.int .i64 u).wf = true) :
    ∃ (x : M) (c : Int) (T' : List M), (Calls Tryz.prog 23 #[.pointer (some ⟨pb, 0, none⟩), .int .i64 f, .int .i64 u] wr fun e w1 => e = .returned (.tuple #[x.val, .int .i64 c]) ∧ Hid (Mixed w pb dp rb K K' n X T' T w1 ∧ KeptOff (fun k => ¬ X k) wr w1)) ∧
      ∀ w5, Mixed w pb dp rb K K' n X T' T w5 → Calls Tryz.prog 24 #[.pointer (some ⟨rb, 0, none⟩), .int .i64 f, .int .i64 u] w5 fun e w1 => e = .returned (.tuple #[x.val, .int .i64 c]) ∧ Hid (Mixed w pb dp rb K K' n X T' T' w1 ∧ KeptOff (fun k => ¬ X k) w5 w1) := by
  obtain ⟨hO, hU, hl⟩ := h.order
  by_cases hs : hasS T f u = true
  · obtain ⟨m, hm, hmf, hmu⟩ := hasS_iff.1 hs
    obtain ⟨k, hk, rfl⟩ := List.getElem_of_mem hm
    have hpm : (T[k] :: T.eraseIdx k).Perm T := erase_perm hk
    have hOe : InOrder ltM (T.eraseIdx k) := List.Pairwise.sublist (List.eraseIdx_sublist T k) hO
    refine ⟨T[k], 0, T.eraseIdx k, h.q fun v hq => ?_, fun w5 h5 => h5.d fun a cap hd hp hr => ?_⟩
    · have hcc := pdCut_some hq hpm hOe
      rw [hmf, hmu] at hcc
      exact hcc
    · rcases hp with ⟨rfl, rfl⟩ | ⟨b, off, rfl⟩
      · have := hd.2.2.1
        omega
      · refine (rCut_some hd hU f u k hk hmf hmu hl).mono ?_
        rintro e w1 ⟨he, a', cap', q1, q2, q3, q4⟩
        refine ⟨he, a', cap', q1, q2, q3, ?_⟩
        rcases q4 with q4 | ⟨g, e1, hg⟩
        · exact .inl q4
        · exact .inr (.inr ⟨g, e1, by omega⟩)
  · have hs' : hasS T f u = false := by simpa using hs
    exact ⟨zeroM, 6, T, h.q fun v hq => pdCut_none hq hf hu hs', fun w5 h5 => h5.d fun a cap hd hp _ => (rCut_none hd f u hs').mono fun e w1 hh => ⟨hh.1, stay_d hd hp hh.2⟩⟩
end
end Go.Proofs.YtjlbkdghlijoeaaGreat
namespace Go.Proofs.YtjlbkdghlijoeaaGreat
open Go.ChangeShapes Go.WideShapes Go.ChangeAt Go.Shelf Go.RowKit Go.Lib Go.Sort Go.Deep Go.Maps
set_option linter.unusedVariables false

/-- A box that holds a call. -/
def BoxO (w : World) (B : Nat) (what nn : Int) (m : M) : Prop := w.heap[B]? = some (.cells #[.int .i64 what, .int .i64 nn, .int .i64 m.k.t, .int .i64 m.k.f, .int .i64 m.k.s, .int .i64 m.to, .int .i64 m.v, .int .i64 m.u, .bool m.anti] 36)
def OpAt (w : World) (B : Nat) (what nn : Int) (m : M) : Prop := w.cell? ⟨B, 0, none⟩ = some (.int .i64 what) ∧ w.cell? ⟨B, 1, none⟩ = some (.int .i64 nn) ∧ w.cell? ⟨B, 2, none⟩ = some (.int .i64 m.k.t) ∧ w.cell? ⟨B, 3, none⟩ = some (.int .i64 m.k.f) ∧ w.cell? ⟨B, 4, none⟩ = some (.int .i64 m.k.s) ∧ w.cell? ⟨B, 5, none⟩ = some (.int .i64 m.to) ∧ w.cell? ⟨B, 6, none⟩ = some (.int .i64 m.v) ∧ w.cell? ⟨B, 7, none⟩ = some (.int .i64 m.u) ∧ w.cell? ⟨B, 8, none⟩ = some (.bool m.anti)
theorem BoxO.at {w : World} {B : Nat} {what nn : Int} {m : M} (h : BoxO w B what nn m) : OpAt w B what nn m :=
  ⟨cell_of_block (o := 0) h rfl, cell_of_block (o := 1) h rfl, cell_of_block (o := 2) h rfl, cell_of_block (o := 3) h rfl, cell_of_block (o := 4) h rfl, cell_of_block (o := 5) h rfl, cell_of_block (o := 6) h rfl, cell_of_block (o := 7) h rfl, cell_of_block (o := 8) h rfl⟩
theorem BoxO.kept {S : Nat → Prop} {w w' : World} {B : Nat} {what nn : Int} {m : M} (h : BoxO w B what nn m) (hk : KeptOff S w w') (hn : ¬ S B) : BoxO w' B what nn m := (hk.block B (Array.getElem?_eq_some_iff.1 h).1 hn).trans h

/-- The world with the three boxes of a play. -/
def playW (wr : World) (what nn : Int) (m : M) : World := ((wr.alloc (.cells #[.int .i64 what, .int .i64 nn, .int .i64 m.k.t, .int .i64 m.k.f, .int .i64 m.k.s, .int .i64 m.to, .int .i64 m.v, .int .i64 m.u, .bool m.anti] 36)).alloc (.cells #[.int .i64 0, .int .i64 0, .int .i64 0, .int .i64 0, .int .i64 0, .int .i64 0, .bool false] 34)).alloc (.cells #[.int .i64 0, .int .i64 0, .int .i64 0, .int .i64 0, .int .i64 0, .int .i64 0, .bool false] 34)
theorem playW_below (wr : World) (what nn : Int) (m : M) : Below wr.heap.size wr (playW wr what nn m) := (((Below.refl _ wr).alloc (Nat.le_refl _) _).alloc (by simp) _).alloc (by simp; omega) _
theorem playW_size (wr : World) (what nn : Int) (m : M) : (playW wr what nn m).heap.size = wr.heap.size + 3 := by simp [playW]
theorem playW_op (wr : World) (what nn : Int) (m : M) : BoxO (playW wr what nn m) wr.heap.size what nn m := by
  have h : BoxO (wr.alloc (.cells #[.int .i64 what, .int .i64 nn, .int .i64 m.k.t, .int .i64 m.k.f, .int .i64 m.k.s, .int .i64 m.to, .int .i64 m.v, .int .i64 m.u, .bool m.anti] 36)) wr.heap.size what nn m := heap_alloc_new wr _
  exact (h.kept (S := fun _ => False) (.of_below ((Below.refl _ _).alloc (Nat.le_refl _) _)) (fun e => e)).kept (S := fun _ => False) (.of_below ((Below.refl _ _).alloc (Nat.le_refl _) _)) (fun e => e)
theorem playW_a (wr : World) (what nn : Int) (m : M) : BoxM (playW wr what nn m) (wr.heap.size + 1) zeroM := by
  have h := BoxM.mk (wr.alloc (.cells #[.int .i64 what, .int .i64 nn, .int .i64 m.k.t, .int .i64 m.k.f, .int .i64 m.k.s, .int .i64 m.to, .int .i64 m.v, .int .i64 m.u, .bool m.anti] 36)) zeroM
  have e : (wr.alloc (.cells #[.int .i64 what, .int .i64 nn, .int .i64 m.k.t, .int .i64 m.k.f, .int .i64 m.k.s, .int .i64 m.to, .int .i64 m.v, .int .i64 m.u, .bool m.anti] 36)).heap.size = wr.heap.size + 1 := by simp
  rw [e] at h
  exact h.kept (S := fun _ => False) (.of_below ((Below.refl _ _).alloc (Nat.le_refl _) _)) (fun e => e)
theorem playW_b (wr : World) (what nn : Int) (m : M) : BoxM (playW wr what nn m) (wr.heap.size + 1 + 1) zeroM := by
  have h := BoxM.mk ((wr.alloc (.cells #[.int .i64 what, .int .i64 nn, .int .i64 m.k.t, .int .i64 m.k.f, .int .i64 m.k.s, .int .i64 m.to, .int .i64 m.v, .int .i64 m.u, .bool m.anti] 36)).alloc (.cells zeroM.cells 34)) zeroM
  have e : ((wr.alloc (.cells #[.int .i64 what, .int .i64 nn, .int .i64 m.k.t, .int .i64 m.k.f, .int .i64 m.k.s, .int .i64 m.to, .int .i64 m.v, .int .i64 m.u, .bool m.anti] 36)).alloc (.cells zeroM.cells 34)).heap.size = wr.heap.size + 1 + 1 := by simp
  rw [e] at h
  exact h

set_option maxHeartbeats 4000000 in
set_option maxRecDepth 100000 in
theorem play_push {w wr : World} {pb dp rb K n : Nat} {T : List M} (h : Mixed w pb dp rb K K n (fun _ => False) T T wr) (nn : Int) (m : M) (hm : m.fits) (hn : n < maxLen) :
    Calls Tryz.prog 7 #[.pointer (some ⟨pb, 0, none⟩), .pointer (some ⟨dp, 0, none⟩), .agg #[.int .i64 0, .int .i64 nn, .int .i64 m.k.t, .int .i64 m.k.f, .int .i64 m.k.s, .int .i64 m.to, .int .i64 m.v, .int .i64 m.u, .bool m.anti]] wr fun e w' => e = .returned (.bool true) ∧ Hid (∃ K' T', Mixed w pb dp rb K' K' (n + 1) (fun _ => False) T' T' w') := by
  have mixed := mixed
  have hmx := h.others (X' := fun k => wr.heap.size ≤ k ∧ k < wr.heap.size + 3) (playW_below wr 0 nn m) (fun k hk => ⟨hk.1, by rw [playW_size]; exact hk.2⟩)
  have hO := h.order
  have hpw : Hid (playW wr 0 nn m = ((wr.alloc (.cells #[.int .i64 0, .int .i64 nn, .int .i64 m.k.t, .int .i64 m.k.f, .int .i64 m.k.s, .int .i64 m.to, .int .i64 m.v, .int .i64 m.u, .bool m.anti] 36)).alloc (.cells #[.int .i64 0, .int .i64 0, .int .i64 0, .int .i64 0, .int .i64 0, .int .i64 0, .bool false] 34)).alloc (.cells #[.int .i64 0, .int .i64 0, .int .i64 0, .int .i64 0, .int .i64 0, .int .i64 0, .bool false] 34)) := rfl
  have hop := Lib.hid (playW_op wr 0 nn m)
  generalize playW wr 0 nn m = W3 at hmx hpw hop
  have hq := (hmx.below (Below.refl _ W3).drew).pushQ m hm hn
  have hd : Hid (∀ w5, Mixed w pb dp rb K K (n + 1) (fun k => wr.heap.size ≤ k ∧ k < wr.heap.size + 3) (pushT T m) T w5 → Calls Tryz.prog 19 #[.pointer (some ⟨rb, 0, none⟩), m.val] w5 fun e w6 => e = .returned (.int .i64 (pushC T m)) ∧ Hid (∃ K' T', Mixed w pb dp rb K' K' (n + 1) (fun _ => False) T' T' w6)) := fun w5 h5 =>
    (h5.pushD m hm hO.1 hO.2.2).mono fun e w6 hh => ⟨hh.1, K, pushT T m, hh.2.out.1.drop⟩
  have hop5 : Hid (∀ w5, KeptOff (fun k => ¬ (wr.heap.size ≤ k ∧ k < wr.heap.size + 3)) W3.drew w5 → OpAt w5 wr.heap.size 0 nn m) := fun w5 hk => ((hop.out.kept (S := fun _ => False) (.of_below (Below.refl _ W3).drew) (fun e => e)).kept hk (fun e => e ⟨Nat.le_refl _, by omega⟩)).at
  obtain ⟨y0, yn, y1, y2, y3, y4, y5, y6, y7⟩ := hop.out.at
  have yd := (hmx.below (Below.refl _ W3).drew).row.c0
  simp only [M.val] at hq hd
  generalize pushC T m = c at hq hd
  have hq' := Lib.hid hq
  clear h hmx hO hop hq
  go_enter Tryz.func7, Tryz.ntmps7
  go_upto_region 5 with (fail)
  rw [← hpw.out]
  go_upto_region 8 with (fail)
  go_region_with (first
    | (go_at_call 13; (with_reducible refine hq'.out.mono ?_); rintro e w5 ⟨rfl, h5⟩; have h5x := hop5.out w5 h5.out.2; obtain ⟨-, -, z1, z2, z3, z4, z5, z6, z7⟩ := h5x; have zd := h5.out.1.row.c0; have hd5 := hd.out w5 h5.out.1)
    | (go_at_call 19; (with_reducible refine hd5.mono ?_); rintro e w6 ⟨rfl, h6⟩))
  all_goals
    go_wp2
    go_ret
    exact ⟨rfl, h6⟩

set_option maxHeartbeats 4000000 in
set_option maxRecDepth 100000 in
theorem play_first {w wr : World} {pb dp rb K n : Nat} {T : List M} (h : Mixed w pb dp rb K K n (fun _ => False) T T wr) (nn : Int) (m : M) :
    Calls Tryz.prog 7 #[.pointer (some ⟨pb, 0, none⟩), .pointer (some ⟨dp, 0, none⟩), .agg #[.int .i64 1, .int .i64 nn, .int .i64 m.k.t, .int .i64 m.k.f, .int .i64 m.k.s, .int .i64 m.to, .int .i64 m.v, .int .i64 m.u, .bool m.anti]] wr fun e w' => e = .returned (.bool true) ∧ Hid (∃ K' T', Mixed w pb dp rb K' K' (n + 1) (fun _ => False) T' T' w') := by
  have mixed := mixed
  have hmx := h.others (X' := fun k => wr.heap.size ≤ k ∧ k < wr.heap.size + 3) (playW_below wr 1 nn m) (fun k hk => ⟨hk.1, by rw [playW_size]; exact hk.2⟩)
  have hpw : Hid (playW wr 1 nn m = ((wr.alloc (.cells #[.int .i64 1, .int .i64 nn, .int .i64 m.k.t, .int .i64 m.k.f, .int .i64 m.k.s, .int .i64 m.to, .int .i64 m.v, .int .i64 m.u, .bool m.anti] 36)).alloc (.cells #[.int .i64 0, .int .i64 0, .int .i64 0, .int .i64 0, .int .i64 0, .int .i64 0, .bool false] 34)).alloc (.cells #[.int .i64 0, .int .i64 0, .int .i64 0, .int .i64 0, .int .i64 0, .int .i64 0, .bool false] 34)) := rfl
  have hop := Lib.hid (playW_op wr 1 nn m)
  have hba := Lib.hid (playW_a wr 1 nn m)
  have hbb := Lib.hid (playW_b wr 1 nn m)
  generalize playW wr 1 nn m = W3 at hmx hpw hop hba hbb
  have hq := hmx.firstQ
  have hd := fun w5 (h5 : Mixed w pb dp rb K K n (fun k => wr.heap.size ≤ k ∧ k < wr.heap.size + 3) T T w5) => h5.firstD
  obtain ⟨y0, yn, y1, y2, y3, y4, y5, y6, y7⟩ := hop.out.at
  generalize T.headD zeroM = x at hq hd
  generalize (if T = [] then 6 else 0 : Int) = c at hq hd
  have h6 : Hid (∀ w5, Mixed w pb dp rb K K n (fun k => wr.heap.size ≤ k ∧ k < wr.heap.size + 3) T T w5 ∧ KeptOff (fun k => ¬ (wr.heap.size ≤ k ∧ k < wr.heap.size + 3)) W3 w5 → BoxM w5 (wr.heap.size + 1) zeroM ∧ Mixed w pb dp rb K K n (fun k => wr.heap.size ≤ k ∧ k < wr.heap.size + 3) T T (w5.setRow (wr.heap.size + 1) x.cells) ∧ BoxM (w5.setRow (wr.heap.size + 1) x.cells) (wr.heap.size + 1) x ∧ BoxM (w5.setRow (wr.heap.size + 1) x.cells) (wr.heap.size + 1 + 1) zeroM) := by
    rintro w5 ⟨h1, h2⟩
    have hk := KeptOff.row w5 (wr.heap.size + 1) x.cells
    have ha := hba.out.kept h2 (fun e => e ⟨by omega, by omega⟩)
    exact ⟨ha, h1.write (hk.mono (fun k _ e => ⟨by omega, by omega⟩)), ha.row x, (hbb.out.kept h2 (fun e => e ⟨by omega, by omega⟩)).kept hk (by omega)⟩
  have h8 : Hid (∀ W6 w7, BoxM W6 (wr.heap.size + 1) x → BoxM W6 (wr.heap.size + 1 + 1) zeroM → Mixed w pb dp rb K K n (fun k => wr.heap.size ≤ k ∧ k < wr.heap.size + 3) T T w7 ∧ KeptOff (fun k => ¬ (wr.heap.size ≤ k ∧ k < wr.heap.size + 3)) W6 w7 → BoxM w7 (wr.heap.size + 1 + 1) zeroM ∧ (∃ K' T', Mixed w pb dp rb K' K' (n + 1) (fun _ => False) T' T' (w7.setRow (wr.heap.size + 1 + 1) x.cells)) ∧ BoxM (w7.setRow (wr.heap.size + 1 + 1) x.cells) (wr.heap.size + 1) x ∧ BoxM (w7.setRow (wr.heap.size + 1 + 1) x.cells) (wr.heap.size + 1 + 1) x) := by
    rintro W6 w7 b1 b2 ⟨h1, h2⟩
    have hk := KeptOff.row w7 (wr.heap.size + 1 + 1) x.cells
    have hb := b2.kept h2 (fun e => e ⟨by omega, by omega⟩)
    exact ⟨hb, ⟨K, _, (h1.write (hk.mono (fun k _ e => ⟨by omega, by omega⟩))).drop.mono (Nat.le_succ n)⟩, (b1.kept h2 (fun e => e ⟨by omega, by omega⟩)).kept hk (by omega), hb.row x⟩
  have heq := fun w => eqlM x x w
  simp only [decide_true, M.val] at heq hq hd
  have hq' := Lib.hid hq
  have hd' := Lib.hid hd
  clear h hmx hop hq hd hba hbb
  go_enter Tryz.func7, Tryz.ntmps7
  go_upto_region 5 with (fail)
  rw [← hpw.out]
  go_upto_region 11 with (first
    | (go_at_call 20; refine hq'.out.mono ?_; rintro e w5 ⟨rfl, h5⟩; have h6x := h6.out w5 h5.out; have h6' := Lib.hid h6x; clear h6x h5)
    | (refine wpList_store_row rfl 34 (.tmp 7) (.tmp 43) rfl (wr.heap.size + 1) x.cells rfl rfl 34 zeroM.cells h6'.out.1 infoS rfl (M.cells_one x) ?_))
  have hM6 := h6'.out.2
  clear h6' h6 hq' y0 yn y1 y2 y3 y4 y5 y6 y7
  generalize w5.setRow (wr.heap.size + 1) x.cells = W6 at hM6 ⊢
  have hd6 := hd'.out W6 hM6.1
  have yd := hM6.1.row.c0
  have hM6' := Lib.hid hM6
  clear hM6 hd'
  go_upto_region 18 with (first
    | (go_at_call 21; refine hd6.mono ?_; rintro e w7 ⟨rfl, h7⟩; have h8x := h8.out W6 w7 hM6'.out.2.1 hM6'.out.2.2 h7.out; have h8' := Lib.hid h8x; clear h8x h7)
    | (refine wpList_store_row rfl 34 (.tmp 8) (.tmp 51) rfl (wr.heap.size + 1 + 1) x.cells rfl rfl 34 zeroM.cells h8'.out.1 infoS rfl (M.cells_one x) ?_))
  have hM8 := h8'.out.2
  clear h8' h8 hd6 hM6'
  generalize w7.setRow (wr.heap.size + 1 + 1) x.cells = W8 at hM8 ⊢
  obtain ⟨hR, ha, hb⟩ := hM8
  obtain ⟨-, y0, y1, y2, y3, y4, y5, y6⟩ := ha.at
  obtain ⟨-, z0, z1, z2, z3, z4, z5, z6⟩ := hb.at
  simp only [Nat.zero_add] at y0 y1 y2 y3 y4 y5 y6 z0 z1 z2 z3 z4 z5 z6
  have hR' := Lib.hid hR
  clear hR ha hb
  go_wp2
  go_ret
  exact ⟨rfl, hR'⟩

set_option maxHeartbeats 4000000 in
set_option maxRecDepth 100000 in
theorem play_pop {w wr : World} {pb dp rb K n : Nat} {T : List M} (h : Mixed w pb dp rb K K n (fun _ => False) T T wr) (nn : Int) (m : M) :
    Calls Tryz.prog 7 #[.pointer (some ⟨pb, 0, none⟩), .pointer (some ⟨dp, 0, none⟩), .agg #[.int .i64 2, .int .i64 nn, .int .i64 m.k.t, .int .i64 m.k.f, .int .i64 m.k.s, .int .i64 m.to, .int .i64 m.v, .int .i64 m.u, .bool m.anti]] wr fun e w' => e = .returned (.bool true) ∧ Hid (∃ K' T', Mixed w pb dp rb K' K' (n + 1) (fun _ => False) T' T' w') := by
  have mixed := mixed
  have hmx := h.others (X' := fun k => wr.heap.size ≤ k ∧ k < wr.heap.size + 3) (playW_below wr 2 nn m) (fun k hk => ⟨hk.1, by rw [playW_size]; exact hk.2⟩)
  have hpw : Hid (playW wr 2 nn m = ((wr.alloc (.cells #[.int .i64 2, .int .i64 nn, .int .i64 m.k.t, .int .i64 m.k.f, .int .i64 m.k.s, .int .i64 m.to, .int .i64 m.v, .int .i64 m.u, .bool m.anti] 36)).alloc (.cells #[.int .i64 0, .int .i64 0, .int .i64 0, .int .i64 0, .int .i64 0, .int .i64 0, .bool false] 34)).alloc (.cells #[.int .i64 0, .int .i64 0, .int .i64 0, .int .i64 0, .int .i64 0, .int .i64 0, .bool false] 34)) := rfl
  have hop := Lib.hid (playW_op wr 2 nn m)
  have hba := Lib.hid (playW_a wr 2 nn m)
  have hbb := Lib.hid (playW_b wr 2 nn m)
  generalize playW wr 2 nn m = W3 at hmx hpw hop hba hbb
  have hq := hmx.popQ
  have hd := fun w5 (h5 : Mixed w pb dp rb K K n (fun k => wr.heap.size ≤ k ∧ k < wr.heap.size + 3) T.tail T w5) => h5.popD
  obtain ⟨y0, yn, y1, y2, y3, y4, y5, y6, y7⟩ := hop.out.at
  generalize T.headD zeroM = x at hq hd
  generalize (if T = [] then 6 else 0 : Int) = c at hq hd
  have h6 : Hid (∀ w5, Mixed w pb dp rb K K n (fun k => wr.heap.size ≤ k ∧ k < wr.heap.size + 3) T.tail T w5 ∧ KeptOff (fun k => ¬ (wr.heap.size ≤ k ∧ k < wr.heap.size + 3)) W3 w5 → BoxM w5 (wr.heap.size + 1) zeroM ∧ Mixed w pb dp rb K K n (fun k => wr.heap.size ≤ k ∧ k < wr.heap.size + 3) T.tail T (w5.setRow (wr.heap.size + 1) x.cells) ∧ BoxM (w5.setRow (wr.heap.size + 1) x.cells) (wr.heap.size + 1) x ∧ BoxM (w5.setRow (wr.heap.size + 1) x.cells) (wr.heap.size + 1 + 1) zeroM) := by
    rintro w5 ⟨h1, h2⟩
    have hk := KeptOff.row w5 (wr.heap.size + 1) x.cells
    have ha := hba.out.kept h2 (fun e => e ⟨by omega, by omega⟩)
    exact ⟨ha, h1.write (hk.mono (fun k _ e => ⟨by omega, by omega⟩)), ha.row x, (hbb.out.kept h2 (fun e => e ⟨by omega, by omega⟩)).kept hk (by omega)⟩
  have h8 : Hid (∀ W6 w7, BoxM W6 (wr.heap.size + 1) x → BoxM W6 (wr.heap.size + 1 + 1) zeroM → Mixed w pb dp rb K K n (fun k => wr.heap.size ≤ k ∧ k < wr.heap.size + 3) T.tail T.tail w7 ∧ KeptOff (fun k => ¬ (wr.heap.size ≤ k ∧ k < wr.heap.size + 3)) W6 w7 → BoxM w7 (wr.heap.size + 1 + 1) zeroM ∧ (∃ K' T', Mixed w pb dp rb K' K' (n + 1) (fun _ => False) T' T' (w7.setRow (wr.heap.size + 1 + 1) x.cells)) ∧ BoxM (w7.setRow (wr.heap.size + 1 + 1) x.cells) (wr.heap.size + 1) x ∧ BoxM (w7.setRow (wr.heap.size + 1 + 1) x.cells) (wr.heap.size + 1 + 1) x) := by
    rintro W6 w7 b1 b2 ⟨h1, h2⟩
    have hk := KeptOff.row w7 (wr.heap.size + 1 + 1) x.cells
    have hb := b2.kept h2 (fun e => e ⟨by omega, by omega⟩)
    exact ⟨hb, ⟨K, _, (h1.write (hk.mono (fun k _ e => ⟨by omega, by omega⟩))).drop.mono (Nat.le_succ n)⟩, (b1.kept h2 (fun e => e ⟨by omega, by omega⟩)).kept hk (by omega), hb.row x⟩
  have heq := fun w => eqlM x x w
  simp only [decide_true, M.val] at heq hq hd
  have hq' := Lib.hid hq
  have hd' := Lib.hid hd
  clear h hmx hop hq hd hba hbb
  go_enter Tryz.func7, Tryz.ntmps7
  go_upto_region 5 with (fail)
  rw [← hpw.out]
  go_upto_region 14 with (first
    | (go_at_call 15; refine hq'.out.mono ?_; rintro e w5 ⟨rfl, h5⟩; have h6x := h6.out w5 h5.out; have h6' := Lib.hid h6x; clear h6x h5)
    | (refine wpList_store_row rfl 34 (.tmp 7) (.tmp 58) rfl (wr.heap.size + 1) x.cells rfl rfl 34 zeroM.cells h6'.out.1 infoS rfl (M.cells_one x) ?_))
  have hM6 := h6'.out.2
  clear h6' h6 hq' y0 yn y1 y2 y3 y4 y5 y6 y7
  generalize w5.setRow (wr.heap.size + 1) x.cells = W6 at hM6 ⊢
  have hd6 := hd'.out W6 hM6.1
  have yd := hM6.1.row.c0
  have hM6' := Lib.hid hM6
  clear hM6 hd'
  go_upto_region 18 with (first
    | (go_at_call 22; refine hd6.mono ?_; rintro e w7 ⟨rfl, h7⟩; have h8x := h8.out W6 w7 hM6'.out.2.1 hM6'.out.2.2 h7.out; have h8' := Lib.hid h8x; clear h8x h7)
    | (refine wpList_store_row rfl 34 (.tmp 8) (.tmp 66) rfl (wr.heap.size + 1 + 1) x.cells rfl rfl 34 zeroM.cells h8'.out.1 infoS rfl (M.cells_one x) ?_))
  have hM8 := h8'.out.2
  clear h8' h8 hd6 hM6'
  generalize w7.setRow (wr.heap.size + 1 + 1) x.cells = W8 at hM8 ⊢
  obtain ⟨hR, ha, hb⟩ := hM8
  obtain ⟨-, y0, y1, y2, y3, y4, y5, y6⟩ := ha.at
  obtain ⟨-, z0, z1, z2, z3, z4, z5, z6⟩ := hb.at
  simp only [Nat.zero_add] at y0 y1 y2 y3 y4 y5 y6 z0 z1 z2 z3 z4 z5 z6
  have hR' := Lib.hid hR
  clear hR ha hb
  go_wp2
  go_ret
  exact ⟨rfl, hR'⟩
end Go.Proofs.YtjlbkdghlijoeaaGreat
