/-
  The program's ladder and the document's in one world.
  One call of a script, on both queues.
  One call of a script, on both queues: Cut; and all of them.
  A script that can be read; the looks behind a play.
  The law that a ladder plays as the document's under any script of calls.
-/
import Derived.Test.YtcfpfbemmklbaaaLDPE
import Derived.Deep.RegionWith
import Derived.LoopTactic
import Derived.Deep.RegionHeld3
namespace Go.Proofs.Ytcfpfbemmklbaaa
open Go.ChangeShapes Go.WideShapes Go.ChangeAt Go.Shelf Go.RowKit Go.Lib Go.Sort Go.Deep Go.Maps
set_option linter.unusedVariables false

/-- The program's ladder holds T, the document's D; the blocks of X are another's. -/
def Mixed (w : World) (rb n : Nat) (X : Nat → Prop) (T D : List M) (wr : World) : Prop :=
  ∃ S a cap, CalAt wr (w.heap.size + 2) S T ∧ DocAt wr rb a cap D ∧ PlainA a cap ∧ (∀ g, S g → w.heap.size ≤ g ∧ g ≠ rb ∧ ¬ X g) ∧
    (D.length = 0 ∨ ∃ b off, a = some ⟨b, off, none⟩ ∧ rb < b ∧ b < wr.heap.size ∧ ¬ S b ∧ ¬ X b) ∧ Below w.heap.size w wr ∧ w.heap.size ≤ rb ∧ ∀ k, X k → rb < k ∧ k < wr.heap.size
theorem Mixed.below {w wr w' : World} {rb n : Nat} {X : Nat → Prop} {T D : List M} (h : Mixed w rb n X T D wr) (hb : Below wr.heap.size wr w') : Mixed w rb n X T D w' := by
  obtain ⟨S, a, cap, h1, h2, h3, h4, h5, h6, h7, h8⟩ := h
  exact ⟨S, a, cap, h1.below hb, h2.below hb, h3, h4, h5.imp id (fun ⟨b, off, e, x1, x2, x3⟩ => ⟨b, off, e, x1, Nat.lt_of_lt_of_le x2 hb.size, x3⟩), h6.trans (hb.mono h6.size), h7,
    fun k hk => ⟨(h8 k hk).1, Nat.lt_of_lt_of_le (h8 k hk).2 hb.size⟩⟩
theorem Mixed.mono {w wr : World} {rb n n' : Nat} {X : Nat → Prop} {T D : List M} (h : Mixed w rb n X T D wr) (hn : n ≤ n') : Mixed w rb n' X T D wr := h
/-- New blocks are another's. -/
theorem Mixed.others {w wr w' : World} {rb n : Nat} {X X' : Nat → Prop} {T D : List M} (h : Mixed w rb n X T D wr) (hb : Below wr.heap.size wr w') (hX : ∀ k, X' k → wr.heap.size ≤ k ∧ k < w'.heap.size) : Mixed w rb n X' T D w' := by
  have hrl : rb < wr.heap.size := by obtain ⟨S, a, cap, h1, h2, _⟩ := h; exact h2.lt
  obtain ⟨S, a, cap, h1, h2, h3, h4, h5, h6, h7, h8⟩ := h
  have hs := hb.size
  exact ⟨S, a, cap, h1.below hb, h2.below hb, h3, fun g hg => ⟨(h4 g hg).1, (h4 g hg).2.1, fun e => by have := (hX g e).1; have := h1.lt hg; omega⟩,
    h5.imp id (fun ⟨b, off, e, x1, x2, x3, x4⟩ => ⟨b, off, e, x1, by omega, x3, fun e2 => by have := (hX b e2).1; omega⟩), h6.trans (hb.mono h6.size), h7, fun k hk => ⟨by have := (hX k hk).1; omega, (hX k hk).2⟩⟩
/-- What another writes. -/
theorem Mixed.write {w wr w' : World} {rb n : Nat} {X : Nat → Prop} {T D : List M} (h : Mixed w rb n X T D wr) (hk : KeptOff X wr w') : Mixed w rb n X T D w' := by
  obtain ⟨S, a, cap, h1, h2, h3, h4, h5, h6, h7, h8⟩ := h
  have hs := hk.size
  refine ⟨S, a, cap, h1.kept hk (fun k hh e => (h4 k hh).2.2 e), ⟨(hk.block rb h2.lt (fun e => by have := (h8 _ e).1; omega)).trans h2.1, h2.2.kept hk ?_⟩, h3,
    h4, h5.imp id (fun ⟨b, off, e, x1, x2, x3⟩ => ⟨b, off, e, x1, by omega, x3⟩), h6.trans (hk.below (fun k _ e => by have := (h8 k e).1; omega) h6.size), h7, fun k hh => ⟨(h8 k hh).1, by have := (h8 k hh).2; omega⟩⟩
  exact h5.imp id (fun ⟨b, off, e, x1, x2, x3, x4⟩ => ⟨b, off, e, x4⟩)
/-- A call on the program's ladder. -/
theorem Mixed.q {w wr : World} {rb n n' : Nat} {X : Nat → Prop} {T T' D : List M} (h : Mixed w rb n X T D wr) {f : FuncId} {args : Array Value} {r : Value}
    (hc : ∀ S, CalAt wr (w.heap.size + 2) S T → Calls Try.prog f args wr fun e w1 => e = .returned r ∧ ∃ S', CalAt w1 (w.heap.size + 2) S' T' ∧ CStep wr w1 S S') :
    Calls Try.prog f args wr fun e w1 => e = .returned r ∧ Hid (Mixed w rb n' X T' D w1 ∧ KeptOff (fun k => ¬ X k) wr w1) := by
  obtain ⟨S, a, cap, h1, h2, h3, h4, h5, h6, h7, h8⟩ := h
  have hrl := h2.lt
  refine (hc S h1).mono ?_
  rintro e w1 ⟨he, S', hq', hst, hrf⟩
  have hsz := hst.size
  have hdoc : DocAt w1 rb a cap D := by
    refine ⟨(hst.block rb h2.lt (fun e => (h4 rb e).2.1 rfl)).trans h2.1, h2.2.kept hst ?_⟩
    rcases h5 with h0 | ⟨b, off, e, x1, x2, x3, _⟩
    · exact .inl h0
    · exact .inr ⟨b, off, e, x3⟩
  have hws := h6.size
  refine ⟨he, ⟨S', a, cap, hq', hdoc, h3, ?_, ?_, h6.trans (hst.below (fun k _ e => (h4 k e).1) h6.size), h7, fun k hk => ⟨(h8 k hk).1, by have := (h8 k hk).2; omega⟩⟩, hst.mono (fun k _ e => (h4 k e).2.2)⟩
  · intro g hg
    rcases hrf g hg with e | e
    · exact h4 g e
    · exact ⟨by omega, by omega, fun e2 => by have := (h8 g e2).2; omega⟩
  · rcases h5 with h0 | ⟨b, off, e, x1, x2, x3, x4⟩
    · exact .inl h0
    · refine .inr ⟨b, off, e, x1, by omega, fun e2 => ?_, x4⟩
      rcases hrf b e2 with e | e
      · exact x3 e
      · omega
/-- A call on the document's ladder. -/
theorem Mixed.d {w wr : World} {rb n : Nat} {X : Nat → Prop} {T D D' : List M} (h : Mixed w rb n X T D wr) {f : FuncId} {args : Array Value} {r : Value}
    (hc : ∀ a cap, DocAt wr rb a cap D → PlainA a cap → (∀ b off, a = some ⟨b, off, none⟩ → D.length = 0 ∨ rb < b) → Calls Try.prog f args wr fun e w1 => e = .returned r ∧ ∃ a' cap', DocAt w1 rb a' cap' D' ∧ KeptOff (fun k => k = rb) wr w1 ∧ PlainA a' cap' ∧
      (D'.length = 0 ∨ (D.length ≠ 0 ∧ ∃ b off off', a = some ⟨b, off, none⟩ ∧ a' = some ⟨b, off', none⟩) ∨ ∃ g, a' = some ⟨g, 0, none⟩ ∧ wr.heap.size ≤ g)) :
    Calls Try.prog f args wr fun e w1 => e = .returned r ∧ Hid (Mixed w rb n X T D' w1 ∧ KeptOff (fun k => ¬ X k) wr w1) := by
  obtain ⟨S, a, cap, h1, h2, h3, h4, h5, h6, h7, h8⟩ := h
  have hrl := h2.lt
  refine (hc a cap h2 h3 ?_).mono ?_
  · intro b off e
    rcases h5 with h0 | ⟨b1, o1, e1, x1, _⟩
    · exact .inl h0
    · rw [e1] at e
      cases e
      exact .inr x1
  · rintro e w1 ⟨he, a', cap', hd, hk, hp, hr⟩
    have hsz := hk.size
    refine ⟨he, ⟨S, a', cap', h1.kept hk (fun k hk e => (h4 k hk).2.1 e), hd, hp, h4, ?_, h6.trans (hk.below (fun k _ e => by omega) h6.size), h7, fun k hk => ⟨(h8 k hk).1, by have := (h8 k hk).2; omega⟩⟩,
      hk.mono (fun k _ e hX => by have := (h8 k hX).1; omega)⟩
    rcases hr with h0 | ⟨hD, b, off, off', e1, e2⟩ | ⟨g, e1, hg⟩
    · exact .inl h0
    · rcases h5 with h0 | ⟨b1, o1, e3, x1, x2, x3, x4⟩
      · exact absurd h0 hD
      · rw [e3] at e1
        cases e1
        exact .inr ⟨b, off', e2, x1, by omega, x3, x4⟩
    · by_cases h0 : D'.length = 0
      · exact .inl h0
      · rcases hd.2.2.2.2.2 with h1' | ⟨b2, o2, e2, hm⟩
        · exact .inl h1'
        · rw [e1] at e2
          cases e2
          exact .inr ⟨g, 0, e1, by omega, (hm 0 (by omega)).1, fun e => by have := h1.lt e; omega, fun e => by have := (h8 g e).2; omega⟩

/-! The four calls, on both sides. -/
theorem stay_q {wr w1 : World} {hb : Nat} {S : Nat → Prop} {T : List M} (h : CalAt wr hb S T) (hb' : Below wr.heap.size wr w1) : ∃ S', CalAt w1 hb S' T ∧ CStep wr w1 S S' := ⟨S, h.below hb', .of_below hb'⟩
theorem stay_d {wr w1 : World} {rb cap : Nat} {a : Option Addr} {D : List M} (h : DocAt wr rb a cap D) (hp : PlainA a cap) (hb' : Below wr.heap.size wr w1) : ∃ a' cap', DocAt w1 rb a' cap' D ∧ KeptOff (fun k => k = rb) wr w1 ∧ PlainA a' cap' ∧
      (D.length = 0 ∨ (D.length ≠ 0 ∧ ∃ b off off', a = some ⟨b, off, none⟩ ∧ a' = some ⟨b, off', none⟩) ∨ ∃ g, a' = some ⟨g, 0, none⟩ ∧ wr.heap.size ≤ g) := by
  refine ⟨a, cap, h.below hb', .of_below hb', hp, ?_⟩
  by_cases h0 : D.length = 0
  · exact .inl h0
  · rcases h.2.2.2.2.2 with h1 | ⟨b, off, e, _⟩
    · exact .inl h1
    · exact .inr (.inl ⟨h0, b, off, off, e, e⟩)
section
variable {w wr : World} {rb n : Nat} {X : Nat → Prop} {T D : List M}
theorem Mixed.pushQ (h : Mixed w rb n X T D wr) (m : M) (hm : m.fits) (hn : n < maxLen) :
    Calls Try.prog 15 #[.pointer (some ⟨w.heap.size + 2, 0, none⟩), m.val] wr fun e w1 => e = .returned (.int .i64 (pushC T m)) ∧ Hid (Mixed w rb (n + 1) X (pushT T m) D w1 ∧ KeptOff (fun k => ¬ X k) wr w1) :=
  h.q fun v hq => (hPush_any hq m hm).mono fun e w1 hh => hh
theorem Mixed.pushD (h : Mixed w rb n X T D wr) (m : M) (hm : m.fits) (hO : InOrder ltM D) (hl : D.length ≤ 16384) :
    Calls Try.prog 21 #[.pointer (some ⟨rb, 0, none⟩), m.val] wr fun e w1 => e = .returned (.int .i64 (pushC D m)) ∧ Hid (Mixed w rb n X T (pushT D m) w1 ∧ KeptOff (fun k => ¬ X k) wr w1) :=
  h.d fun a cap hd hp _ => (rPush_any hd hp hO hm hl).mono fun e w1 ⟨he, a', cap', h1, h2, h3, h4⟩ => ⟨he, a', cap', h1, h2, h3, by
    by_cases h0 : (pushT D m).length = 0
    · exact .inl h0
    · rcases h4 with ⟨hs, rfl⟩ | h4
      · rw [hs] at h0
        rcases hd.2.2.2.2.2 with h1' | ⟨b, off, e, _⟩
        · exact absurd h1' h0
        · exact .inr (.inl ⟨h0, b, off, off, e, e⟩)
      · exact .inr (.inr h4)⟩
theorem Mixed.firstQ (h : Mixed w rb n X T D wr) :
    Calls Try.prog 19 #[.pointer (some ⟨w.heap.size + 2, 0, none⟩)] wr fun e w1 => e = .returned (.tuple #[(T.headD zeroM).val, .int .i64 (if T = [] then 6 else 0)]) ∧ Hid (Mixed w rb n X T D w1 ∧ KeptOff (fun k => ¬ X k) wr w1) := by
  cases T with
  | nil => exact h.q fun v hq => (hFirst_none hq).mono fun e w1 hh => ⟨hh.1, stay_q hq hh.2⟩
  | cons m T => exact h.q fun v hq => (hFirst_some hq).mono fun e w1 hh => ⟨hh.1, stay_q hq hh.2⟩
theorem Mixed.firstD (h : Mixed w rb n X T D wr) :
    Calls Try.prog 22 #[.pointer (some ⟨rb, 0, none⟩)] wr fun e w1 => e = .returned (.tuple #[(D.headD zeroM).val, .int .i64 (if D = [] then 6 else 0)]) ∧ Hid (Mixed w rb n X T D w1 ∧ KeptOff (fun k => ¬ X k) wr w1) := by
  cases D with
  | nil => exact h.d fun a cap hd hp _ => (rFirst_none hd).mono fun e w1 hh => ⟨hh.1, stay_d hd hp hh.2⟩
  | cons m D => exact h.d fun a cap hd hp _ => (rFirst_some hd).mono fun e w1 hh => ⟨hh.1, stay_d hd hp hh.2⟩
theorem Mixed.popQ (h : Mixed w rb n X T D wr) :
    Calls Try.prog 17 #[.pointer (some ⟨w.heap.size + 2, 0, none⟩)] wr fun e w1 => e = .returned (.tuple #[(T.headD zeroM).val, .int .i64 (if T = [] then 6 else 0)]) ∧ Hid (Mixed w rb n X T.tail D w1 ∧ KeptOff (fun k => ¬ X k) wr w1) := by
  cases T with
  | nil => exact h.q fun v hq => (hPop_none hq).mono fun e w1 hh => ⟨hh.1, stay_q hq hh.2⟩
  | cons m T => exact h.q fun v hq => (hPop_some hq).mono fun e w1 hh => ⟨hh.1, hh.2⟩
theorem Mixed.popD (h : Mixed w rb n X T D wr) :
    Calls Try.prog 23 #[.pointer (some ⟨rb, 0, none⟩)] wr fun e w1 => e = .returned (.tuple #[(D.headD zeroM).val, .int .i64 (if D = [] then 6 else 0)]) ∧ Hid (Mixed w rb n X T D.tail w1 ∧ KeptOff (fun k => ¬ X k) wr w1) := by
  cases D with
  | nil => exact h.d fun a cap hd hp _ => (rPop_none hd).mono fun e w1 hh => ⟨hh.1, stay_d hd hp hh.2⟩
  | cons m D =>
    refine h.d fun a cap hd hp hr => (rPop_some hd (fun b off e => ?_)).mono fun e w1 ⟨he, a', cap', h1, h2, h3⟩ => ⟨he, a', cap', h1, h2, ?_, ?_⟩
    · rcases hr b off e with h0 | h0
      · simp at h0
      · omega
    · obtain ⟨b, off, off', e1, e2⟩ := h3
      exact .inr ⟨b, off', e2⟩
    · obtain ⟨b, off, off', e1, e2⟩ := h3
      exact .inr (.inl ⟨by simp, b, off, off', e1, e2⟩)
end
end Go.Proofs.Ytcfpfbemmklbaaa
namespace Go.Proofs.Ytcfpfbemmklbaaa
open Go.ChangeShapes Go.WideShapes Go.ChangeAt Go.Shelf Go.RowKit Go.Lib Go.Sort Go.Deep Go.Maps
set_option linter.unusedVariables false

theorem Mixed.drop {w wr : World} {rb n : Nat} {X : Nat → Prop} {T D : List M} (h : Mixed w rb n X T D wr) : Mixed w rb n (fun _ => False) T D wr := h.others (Below.refl _ _) (fun k hk => hk.elim)
theorem Mixed.order {w wr : World} {rb n : Nat} {X : Nat → Prop} {T D : List M} (h : Mixed w rb n X T D wr) : InOrder ltM T ∧ Unlike T ∧ T.length ≤ 16384 := by
  obtain ⟨S, a, cap, h1, _⟩ := h
  exact ⟨h1.o, h1.u, h1.small⟩
/-- A box that holds a call. -/
def BoxO (w : World) (B : Nat) (what : Int) (m : M) : Prop := w.heap[B]? = some (.cells #[.int .i64 what, .int .i64 m.k.t, .int .i64 m.k.f, .int .i64 m.k.s, .int .i64 m.to, .int .i64 m.v, .int .i64 m.u, .bool m.anti] 36)
def OpAt (w : World) (B : Nat) (what : Int) (m : M) : Prop := w.cell? ⟨B, 0, none⟩ = some (.int .i64 what) ∧ w.cell? ⟨B, 1, none⟩ = some (.int .i64 m.k.t) ∧ w.cell? ⟨B, 2, none⟩ = some (.int .i64 m.k.f) ∧ w.cell? ⟨B, 3, none⟩ = some (.int .i64 m.k.s) ∧ w.cell? ⟨B, 4, none⟩ = some (.int .i64 m.to) ∧ w.cell? ⟨B, 5, none⟩ = some (.int .i64 m.v) ∧ w.cell? ⟨B, 6, none⟩ = some (.int .i64 m.u) ∧ w.cell? ⟨B, 7, none⟩ = some (.bool m.anti)
theorem BoxO.at {w : World} {B : Nat} {what : Int} {m : M} (h : BoxO w B what m) : OpAt w B what m :=
  ⟨cell_of_block (o := 0) h rfl, cell_of_block (o := 1) h rfl, cell_of_block (o := 2) h rfl, cell_of_block (o := 3) h rfl, cell_of_block (o := 4) h rfl, cell_of_block (o := 5) h rfl, cell_of_block (o := 6) h rfl, cell_of_block (o := 7) h rfl⟩
theorem BoxO.kept {S : Nat → Prop} {w w' : World} {B : Nat} {what : Int} {m : M} (h : BoxO w B what m) (hk : KeptOff S w w') (hn : ¬ S B) : BoxO w' B what m := (hk.block B (Array.getElem?_eq_some_iff.1 h).1 hn).trans h

/-- The world with the three boxes of a play. -/
def playW (wr : World) (what : Int) (m : M) : World := ((wr.alloc (.cells #[.int .i64 what, .int .i64 m.k.t, .int .i64 m.k.f, .int .i64 m.k.s, .int .i64 m.to, .int .i64 m.v, .int .i64 m.u, .bool m.anti] 36)).alloc (.cells #[.int .i64 0, .int .i64 0, .int .i64 0, .int .i64 0, .int .i64 0, .int .i64 0, .bool false] 34)).alloc (.cells #[.int .i64 0, .int .i64 0, .int .i64 0, .int .i64 0, .int .i64 0, .int .i64 0, .bool false] 34)
theorem playW_below (wr : World) (what : Int) (m : M) : Below wr.heap.size wr (playW wr what m) := (((Below.refl _ wr).alloc (Nat.le_refl _) _).alloc (by simp) _).alloc (by simp; omega) _
theorem playW_size (wr : World) (what : Int) (m : M) : (playW wr what m).heap.size = wr.heap.size + 3 := by simp [playW]
theorem playW_op (wr : World) (what : Int) (m : M) : BoxO (playW wr what m) wr.heap.size what m := by
  have h : BoxO (wr.alloc (.cells #[.int .i64 what, .int .i64 m.k.t, .int .i64 m.k.f, .int .i64 m.k.s, .int .i64 m.to, .int .i64 m.v, .int .i64 m.u, .bool m.anti] 36)) wr.heap.size what m := heap_alloc_new wr _
  exact (h.kept (S := fun _ => False) (.of_below ((Below.refl _ _).alloc (Nat.le_refl _) _)) (fun e => e)).kept (S := fun _ => False) (.of_below ((Below.refl _ _).alloc (Nat.le_refl _) _)) (fun e => e)
theorem playW_a (wr : World) (what : Int) (m : M) : BoxM (playW wr what m) (wr.heap.size + 1) zeroM := by
  have h := BoxM.mk (wr.alloc (.cells #[.int .i64 what, .int .i64 m.k.t, .int .i64 m.k.f, .int .i64 m.k.s, .int .i64 m.to, .int .i64 m.v, .int .i64 m.u, .bool m.anti] 36)) zeroM
  have e : (wr.alloc (.cells #[.int .i64 what, .int .i64 m.k.t, .int .i64 m.k.f, .int .i64 m.k.s, .int .i64 m.to, .int .i64 m.v, .int .i64 m.u, .bool m.anti] 36)).heap.size = wr.heap.size + 1 := by simp
  rw [e] at h
  exact h.kept (S := fun _ => False) (.of_below ((Below.refl _ _).alloc (Nat.le_refl _) _)) (fun e => e)
theorem playW_b (wr : World) (what : Int) (m : M) : BoxM (playW wr what m) (wr.heap.size + 1 + 1) zeroM := by
  have h := BoxM.mk ((wr.alloc (.cells #[.int .i64 what, .int .i64 m.k.t, .int .i64 m.k.f, .int .i64 m.k.s, .int .i64 m.to, .int .i64 m.v, .int .i64 m.u, .bool m.anti] 36)).alloc (.cells zeroM.cells 34)) zeroM
  have e : ((wr.alloc (.cells #[.int .i64 what, .int .i64 m.k.t, .int .i64 m.k.f, .int .i64 m.k.s, .int .i64 m.to, .int .i64 m.v, .int .i64 m.u, .bool m.anti] 36)).alloc (.cells zeroM.cells 34)).heap.size = wr.heap.size + 1 + 1 := by simp
  rw [e] at h
  exact h

set_option maxHeartbeats 4000000 in
set_option maxRecDepth 100000 in
theorem play_push {w wr : World} {rb n : Nat} {T : List M} (h : Mixed w rb n (fun _ => False) T T wr) (m : M) (hm : m.fits) (hn : n < maxLen) :
    Calls Try.prog 10 #[.pointer (some ⟨w.heap.size + 2, 0, none⟩), .pointer (some ⟨rb, 0, none⟩), .agg #[.int .i64 0, .int .i64 m.k.t, .int .i64 m.k.f, .int .i64 m.k.s, .int .i64 m.to, .int .i64 m.v, .int .i64 m.u, .bool m.anti]] wr fun e w' => e = .returned (.bool true) ∧ Hid (∃ T', Mixed w rb (n + 1) (fun _ => False) T' T' w') := by
  have mixed := mixed
  have hmx := h.others (X' := fun k => wr.heap.size ≤ k ∧ k < wr.heap.size + 3) (playW_below wr 0 m) (fun k hk => ⟨hk.1, by rw [playW_size]; exact hk.2⟩)
  have hO := h.order
  have hpw : Hid (playW wr 0 m = ((wr.alloc (.cells #[.int .i64 0, .int .i64 m.k.t, .int .i64 m.k.f, .int .i64 m.k.s, .int .i64 m.to, .int .i64 m.v, .int .i64 m.u, .bool m.anti] 36)).alloc (.cells #[.int .i64 0, .int .i64 0, .int .i64 0, .int .i64 0, .int .i64 0, .int .i64 0, .bool false] 34)).alloc (.cells #[.int .i64 0, .int .i64 0, .int .i64 0, .int .i64 0, .int .i64 0, .int .i64 0, .bool false] 34)) := rfl
  have hop := Lib.hid (playW_op wr 0 m)
  generalize playW wr 0 m = W3 at hmx hpw hop
  have hq := (hmx.below (Below.refl _ W3).drew).pushQ m hm hn
  have hd : Hid (∀ w5, Mixed w rb (n + 1) (fun k => wr.heap.size ≤ k ∧ k < wr.heap.size + 3) (pushT T m) T w5 → Calls Try.prog 21 #[.pointer (some ⟨rb, 0, none⟩), m.val] w5 fun e w6 => e = .returned (.int .i64 (pushC T m)) ∧ Hid (∃ T', Mixed w rb (n + 1) (fun _ => False) T' T' w6)) := fun w5 h5 =>
    (h5.pushD m hm hO.1 hO.2.2).mono fun e w6 hh => ⟨hh.1, pushT T m, hh.2.out.1.drop⟩
  have hop5 : Hid (∀ w5, KeptOff (fun k => ¬ (wr.heap.size ≤ k ∧ k < wr.heap.size + 3)) W3.drew w5 → OpAt w5 wr.heap.size 0 m) := fun w5 hk => ((hop.out.kept (S := fun _ => False) (.of_below (Below.refl _ W3).drew) (fun e => e)).kept hk (fun e => e ⟨Nat.le_refl _, by omega⟩)).at
  obtain ⟨y0, y1, y2, y3, y4, y5, y6, y7⟩ := hop.out.at
  simp only [M.val] at hq hd
  generalize pushC T m = c at hq hd
  have hq' := Lib.hid hq
  clear h hmx hO hop hq
  go_enter Try.func10, Try.ntmps10
  go_upto_region 5 with (fail)
  rw [← hpw.out]
  go_upto_region 9 with (fail)
  go_region_with (first
    | (go_at_call 15; (with_reducible refine hq'.out.mono ?_); rintro e w5 ⟨rfl, h5⟩; have h5x := hop5.out w5 h5.out.2; obtain ⟨-, z1, z2, z3, z4, z5, z6, z7⟩ := h5x; have hd5 := hd.out w5 h5.out.1)
    | (go_at_call 21; (with_reducible refine hd5.mono ?_); rintro e w6 ⟨rfl, h6⟩))
  all_goals
    go_wp2
    go_ret
    exact ⟨rfl, h6⟩

set_option maxHeartbeats 4000000 in
set_option maxRecDepth 100000 in
theorem play_first {w wr : World} {rb n : Nat} {T : List M} (h : Mixed w rb n (fun _ => False) T T wr) (m : M) :
    Calls Try.prog 10 #[.pointer (some ⟨w.heap.size + 2, 0, none⟩), .pointer (some ⟨rb, 0, none⟩), .agg #[.int .i64 1, .int .i64 m.k.t, .int .i64 m.k.f, .int .i64 m.k.s, .int .i64 m.to, .int .i64 m.v, .int .i64 m.u, .bool m.anti]] wr fun e w' => e = .returned (.bool true) ∧ Hid (∃ T', Mixed w rb (n + 1) (fun _ => False) T' T' w') := by
  have mixed := mixed
  have hmx := h.others (X' := fun k => wr.heap.size ≤ k ∧ k < wr.heap.size + 3) (playW_below wr 1 m) (fun k hk => ⟨hk.1, by rw [playW_size]; exact hk.2⟩)
  have hpw : Hid (playW wr 1 m = ((wr.alloc (.cells #[.int .i64 1, .int .i64 m.k.t, .int .i64 m.k.f, .int .i64 m.k.s, .int .i64 m.to, .int .i64 m.v, .int .i64 m.u, .bool m.anti] 36)).alloc (.cells #[.int .i64 0, .int .i64 0, .int .i64 0, .int .i64 0, .int .i64 0, .int .i64 0, .bool false] 34)).alloc (.cells #[.int .i64 0, .int .i64 0, .int .i64 0, .int .i64 0, .int .i64 0, .int .i64 0, .bool false] 34)) := rfl
  have hop := Lib.hid (playW_op wr 1 m)
  have hba := Lib.hid (playW_a wr 1 m)
  have hbb := Lib.hid (playW_b wr 1 m)
  generalize playW wr 1 m = W3 at hmx hpw hop hba hbb
  have hq := hmx.firstQ
  have hd := fun w5 (h5 : Mixed w rb n (fun k => wr.heap.size ≤ k ∧ k < wr.heap.size + 3) T T w5) => h5.firstD
  obtain ⟨y0, y1, y2, y3, y4, y5, y6, y7⟩ := hop.out.at
  generalize T.headD zeroM = x at hq hd
  generalize (if T = [] then 6 else 0 : Int) = c at hq hd
  have h6 : Hid (∀ w5, Mixed w rb n (fun k => wr.heap.size ≤ k ∧ k < wr.heap.size + 3) T T w5 ∧ KeptOff (fun k => ¬ (wr.heap.size ≤ k ∧ k < wr.heap.size + 3)) W3 w5 → BoxM w5 (wr.heap.size + 1) zeroM ∧ Mixed w rb n (fun k => wr.heap.size ≤ k ∧ k < wr.heap.size + 3) T T (w5.setRow (wr.heap.size + 1) x.cells) ∧ BoxM (w5.setRow (wr.heap.size + 1) x.cells) (wr.heap.size + 1) x ∧ BoxM (w5.setRow (wr.heap.size + 1) x.cells) (wr.heap.size + 1 + 1) zeroM) := by
    rintro w5 ⟨h1, h2⟩
    have hk := KeptOff.row w5 (wr.heap.size + 1) x.cells
    have ha := hba.out.kept h2 (fun e => e ⟨by omega, by omega⟩)
    exact ⟨ha, h1.write (hk.mono (fun k _ e => ⟨by omega, by omega⟩)), ha.row x, (hbb.out.kept h2 (fun e => e ⟨by omega, by omega⟩)).kept hk (by omega)⟩
  have h8 : Hid (∀ W6 w7, BoxM W6 (wr.heap.size + 1) x → BoxM W6 (wr.heap.size + 1 + 1) zeroM → Mixed w rb n (fun k => wr.heap.size ≤ k ∧ k < wr.heap.size + 3) T T w7 ∧ KeptOff (fun k => ¬ (wr.heap.size ≤ k ∧ k < wr.heap.size + 3)) W6 w7 → BoxM w7 (wr.heap.size + 1 + 1) zeroM ∧ (∃ T', Mixed w rb (n + 1) (fun _ => False) T' T' (w7.setRow (wr.heap.size + 1 + 1) x.cells)) ∧ BoxM (w7.setRow (wr.heap.size + 1 + 1) x.cells) (wr.heap.size + 1) x ∧ BoxM (w7.setRow (wr.heap.size + 1 + 1) x.cells) (wr.heap.size + 1 + 1) x) := by
    rintro W6 w7 b1 b2 ⟨h1, h2⟩
    have hk := KeptOff.row w7 (wr.heap.size + 1 + 1) x.cells
    have hb := b2.kept h2 (fun e => e ⟨by omega, by omega⟩)
    exact ⟨hb, ⟨_, (h1.write (hk.mono (fun k _ e => ⟨by omega, by omega⟩))).drop.mono (Nat.le_succ n)⟩, (b1.kept h2 (fun e => e ⟨by omega, by omega⟩)).kept hk (by omega), hb.row x⟩
  have heq := fun w => eqlM x x w
  simp only [decide_true, M.val] at heq hq hd
  have hq' := Lib.hid hq
  have hd' := Lib.hid hd
  clear h hmx hop hq hd hba hbb
  go_enter Try.func10, Try.ntmps10
  go_upto_region 5 with (fail)
  rw [← hpw.out]
  go_upto_region 12 with (first
    | (go_at_call 19; refine hq'.out.mono ?_; rintro e w5 ⟨rfl, h5⟩; have h6x := h6.out w5 h5.out; have h6' := Lib.hid h6x; clear h6x h5)
    | (refine wpList_store_row rfl 34 (.tmp 7) (.tmp 55) rfl (wr.heap.size + 1) x.cells rfl rfl 34 zeroM.cells h6'.out.1 infoS rfl (M.cells_one x) ?_))
  have hM6 := h6'.out.2
  clear h6' h6 hq' y0 y1 y2 y3 y4 y5 y6 y7
  generalize w5.setRow (wr.heap.size + 1) x.cells = W6 at hM6 ⊢
  have hd6 := hd'.out W6 hM6.1
  have hM6' := Lib.hid hM6
  clear hM6 hd'
  go_upto_region 16 with (first
    | (go_at_call 22; refine hd6.mono ?_; rintro e w7 ⟨rfl, h7⟩; have h8x := h8.out W6 w7 hM6'.out.2.1 hM6'.out.2.2 h7.out; have h8' := Lib.hid h8x; clear h8x h7)
    | (refine wpList_store_row rfl 34 (.tmp 8) (.tmp 60) rfl (wr.heap.size + 1 + 1) x.cells rfl rfl 34 zeroM.cells h8'.out.1 infoS rfl (M.cells_one x) ?_))
  have hM8 := h8'.out.2
  clear h8' h8 hd6 hM6'
  generalize w7.setRow (wr.heap.size + 1 + 1) x.cells = W8 at hM8 ⊢
  obtain ⟨hR, ha, hb⟩ := hM8
  obtain ⟨-, y0, y1, y2, y3, y4, y5, y6⟩ := ha.at
  obtain ⟨-, z0, z1, z2, z3, z4, z5, z6⟩ := hb.at
  simp only [Nat.zero_add] at y0 y1 y2 y3 y4 y5 y6 z0 z1 z2 z3 z4 z5 z6
  have hR' := Lib.hid hR
  clear hR ha hb
  go_wp2
  go_ret
  exact ⟨rfl, hR'⟩

set_option maxHeartbeats 4000000 in
set_option maxRecDepth 100000 in
theorem play_pop {w wr : World} {rb n : Nat} {T : List M} (h : Mixed w rb n (fun _ => False) T T wr) (m : M) :
    Calls Try.prog 10 #[.pointer (some ⟨w.heap.size + 2, 0, none⟩), .pointer (some ⟨rb, 0, none⟩), .agg #[.int .i64 2, .int .i64 m.k.t, .int .i64 m.k.f, .int .i64 m.k.s, .int .i64 m.to, .int .i64 m.v, .int .i64 m.u, .bool m.anti]] wr fun e w' => e = .returned (.bool true) ∧ Hid (∃ T', Mixed w rb (n + 1) (fun _ => False) T' T' w') := by
  have mixed := mixed
  have hmx := h.others (X' := fun k => wr.heap.size ≤ k ∧ k < wr.heap.size + 3) (playW_below wr 2 m) (fun k hk => ⟨hk.1, by rw [playW_size]; exact hk.2⟩)
  have hpw : Hid (playW wr 2 m = ((wr.alloc (.cells #[.int .i64 2, .int .i64 m.k.t, .int .i64 m.k.f, .int .i64 m.k.s, .int .i64 m.to, .int .i64 m.v, .int .i64 m.u, .bool m.anti] 36)).alloc (.cells #[.int .i64 0, .int .i64 0, .int .i64 0, .int .i64 0, .int .i64 0, .int .i64 0, .bool false] 34)).alloc (.cells #[.int .i64 0, .int .i64 0, .int .i64 0, .int .i64 0, .int .i64 0, .int .i64 0, .bool false] 34)) := rfl
  have hop := Lib.hid (playW_op wr 2 m)
  have hba := Lib.hid (playW_a wr 2 m)
  have hbb := Lib.hid (playW_b wr 2 m)
  generalize playW wr 2 m = W3 at hmx hpw hop hba hbb
  have hq := hmx.popQ
  have hd := fun w5 (h5 : Mixed w rb n (fun k => wr.heap.size ≤ k ∧ k < wr.heap.size + 3) T.tail T w5) => h5.popD
  obtain ⟨y0, y1, y2, y3, y4, y5, y6, y7⟩ := hop.out.at
  generalize T.headD zeroM = x at hq hd
  generalize (if T = [] then 6 else 0 : Int) = c at hq hd
  have h6 : Hid (∀ w5, Mixed w rb n (fun k => wr.heap.size ≤ k ∧ k < wr.heap.size + 3) T.tail T w5 ∧ KeptOff (fun k => ¬ (wr.heap.size ≤ k ∧ k < wr.heap.size + 3)) W3 w5 → BoxM w5 (wr.heap.size + 1) zeroM ∧ Mixed w rb n (fun k => wr.heap.size ≤ k ∧ k < wr.heap.size + 3) T.tail T (w5.setRow (wr.heap.size + 1) x.cells) ∧ BoxM (w5.setRow (wr.heap.size + 1) x.cells) (wr.heap.size + 1) x ∧ BoxM (w5.setRow (wr.heap.size + 1) x.cells) (wr.heap.size + 1 + 1) zeroM) := by
    rintro w5 ⟨h1, h2⟩
    have hk := KeptOff.row w5 (wr.heap.size + 1) x.cells
    have ha := hba.out.kept h2 (fun e => e ⟨by omega, by omega⟩)
    exact ⟨ha, h1.write (hk.mono (fun k _ e => ⟨by omega, by omega⟩)), ha.row x, (hbb.out.kept h2 (fun e => e ⟨by omega, by omega⟩)).kept hk (by omega)⟩
  have h8 : Hid (∀ W6 w7, BoxM W6 (wr.heap.size + 1) x → BoxM W6 (wr.heap.size + 1 + 1) zeroM → Mixed w rb n (fun k => wr.heap.size ≤ k ∧ k < wr.heap.size + 3) T.tail T.tail w7 ∧ KeptOff (fun k => ¬ (wr.heap.size ≤ k ∧ k < wr.heap.size + 3)) W6 w7 → BoxM w7 (wr.heap.size + 1 + 1) zeroM ∧ (∃ T', Mixed w rb (n + 1) (fun _ => False) T' T' (w7.setRow (wr.heap.size + 1 + 1) x.cells)) ∧ BoxM (w7.setRow (wr.heap.size + 1 + 1) x.cells) (wr.heap.size + 1) x ∧ BoxM (w7.setRow (wr.heap.size + 1 + 1) x.cells) (wr.heap.size + 1 + 1) x) := by
    rintro W6 w7 b1 b2 ⟨h1, h2⟩
    have hk := KeptOff.row w7 (wr.heap.size + 1 + 1) x.cells
    have hb := b2.kept h2 (fun e => e ⟨by omega, by omega⟩)
    exact ⟨hb, ⟨_, (h1.write (hk.mono (fun k _ e => ⟨by omega, by omega⟩))).drop.mono (Nat.le_succ n)⟩, (b1.kept h2 (fun e => e ⟨by omega, by omega⟩)).kept hk (by omega), hb.row x⟩
  have heq := fun w => eqlM x x w
  simp only [decide_true, M.val] at heq hq hd
  have hq' := Lib.hid hq
  have hd' := Lib.hid hd
  clear h hmx hop hq hd hba hbb
  go_enter Try.func10, Try.ntmps10
  go_upto_region 5 with (fail)
  rw [← hpw.out]
  go_upto_region 15 with (first
    | (go_at_call 17; refine hq'.out.mono ?_; rintro e w5 ⟨rfl, h5⟩; have h6x := h6.out w5 h5.out; have h6' := Lib.hid h6x; clear h6x h5)
    | (refine wpList_store_row rfl 34 (.tmp 7) (.tmp 67) rfl (wr.heap.size + 1) x.cells rfl rfl 34 zeroM.cells h6'.out.1 infoS rfl (M.cells_one x) ?_))
  have hM6 := h6'.out.2
  clear h6' h6 hq' y0 y1 y2 y3 y4 y5 y6 y7
  generalize w5.setRow (wr.heap.size + 1) x.cells = W6 at hM6 ⊢
  have hd6 := hd'.out W6 hM6.1
  have hM6' := Lib.hid hM6
  clear hM6 hd'
  go_upto_region 16 with (first
    | (go_at_call 23; refine hd6.mono ?_; rintro e w7 ⟨rfl, h7⟩; have h8x := h8.out W6 w7 hM6'.out.2.1 hM6'.out.2.2 h7.out; have h8' := Lib.hid h8x; clear h8x h7)
    | (refine wpList_store_row rfl 34 (.tmp 8) (.tmp 72) rfl (wr.heap.size + 1 + 1) x.cells rfl rfl 34 zeroM.cells h8'.out.1 infoS rfl (M.cells_one x) ?_))
  have hM8 := h8'.out.2
  clear h8' h8 hd6 hM6'
  generalize w7.setRow (wr.heap.size + 1 + 1) x.cells = W8 at hM8 ⊢
  obtain ⟨hR, ha, hb⟩ := hM8
  obtain ⟨-, y0, y1, y2, y3, y4, y5, y6⟩ := ha.at
  obtain ⟨-, z0, z1, z2, z3, z4, z5, z6⟩ := hb.at
  simp only [Nat.zero_add] at y0 y1 y2 y3 y4 y5 y6 z0 z1 z2 z3 z4 z5 z6
  have hR' := Lib.hid hR
  clear hR ha hb
  go_wp2
  go_ret
  exact ⟨rfl, hR'⟩
end Go.Proofs.Ytcfpfbemmklbaaa
namespace Go.Proofs.Ytcfpfbemmklbaaa
open Go.ChangeShapes Go.WideShapes Go.ChangeAt Go.Shelf Go.RowKit Go.Lib Go.Sort Go.Deep Go.Maps
set_option linter.unusedVariables false

theorem Mixed.cut {w wr : World} {rb n : Nat} {X : Nat → Prop} {T : List M} (h : Mixed w rb n X T T wr) (f u : Int) (hf : (Lit.int .i64 f).wf = true) (hu : (Lit.int .i64 u).wf = true) :
    ∃ (x : M) (c : Int) (T' : List M), (Calls Try.prog 18 #[.pointer (some ⟨w.heap.size + 2, 0, none⟩), .int .i64 f, .int .i64 u] wr fun e w1 => e = .returned (.tuple #[x.val, .int .i64 c]) ∧ Hid (Mixed w rb n X T' T w1 ∧ KeptOff (fun k => ¬ X k) wr w1)) ∧
      ∀ w5, Mixed w rb n X T' T w5 → Calls Try.prog 24 #[.pointer (some ⟨rb, 0, none⟩), .int .i64 f, .int .i64 u] w5 fun e w1 => e = .returned (.tuple #[x.val, .int .i64 c]) ∧ Hid (Mixed w rb n X T' T' w1 ∧ KeptOff (fun k => ¬ X k) w5 w1) := by
  obtain ⟨hO, hU, hl⟩ := h.order
  by_cases hs : hasS T f u = true
  · obtain ⟨m, hm, hmf, hmu⟩ := hasS_iff.1 hs
    obtain ⟨k, hk, rfl⟩ := List.getElem_of_mem hm
    have hpm : (T[k] :: T.eraseIdx k).Perm T := erase_perm hk
    have hOe : InOrder ltM (T.eraseIdx k) := List.Pairwise.sublist (List.eraseIdx_sublist T k) hO
    refine ⟨T[k], 0, T.eraseIdx k, h.q fun v hq => ?_, fun w5 h5 => h5.d fun a cap hd hp hr => ?_⟩
    · have hcc := hCut_some hq hpm hOe
      rw [hmf, hmu] at hcc
      exact hcc.mono fun e w1 hh => ⟨hh.1, hh.2⟩
    · rcases hp with ⟨rfl, rfl⟩ | ⟨b, off, rfl⟩
      · have := hd.2.2.1
        omega
      · refine (rCut_some hd hU f u k hk hmf hmu hl).mono ?_
        rintro e w1 ⟨he, a', cap', q1, q2, q3, q4⟩
        refine ⟨he, a', cap', q1, q2, q3, ?_⟩
        rcases q4 with q4 | ⟨g, e1, hg⟩
        · exact .inl q4
        · exact .inr (.inr ⟨g, e1, by omega⟩)
  · have hs' : hasS T f u = false := by simpa using hs
    exact ⟨zeroM, 6, T, h.q fun v hq => (hCut_none hq hf hu hs').mono fun e w1 hh => ⟨hh.1, stay_q hq hh.2⟩, fun w5 h5 => h5.d fun a cap hd hp _ => (rCut_none hd f u hs').mono fun e w1 hh => ⟨hh.1, stay_d hd hp hh.2⟩⟩

set_option maxHeartbeats 4000000 in
set_option maxRecDepth 100000 in
theorem play_cut {w wr : World} {rb n : Nat} {T : List M} (h : Mixed w rb n (fun _ => False) T T wr) (m : M) (hm : m.fits) (what : Int) (hw0 : ¬ what = 0) (hw1 : ¬ what = 1) (hw2 : ¬ what = 2) :
    Calls Try.prog 10 #[.pointer (some ⟨w.heap.size + 2, 0, none⟩), .pointer (some ⟨rb, 0, none⟩), .agg #[.int .i64 what, .int .i64 m.k.t, .int .i64 m.k.f, .int .i64 m.k.s, .int .i64 m.to, .int .i64 m.v, .int .i64 m.u, .bool m.anti]] wr fun e w' => e = .returned (.bool true) ∧ Hid (∃ T', Mixed w rb (n + 1) (fun _ => False) T' T' w') := by
  have mixed := mixed
  have hmx := h.others (X' := fun k => wr.heap.size ≤ k ∧ k < wr.heap.size + 3) (playW_below wr what m) (fun k hk => ⟨hk.1, by rw [playW_size]; exact hk.2⟩)
  have hpw : Hid (playW wr what m = ((wr.alloc (.cells #[.int .i64 what, .int .i64 m.k.t, .int .i64 m.k.f, .int .i64 m.k.s, .int .i64 m.to, .int .i64 m.v, .int .i64 m.u, .bool m.anti] 36)).alloc (.cells #[.int .i64 0, .int .i64 0, .int .i64 0, .int .i64 0, .int .i64 0, .int .i64 0, .bool false] 34)).alloc (.cells #[.int .i64 0, .int .i64 0, .int .i64 0, .int .i64 0, .int .i64 0, .int .i64 0, .bool false] 34)) := rfl
  have hop := Lib.hid (playW_op wr what m)
  have hba := Lib.hid (playW_a wr what m)
  have hbb := Lib.hid (playW_b wr what m)
  generalize playW wr what m = W3 at hmx hpw hop hba hbb
  obtain ⟨x, c, T', hq, hd⟩ := hmx.cut m.k.f m.u hm.1.2.1 hm.2.2.2
  obtain ⟨y0, y1, y2, y3, y4, y5, y6, y7⟩ := hop.out.at
  have h6 : Hid (∀ w5, Mixed w rb n (fun k => wr.heap.size ≤ k ∧ k < wr.heap.size + 3) T' T w5 ∧ KeptOff (fun k => ¬ (wr.heap.size ≤ k ∧ k < wr.heap.size + 3)) W3 w5 → BoxM w5 (wr.heap.size + 1) zeroM ∧ Mixed w rb n (fun k => wr.heap.size ≤ k ∧ k < wr.heap.size + 3) T' T (w5.setRow (wr.heap.size + 1) x.cells) ∧ BoxM (w5.setRow (wr.heap.size + 1) x.cells) (wr.heap.size + 1) x ∧ BoxM (w5.setRow (wr.heap.size + 1) x.cells) (wr.heap.size + 1 + 1) zeroM ∧ OpAt (w5.setRow (wr.heap.size + 1) x.cells) wr.heap.size what m) := by
    rintro w5 ⟨h1, h2⟩
    have hk := KeptOff.row w5 (wr.heap.size + 1) x.cells
    have ha := hba.out.kept h2 (fun e => e ⟨by omega, by omega⟩)
    exact ⟨ha, h1.write (hk.mono (fun k _ e => ⟨by omega, by omega⟩)), ha.row x, (hbb.out.kept h2 (fun e => e ⟨by omega, by omega⟩)).kept hk (by omega), ((hop.out.kept h2 (fun e => e ⟨by omega, by omega⟩)).kept hk (by omega)).at⟩
  have h8 : Hid (∀ W6 w7, BoxM W6 (wr.heap.size + 1) x → BoxM W6 (wr.heap.size + 1 + 1) zeroM → Mixed w rb n (fun k => wr.heap.size ≤ k ∧ k < wr.heap.size + 3) T' T' w7 ∧ KeptOff (fun k => ¬ (wr.heap.size ≤ k ∧ k < wr.heap.size + 3)) W6 w7 → BoxM w7 (wr.heap.size + 1 + 1) zeroM ∧ (∃ T1, Mixed w rb (n + 1) (fun _ => False) T1 T1 (w7.setRow (wr.heap.size + 1 + 1) x.cells)) ∧ BoxM (w7.setRow (wr.heap.size + 1 + 1) x.cells) (wr.heap.size + 1) x ∧ BoxM (w7.setRow (wr.heap.size + 1 + 1) x.cells) (wr.heap.size + 1 + 1) x) := by
    rintro W6 w7 b1 b2 ⟨h1, h2⟩
    have hk := KeptOff.row w7 (wr.heap.size + 1 + 1) x.cells
    have hb := b2.kept h2 (fun e => e ⟨by omega, by omega⟩)
    exact ⟨hb, ⟨_, (h1.write (hk.mono (fun k _ e => ⟨by omega, by omega⟩))).drop.mono (Nat.le_succ n)⟩, (b1.kept h2 (fun e => e ⟨by omega, by omega⟩)).kept hk (by omega), hb.row x⟩
  have heq := fun w => eqlM x x w
  simp only [decide_true, M.val] at heq hq hd
  have hq' := Lib.hid hq
  have hd' := Lib.hid hd
  clear h hmx hop hq hd hba hbb
  go_enter Try.func10, Try.ntmps10
  go_upto_region 5 with (fail)
  rw [← hpw.out]
  go_upto_region 7 with (first
    | (go_at_call 18; refine hq'.out.mono ?_; rintro e w5 ⟨rfl, h5⟩; have h6x := h6.out w5 h5.out; have h6' := Lib.hid h6x; clear h6x h5)
    | (refine wpList_store_row rfl 34 (.tmp 7) (.tmp 25) rfl (wr.heap.size + 1) x.cells rfl rfl 34 zeroM.cells h6'.out.1 infoS rfl (M.cells_one x) ?_))
  have hM6 := h6'.out.2
  clear h6' h6 hq' y0 y1 y2 y3 y4 y5 y6 y7
  generalize w5.setRow (wr.heap.size + 1) x.cells = W6 at hM6 ⊢
  have hd6 := hd'.out W6 hM6.1
  obtain ⟨-, -, u2, -, -, -, u6, -⟩ := hM6.2.2.2
  have hM6' := Lib.hid hM6
  clear hM6 hd'
  go_upto_region 16 with (first
    | (go_at_call 24; refine hd6.mono ?_; rintro e w7 ⟨rfl, h7⟩; have h8x := h8.out W6 w7 hM6'.out.2.1 hM6'.out.2.2.1 h7.out; have h8' := Lib.hid h8x; clear h8x h7)
    | (refine wpList_store_row rfl 34 (.tmp 8) (.tmp 37) rfl (wr.heap.size + 1 + 1) x.cells rfl rfl 34 zeroM.cells h8'.out.1 infoS rfl (M.cells_one x) ?_))
  have hM8 := h8'.out.2
  clear h8' h8 hd6 hM6' u2 u6
  generalize w7.setRow (wr.heap.size + 1 + 1) x.cells = W8 at hM8 ⊢
  obtain ⟨hR, ha, hb⟩ := hM8
  obtain ⟨-, y0, y1, y2, y3, y4, y5, y6⟩ := ha.at
  obtain ⟨-, z0, z1, z2, z3, z4, z5, z6⟩ := hb.at
  simp only [Nat.zero_add] at y0 y1 y2 y3 y4 y5 y6 z0 z1 z2 z3 z4 z5 z6
  have hR' := Lib.hid hR
  clear hR ha hb
  go_wp2
  go_ret
  exact ⟨rfl, hR'⟩

theorem play_any {w wr : World} {rb n : Nat} {T : List M} (h : Mixed w rb n (fun _ => False) T T wr) (m : M) (hm : m.fits) (what : Int) (hn : n < maxLen) :
    Calls Try.prog 10 #[.pointer (some ⟨w.heap.size + 2, 0, none⟩), .pointer (some ⟨rb, 0, none⟩), .agg #[.int .i64 what, .int .i64 m.k.t, .int .i64 m.k.f, .int .i64 m.k.s, .int .i64 m.to, .int .i64 m.v, .int .i64 m.u, .bool m.anti]] wr fun e w' => e = .returned (.bool true) ∧ Hid (∃ T', Mixed w rb (n + 1) (fun _ => False) T' T' w') := by
  by_cases h0 : what = 0
  · subst h0; exact play_push h m hm hn
  · by_cases h1 : what = 1
    · subst h1; exact play_first h m
    · by_cases h2 : what = 2
      · subst h2; exact play_pop h m
      · exact play_cut h m hm what h0 h1 h2
end Go.Proofs.Ytcfpfbemmklbaaa
namespace Go.Proofs.Ytcfpfbemmklbaaa
open Go.ChangeShapes Go.WideShapes Go.ChangeAt Go.Shelf Go.RowKit Go.Lib Go.Sort Go.Deep Go.Maps
set_option linter.unusedVariables false

set_option maxRecDepth 100000 in
theorem cellsO : Try.prog.cellsOf 36 = 8 := by kernel_rfl
/-- A call that lies in memory. -/
def OpC (w : World) (b o : Nat) (what : Int) (m : M) : Prop := w.cell? ⟨b, o, none⟩ = some (.int .i64 what) ∧ w.cell? ⟨b, o + 1, none⟩ = some (.int .i64 m.k.t) ∧ w.cell? ⟨b, o + 2, none⟩ = some (.int .i64 m.k.f) ∧ w.cell? ⟨b, o + 3, none⟩ = some (.int .i64 m.k.s) ∧ w.cell? ⟨b, o + 4, none⟩ = some (.int .i64 m.to) ∧ w.cell? ⟨b, o + 5, none⟩ = some (.int .i64 m.v) ∧ w.cell? ⟨b, o + 6, none⟩ = some (.int .i64 m.u) ∧ w.cell? ⟨b, o + 7, none⟩ = some (.bool m.anti)
/-- A script that can be read. -/
def Ops (w : World) (a : Option Addr) (len cap : Nat) : Prop := len ≤ cap ∧ cap ≤ maxLen ∧ (len = 0 ∨ ∃ b off, a = some ⟨b, off, none⟩ ∧ b < w.heap.size ∧ ∀ i, i < len → ∃ (what : Int) (m : M), m.fits ∧ OpC w b (off + i * 8) what m)
section
variable {H : Type} {enc : TypeId × Value → H} {w : World} {base : Nat} {spare : Nat → Bool} {held : Bool}
set_option maxRecDepth 100000 in
theorem openO {fuel : Nat} {cs : List Value} {x : DataW H × List MemPlace} (h : DataW.trod enc Try.prog w base spare held fuel 36 cs = some x) :
    ∃ (what : Int) (m : M), cs = .int .i64 what :: m.cells.toList ∧ m.fits := by
  obtain ⟨xs, n, _, _, hlen, hxl, hg⟩ := DataW.trod_struct Try.underlying36 h
  have hc : cs.length = 8 := hlen.trans cellsO
  match cs, hc with
  | [c0, c1, c2, c3, c4, c5, c6, c7], _ =>
    match xs, hxl with
    | [y0, y1], _ =>
      have g0 := hg 0 _ rfl
      have g1 := hg 1 _ rfl
      simp [cells3, cellsM] at g0 g1
      obtain ⟨n0, h0, _, w0⟩ := DataW.trod_int Try.underlying3 g0
      obtain ⟨m, hm, wm⟩ := openM g1
      simp only [List.cons.injEq, and_true] at h0
      subst h0
      exact ⟨n0, m, by rw [← hm], wm⟩
set_option maxRecDepth 100000 in
theorem openOs {fuel : Nat} {a : Option Addr} {len cap : Nat} {x : DataW H × List MemPlace} (h : DataW.trod enc Try.prog w base spare held fuel 22 [.slice a len cap] = some x) (hlt : ∀ y ∈ x.2, y.block < w.heap.size) : Ops w a len cap := by
  rcases open_slice Try.underlying22 h with ⟨hcs, _⟩ | ⟨y, l, c, m, n, D, Pl, hcs, _, hl, hm, hmm, hx, hi⟩
  · simp at hcs
    obtain ⟨rfl, rfl, rfl⟩ := hcs
    exact ⟨by omega, by unfold maxLen; omega, .inl rfl⟩
  · simp at hcs
    obtain ⟨rfl, rfl, rfl⟩ := hcs
    have hml : len ≤ m := by rw [hmm]; split <;> omega
    have hM : ∀ i, i < len → ∃ (what : Int) (mm : M), mm.fits ∧ ∀ j, j < 8 → w.cell? ((y.add (i * 8)).add j) = (Value.int .i64 what :: mm.cells.toList)[j]? := by
      intro i hilt
      obtain ⟨cs', hc, ht⟩ := hi i (by omega)
      rw [cellsO] at hc
      obtain ⟨what, mm, rfl, wm⟩ := openO ht
      obtain ⟨_, _, hat⟩ := World.cells?_some hc
      exact ⟨what, mm, wm, hat⟩
    refine ⟨hl, hm, ?_⟩
    by_cases h0 : len = 0
    · exact .inl h0
    · obtain ⟨b, off, spot⟩ := y
      have hspot : spot = none := by
        obtain ⟨what, mm, _, hh⟩ := hM 0 (by omega)
        have := hh 0 (by omega)
        simp at this
        simpa [Addr.add] using World.cell?_spot this
      subst hspot
      have hbW : b < w.heap.size := by
        refine hlt (.cell b off) ?_
        rw [hx, cellsO]
        exact List.mem_append_left _ (MemPlace.mem_row.2 ⟨0, by omega, by simp⟩)
      refine .inr ⟨b, off, rfl, hbW, fun i hilt => ?_⟩
      obtain ⟨what, mm, hf, hc⟩ := hM i hilt
      simp only [add_plain] at hc
      exact ⟨what, mm, hf, hc 0 (by omega), hc 1 (by omega), hc 2 (by omega), hc 3 (by omega), hc 4 (by omega), hc 5 (by omega), hc 6 (by omega), hc 7 (by omega)⟩
end

/-- What is looked at behind a play. -/
theorem Mixed.looks {w w5 : World} {rb n : Nat} {X : Nat → Prop} {T : List M} (h : Mixed w rb n X T T w5) :
    ∃ (a : Option Addr) (cap : Nat), w5.cell? ⟨rb, 0, none⟩ = some (.slice a T.length cap) ∧ (Calls Try.prog 11 #[.pointer (some ⟨w.heap.size + 2, 0, none⟩)] w5 fun e w' => e = .returned (.int .i64 T.length) ∧ w5 = w') ∧
      Calls Try.prog 13 #[.pointer (some ⟨w.heap.size + 2, 0, none⟩)] w5 fun e w7 => ∃ (a1 : Option Addr) (c1 : Nat), e = .returned (.slice a1 T.length c1) ∧ w7.cell? ⟨rb, 0, none⟩ = some (.slice a T.length cap) ∧ Hid (Below w5.heap.size w5 w7 ∧
        Calls Try.prog 12 #[.slice a1 T.length c1, .slice a T.length cap] w7 fun e w8 => e = .returned (.bool true) ∧ Hid (Below w7.heap.size w7 w8)) := by
  obtain ⟨S, a, cap, h1, h2, _⟩ := h
  refine ⟨a, cap, h2.c0, hLen_any h1, (hAll_any h1).mono ?_⟩
  rintro e w7 ⟨a1, c1, he, hM⟩
  obtain ⟨hM1, hb, _⟩ := hM.out
  refine ⟨a1, c1, he, (h2.below hb).c0, hb, (same_eq hM1 (h2.below hb).2).mono ?_⟩
  rintro e w8 ⟨he8, hr8⟩
  exact ⟨he8, hr8.below⟩

end Go.Proofs.Ytcfpfbemmklbaaa
namespace Go.Proofs.Ytcfpfbemmklbaaa
open Go.ChangeShapes Go.WideShapes Go.ChangeAt Go.Shelf Go.RowKit Go.Lib Go.Sort Go.Deep Go.Maps
set_option linter.unusedVariables false

theorem Mixed.b {w wr : World} {rb n : Nat} {X : Nat → Prop} {T D : List M} (h : Mixed w rb n X T D wr) : Below w.heap.size w wr := by
  obtain ⟨_, _, _, _, _, _, _, _, h6, _⟩ := h
  exact h6

set_option maxHeartbeats 40000000 in
set_option maxRecDepth 100000 in
theorem lawLadderPlays_wide (Wd : Int) (hWf : (Lit.int .i64 Wd).wf = true) (hWd : 1 ≤ Wd ∧ Wd ≤ 16384) {w : World} {a : Option Addr} {len cap : Nat} (h : Ops w a len cap) :
    Calls Try.prog 3 #[.int .i64 Wd, .slice a len cap] w fun e w' => e = .returned (.bool true) ∧ Below w.heap.size w w' := by
  have mixed := mixed
  obtain ⟨hcap1, hcap2, hops⟩ := h
  have hmx : len ≤ 9223372036854775807 ∧ cap ≤ 9223372036854775807 := by unfold maxLen at hcap2; omega
  obtain ⟨hmx, hcm⟩ := hmx
  have hops' := Lib.hid hops
  clear hops
  go_enter Try.func3, Try.ntmps3
  have hnew := hNew_any w hWd hWf
  have hrn := fun w1 => rNew_any w1 hWd
  clear hWf hWd
  go_upto_region 3 with (first
    | (go_at_call 8; refine hnew.mono ?_; rintro e w1 ⟨rfl, hQ1⟩)
    | (go_at_call 9; refine (hrn w1).mono ?_; rintro e w2 ⟨rfl, hD2⟩; have hD2' := Lib.hid hD2; clear hD2))
  have hM0 : Hid (∃ T, Mixed w w1.heap.size 0 (fun _ => False) T T w2) := by
    obtain ⟨hq, hb1⟩ := hQ1.out
    obtain ⟨hd, hb2⟩ := hD2'.out
    exact ⟨[], newS w, none, 0, hq.below hb2, hd, .inl ⟨rfl, rfl⟩, (fun g hg => ⟨hg.1, (fun e => by have := hq.lt hg; omega), fun e => e⟩), .inl rfl, hb1.trans (hb2.mono hb1.size), hb1.size, fun k hk => hk.elim⟩
  clear hQ1 hD2' hnew hrn
  generalize w1.heap.size = rb at hM0 ⊢
  go_wp2
  go_loopw [9] (fun s5 wr => ∃ i : Nat, i ≤ len ∧ s5 = .int .i64 i ∧ Hid (∃ T, Mixed w rb i (fun _ => False) T T wr)) (fun s5 _ => len - (intOf s5).toNat)
  case atStart => exact ⟨0, Nat.zero_le _, rfl, hM0⟩
  case round =>
    obtain ⟨i, hi, rfl, hM⟩ := hrel
    clear hM0
    by_cases hil : i < len
    · have hz : (i : Int) < (len : Int) := by omega
      obtain ⟨b, off, rfl, hbw, hop⟩ : ∃ b off, a = some ⟨b, off, none⟩ ∧ b < w.heap.size ∧ ∀ i, i < len → ∃ (what : Int) (m : M), m.fits ∧ OpC w b (off + i * 8) what m := by
        rcases hops'.out with h0 | hx
        · omega
        · exact hx
      obtain ⟨what, m, hf, hc⟩ := hop i hil
      obtain ⟨T, hT⟩ := hM.out
      have hB := hT.b
      obtain ⟨k0, k1, k2, k3, k4, k5, k6, k7⟩ := hc
      have hcell : ∀ {o : Nat} {v : Value}, w.cell? ⟨b, o, none⟩ = some v → wr.cell? ⟨b, o, none⟩ = some v := fun h => (hB.cell (p := ⟨b, _, none⟩) hbw).trans h
      have x0 := hcell k0
      have x1 := hcell k1
      have x2 := hcell k2
      have x3 := hcell k3
      have x4 := hcell k4
      have x5 := hcell k5
      have x6 := hcell k6
      have x7 := hcell k7
      have hp := play_any (hT.below (Below.refl _ wr).drew) m hf what (by unfold maxLen at *; omega)
      have hS : ∀ w', Below w.heap.size w w' → w'.cell? ⟨b, off + i * 8, none⟩ = some (.int .i64 what) ∧ w'.cell? ⟨b, off + i * 8 + 1, none⟩ = some (.int .i64 m.k.t) ∧ w'.cell? ⟨b, off + i * 8 + 2, none⟩ = some (.int .i64 m.k.f) ∧ w'.cell? ⟨b, off + i * 8 + 3, none⟩ = some (.int .i64 m.k.s) ∧ w'.cell? ⟨b, off + i * 8 + 4, none⟩ = some (.int .i64 m.to) ∧ w'.cell? ⟨b, off + i * 8 + 5, none⟩ = some (.int .i64 m.v) ∧ w'.cell? ⟨b, off + i * 8 + 6, none⟩ = some (.int .i64 m.u) ∧ w'.cell? ⟨b, off + i * 8 + 7, none⟩ = some (.bool m.anti) := fun w' hb => by
        have hc2 : ∀ {o : Nat} {v : Value}, w.cell? ⟨b, o, none⟩ = some v → w'.cell? ⟨b, o, none⟩ = some v := fun h => (hb.cell (p := ⟨b, _, none⟩) hbw).trans h
        exact ⟨hc2 k0, hc2 k1, hc2 k2, hc2 k3, hc2 k4, hc2 k5, hc2 k6, hc2 k7⟩
      have hbd := hB.drew
      clear k0 k1 k2 k3 k4 k5 k6 k7 hcell hop hM hT hB hf
      have hp' := Lib.hid hp
      have hi' := Lib.hid hil
      have hb4 := Lib.hid hbd
      clear hS hbd hp hops' hcap1 hcap2
      by_cases h1 : i < 100
      · have hz1 : (i : Int) < 100 := by omega
        go_upto_region 8 with (fail)
        refine wp_region_held_drew (S := fun _ => True) (by kernel_rfl) trivial (fun hHeld => ?_)
        refine wpAnyH_take (i := 0) (oi := { dst := some 40, op := Op.move (Operand.tmp 5), type := 23, pos := "law.go:66", after := #[], guard := none }) (v := ?vv0_1) rfl (by kernel_rfl) (by kernel_rfl) (by kernel_rfl) (fun _ _ _ h => h) (Or.inl ⟨by rfl, ?hy0_1⟩) (by assumption) ?rest0_1
        case hy0_1 =>
          intro w hSw
          try dsimp only at hSw
          go_simp
          try with_reducible rfl
        try simp only [Act.put, List.setIfInBounds_toArray, List.set_cons_zero, List.set_cons_succ]
        refine wpAnyH_take (i := 1) (oi := { dst := some 41, op := Op.move (Operand.tmp 7), type := 27, pos := "law.go:66", after := #[], guard := none }) (v := ?vv1_2) rfl (by kernel_rfl) (by kernel_rfl) (by kernel_rfl) (fun _ _ _ h => h) (Or.inl ⟨by rfl, ?hy1_2⟩) (by assumption) ?rest1_2
        case hy1_2 =>
          intro w hSw
          try dsimp only at hSw
          go_simp
          try with_reducible rfl
        try simp only [Act.put, List.setIfInBounds_toArray, List.set_cons_zero, List.set_cons_succ]
        refine wpAnyH_take (i := 2) (oi := { dst := some 42, op := Op.move (Operand.tmp 1), type := 22, pos := "law.go:66", after := #[], guard := none }) (v := ?vv2_3) rfl (by kernel_rfl) (by kernel_rfl) (by kernel_rfl) (fun _ _ _ h => h) (Or.inl ⟨by rfl, ?hy2_3⟩) (by assumption) ?rest2_3
        case hy2_3 =>
          intro w hSw
          try dsimp only at hSw
          go_simp
          try with_reducible rfl
        try simp only [Act.put, List.setIfInBounds_toArray, List.set_cons_zero, List.set_cons_succ]
        refine wpAnyH_take (i := 3) (oi := { dst := some 43, op := Op.move (Operand.tmp 9), type := 3, pos := "law.go:66", after := #[], guard := none }) (v := ?vv3_4) rfl (by kernel_rfl) (by kernel_rfl) (by kernel_rfl) (fun _ _ _ h => h) (Or.inl ⟨by rfl, ?hy3_4⟩) (by assumption) ?rest3_4
        case hy3_4 =>
          intro w hSw
          try dsimp only at hSw
          go_simp
          try with_reducible rfl
        try simp only [Act.put, List.setIfInBounds_toArray, List.set_cons_zero, List.set_cons_succ]
        refine wpAnyH_take (i := 4) (oi := { dst := some 44, op := Op.indexAddr 22 (Operand.tmp 42) (Operand.tmp 43), type := 0, pos := "law.go:66", after := #[{ on := 2, ground := Ground.data }, { on := 3, ground := Ground.data }], guard := none }) (v := ?vv4_5) rfl (by kernel_rfl) (by kernel_rfl) (by kernel_rfl) (fun _ _ _ h => h) (Or.inl ⟨by rfl, ?hy4_5⟩) (by assumption) ?rest4_5
        case hy4_5 =>
          intro w hSw
          try dsimp only at hSw
          go_simp
          try with_reducible rfl
        try simp only [Act.put, List.setIfInBounds_toArray, List.set_cons_zero, List.set_cons_succ]
        refine wpAnyH_ready (rs := [5]) (by kernel_rfl) (by simp) ?_
        refine AllReadyH.cons (o := { dst := some 45, op := Op.load 36 (Operand.tmp 44), type := 36, pos := "law.go:66", after := #[{ on := 4, ground := Ground.data }], guard := none }) rfl (fun K hK => ?_) AllReadyH.nil
        go_simp
        refine hK.out _ _ trivial (fun hHeld => ?_)
        clear hK K
        try simp only [Act.put, List.setIfInBounds_toArray, List.set_cons_zero, List.set_cons_succ]
        refine wpAnyH_ready (rs := [6]) (by kernel_rfl) (by simp) ?_
        refine AllReadyH.cons (o := { dst := some 46, op := Op.call { callee := Callee.value (Operand.func 10), args := #[Operand.tmp 40, Operand.tmp 41, Operand.tmp 45], argTypes := #[23, 27, 36] }, type := 4, pos := "law.go:66", after := #[{ on := 0, ground := Ground.data }, { on := 1, ground := Ground.data }, { on := 5, ground := Ground.data }], guard := none }) rfl (fun K hK => ?_) AllReadyH.nil
        go_simp
        go_at_call 10
        (with_reducible refine hp'.out.mono ?_)
        rintro e w5 ⟨rfl, h5⟩
        obtain ⟨T5, hM5⟩ := h5.out
        obtain ⟨ra, rc, c5, hlen5, hall5⟩ := hM5.looks
        have hlen5' := Lib.hid hlen5
        have hall5' := Lib.hid hall5
        have hM5' := Lib.hid hM5
        clear hM5 h5 hlen5 hall5 x0 x1 x2 x3 x4 x5 x6 x7
        go_wp2_with fail
        refine hK.out _ _ trivial (fun hHeld => ?_)
        clear hK K
        try simp only [Act.put, List.setIfInBounds_toArray, List.set_cons_zero, List.set_cons_succ]
        refine wpAnyH_mono (S' := fun w' => w'.cell? ⟨rb, 0, none⟩ = some (.slice ra T5.length rc)) (fun _ _ => trivial) _ _ _ _ ?_
        clear hHeld
        have hHeld := c5
        refine wpAnyH_take (i := 7) (oi := { dst := some 47, op := Op.unOp UnOp.not 4 (Operand.tmp 46), type := 4, pos := "law.go:66", after := #[{ on := 6, ground := Ground.data }], guard := none }) (v := ?vv7_6) rfl (by kernel_rfl) (by kernel_rfl) (by kernel_rfl) (fun _ _ _ h => h) (Or.inl ⟨by rfl, ?hy7_6⟩) (by assumption) ?rest7_6
        case hy7_6 =>
          intro w hSw
          try dsimp only at hSw
          go_simp
          try with_reducible rfl
        try simp only [Act.put, List.setIfInBounds_toArray, List.set_cons_zero, List.set_cons_succ]
        refine wpAnyH_take (i := 8) (oi := { dst := some 48, op := Op.move (Operand.tmp 47), type := 4, pos := "law.go:66", after := #[{ on := 7, ground := Ground.data }, { on := 6, ground := Ground.chain }], guard := none }) (v := ?vv8_7) rfl (by kernel_rfl) (by kernel_rfl) (by kernel_rfl) (fun _ _ _ h => h) (Or.inl ⟨by rfl, ?hy8_7⟩) (by assumption) ?rest8_7
        case hy8_7 =>
          intro w hSw
          try dsimp only at hSw
          go_simp
          try with_reducible rfl
        try simp only [Act.put, List.setIfInBounds_toArray, List.set_cons_zero, List.set_cons_succ]
        refine wpAnyH_take (i := 9) (oi := { dst := some 49, op := Op.move (Operand.tmp 5), type := 23, pos := "law.go:66", after := #[{ on := 8, ground := Ground.guard }], guard := some (8, false) }) (v := ?vv9_8) rfl (by kernel_rfl) (by kernel_rfl) (by kernel_rfl) (fun _ _ _ h => h) (Or.inl ⟨by rfl, ?hy9_8⟩) (by assumption) ?rest9_8
        case hy9_8 =>
          intro w hSw
          try dsimp only at hSw
          go_simp
          try with_reducible rfl
        try simp only [Act.put, List.setIfInBounds_toArray, List.set_cons_zero, List.set_cons_succ]
        refine wpAnyH_take (i := 11) (oi := { dst := some 51, op := Op.move (Operand.tmp 7), type := 27, pos := "law.go:66", after := #[{ on := 8, ground := Ground.guard }], guard := some (8, false) }) (v := ?vv11_9) rfl (by kernel_rfl) (by kernel_rfl) (by kernel_rfl) (fun _ _ _ h => h) (Or.inl ⟨by rfl, ?hy11_9⟩) (by assumption) ?rest11_9
        case hy11_9 =>
          intro w hSw
          try dsimp only at hSw
          go_simp
          try with_reducible rfl
        try simp only [Act.put, List.setIfInBounds_toArray, List.set_cons_zero, List.set_cons_succ]
        refine wpAnyH_take (i := 12) (oi := { dst := some 52, op := Op.nilCheck (Operand.tmp 51), type := 0, pos := "law.go:66", after := #[{ on := 11, ground := Ground.data }, { on := 8, ground := Ground.guard }], guard := some (8, false) }) (v := ?vv12_10) rfl (by kernel_rfl) (by kernel_rfl) (by kernel_rfl) (fun _ _ _ h => h) (Or.inl ⟨by rfl, ?hy12_10⟩) (by assumption) ?rest12_10
        case hy12_10 =>
          intro w hSw
          try dsimp only at hSw
          go_simp
          try with_reducible rfl
        try simp only [Act.put, List.setIfInBounds_toArray, List.set_cons_zero, List.set_cons_succ]
        refine wpAnyH_take (i := 13) (oi := { dst := some 53, op := Op.fieldAddr 40 (Operand.tmp 52) 0, type := 0, pos := "law.go:66", after := #[{ on := 12, ground := Ground.data }, { on := 8, ground := Ground.guard }], guard := some (8, false) }) (v := ?vv13_11) rfl (by kernel_rfl) (by kernel_rfl) (by kernel_rfl) (fun _ _ _ h => h) (Or.inl ⟨by rfl, ?hy13_11⟩) (by assumption) ?rest13_11
        case hy13_11 =>
          intro w hSw
          try dsimp only at hSw
          go_simp
          try with_reducible rfl
        try simp only [Act.put, List.setIfInBounds_toArray, List.set_cons_zero, List.set_cons_succ]
        refine wpAnyH_take (i := 14) (oi := { dst := some 54, op := Op.load 38 (Operand.tmp 53), type := 38, pos := "law.go:66", after := #[{ on := 13, ground := Ground.data }, { on := 8, ground := Ground.guard }], guard := some (8, false) }) (v := ?vv14_12) rfl (by kernel_rfl) (by kernel_rfl) (by kernel_rfl) (fun _ _ _ h => h) (Or.inl ⟨by rfl, ?hy14_12⟩) (by assumption) ?rest14_12
        case hy14_12 =>
          intro w hSw
          try dsimp only at hSw
          go_simp
          try with_reducible rfl
        try simp only [Act.put, List.setIfInBounds_toArray, List.set_cons_zero, List.set_cons_succ]
        refine wpAnyH_take (i := 15) (oi := { dst := some 55, op := Op.call { callee := Callee.builtin Builtin.len, args := #[Operand.tmp 54], argTypes := #[38] }, type := 3, pos := "law.go:66", after := #[{ on := 14, ground := Ground.data }, { on := 8, ground := Ground.guard }], guard := some (8, false) }) (v := ?vv15_13) rfl (by kernel_rfl) (by kernel_rfl) (by kernel_rfl) (fun _ _ _ h => h) (Or.inl ⟨by rfl, ?hy15_13⟩) (by assumption) ?rest15_13
        case hy15_13 =>
          intro w hSw
          try dsimp only at hSw
          go_simp
          try with_reducible rfl
        try simp only [Act.put, List.setIfInBounds_toArray, List.set_cons_zero, List.set_cons_succ]
        refine wpAnyH_ready (rs := [10]) (by kernel_rfl) (by simp) ?_
        refine AllReadyH.cons (o := { dst := some 50, op := Op.call { callee := Callee.value (Operand.func 11), args := #[Operand.tmp 49], argTypes := #[23] }, type := 3, pos := "law.go:66", after := #[{ on := 9, ground := Ground.data }, { on := 8, ground := Ground.chain }, { on := 8, ground := Ground.guard }], guard := some (8, false) }) rfl (fun K hK => ?_) AllReadyH.nil
        go_simp
        go_at_call 11
        (with_reducible refine hlen5'.out.mono ?_)
        rintro e w6 ⟨rfl, rfl⟩
        go_wp2_with fail
        refine hK.out _ _ c5 (fun hHeld => ?_)
        clear hK K
        try simp only [Act.put, List.setIfInBounds_toArray, List.set_cons_zero, List.set_cons_succ]
        refine wpAnyH_take (i := 16) (oi := { dst := some 56, op := Op.binOp BinOp.neq 3 (Operand.tmp 50) (Operand.tmp 55) 3, type := 4, pos := "law.go:66", after := #[{ on := 10, ground := Ground.data }, { on := 15, ground := Ground.data }, { on := 8, ground := Ground.guard }], guard := some (8, false) }) (v := ?vv16_14) rfl (by kernel_rfl) (by kernel_rfl) (by kernel_rfl) (fun _ _ _ h => h) (Or.inl ⟨by rfl, ?hy16_14⟩) (by assumption) ?rest16_14
        case hy16_14 =>
          intro w hSw
          try dsimp only at hSw
          go_simp
          try with_reducible rfl
        try simp only [Act.put, List.setIfInBounds_toArray, List.set_cons_zero, List.set_cons_succ]
        refine wpAnyH_take (i := 17) (oi := { dst := some 57, op := Op.pick (Operand.tmp 48) (Operand.const (Value.bool true)) (Operand.tmp 56), type := 4, pos := "law.go:66", after := #[{ on := 8, ground := Ground.data }, { on := 16, ground := Ground.data }], guard := none }) (v := ?vv17_15) rfl (by kernel_rfl) (by kernel_rfl) (by kernel_rfl) (fun _ _ _ h => h) (Or.inl ⟨by rfl, ?hy17_15⟩) (by assumption) ?rest17_15
        case hy17_15 =>
          intro w hSw
          try dsimp only at hSw
          go_simp
          try with_reducible rfl
        try simp only [Act.put, List.setIfInBounds_toArray, List.set_cons_zero, List.set_cons_succ]
        refine wpAnyH_take (i := 18) (oi := { dst := some 58, op := Op.move (Operand.tmp 57), type := 4, pos := "law.go:66", after := #[{ on := 17, ground := Ground.data }, { on := 10, ground := Ground.chain }], guard := none }) (v := ?vv18_16) rfl (by kernel_rfl) (by kernel_rfl) (by kernel_rfl) (fun _ _ _ h => h) (Or.inl ⟨by rfl, ?hy18_16⟩) (by assumption) ?rest18_16
        case hy18_16 =>
          intro w hSw
          try dsimp only at hSw
          go_simp
          try with_reducible rfl
        try simp only [Act.put, List.setIfInBounds_toArray, List.set_cons_zero, List.set_cons_succ]
        refine wpAnyH_take (i := 19) (oi := { dst := some 59, op := Op.move (Operand.tmp 9), type := 3, pos := "law.go:66", after := #[{ on := 18, ground := Ground.guard }], guard := some (18, false) }) (v := ?vv19_17) rfl (by kernel_rfl) (by kernel_rfl) (by kernel_rfl) (fun _ _ _ h => h) (Or.inl ⟨by rfl, ?hy19_17⟩) (by assumption) ?rest19_17
        case hy19_17 =>
          intro w hSw
          try dsimp only at hSw
          go_simp
          try with_reducible rfl
        try simp only [Act.put, List.setIfInBounds_toArray, List.set_cons_zero, List.set_cons_succ]
        refine wpAnyH_take (i := 20) (oi := { dst := some 60, op := Op.binOp BinOp.lss 3 (Operand.tmp 59) (Operand.const (Value.int IntKind.i64 100)) 3, type := 4, pos := "law.go:66", after := #[{ on := 19, ground := Ground.data }, { on := 18, ground := Ground.guard }], guard := some (18, false) }) (v := ?vv20_18) rfl (by kernel_rfl) (by kernel_rfl) (by kernel_rfl) (fun _ _ _ h => h) (Or.inl ⟨by rfl, ?hy20_18⟩) (by assumption) ?rest20_18
        case hy20_18 =>
          intro w hSw
          try dsimp only at hSw
          go_simp
          try with_reducible rfl
        try simp only [Act.put, List.setIfInBounds_toArray, List.set_cons_zero, List.set_cons_succ]
        refine wpAnyH_take (i := 21) (oi := { dst := some 61, op := Op.move (Operand.tmp 60), type := 4, pos := "law.go:66", after := #[{ on := 20, ground := Ground.data }, { on := 18, ground := Ground.chain }, { on := 18, ground := Ground.guard }], guard := some (18, false) }) (v := ?vv21_19) rfl (by kernel_rfl) (by kernel_rfl) (by kernel_rfl) (fun _ _ _ h => h) (Or.inl ⟨by rfl, ?hy21_19⟩) (by assumption) ?rest21_19
        case hy21_19 =>
          intro w hSw
          try dsimp only at hSw
          go_simp
          try with_reducible rfl
        try simp only [Act.put, List.setIfInBounds_toArray, List.set_cons_zero, List.set_cons_succ]
        refine wpAnyH_take (i := 22) (oi := { dst := some 62, op := Op.move (Operand.tmp 5), type := 23, pos := "law.go:66", after := #[{ on := 21, ground := Ground.guard }], guard := some (21, true) }) (v := ?vv22_20) rfl (by kernel_rfl) (by kernel_rfl) (by kernel_rfl) (fun _ _ _ h => h) (Or.inl ⟨by rfl, ?hy22_20⟩) (by assumption) ?rest22_20
        case hy22_20 =>
          intro w hSw
          try dsimp only at hSw
          go_simp
          try with_reducible rfl
        try simp only [Act.put, List.setIfInBounds_toArray, List.set_cons_zero, List.set_cons_succ]
        refine wpAnyH_take (i := 24) (oi := { dst := some 64, op := Op.move (Operand.tmp 7), type := 27, pos := "law.go:66", after := #[{ on := 21, ground := Ground.guard }], guard := some (21, true) }) (v := ?vv24_21) rfl (by kernel_rfl) (by kernel_rfl) (by kernel_rfl) (fun _ _ _ h => h) (Or.inl ⟨by rfl, ?hy24_21⟩) (by assumption) ?rest24_21
        case hy24_21 =>
          intro w hSw
          try dsimp only at hSw
          go_simp
          try with_reducible rfl
        try simp only [Act.put, List.setIfInBounds_toArray, List.set_cons_zero, List.set_cons_succ]
        refine wpAnyH_take (i := 25) (oi := { dst := some 65, op := Op.nilCheck (Operand.tmp 64), type := 0, pos := "law.go:66", after := #[{ on := 24, ground := Ground.data }, { on := 21, ground := Ground.guard }], guard := some (21, true) }) (v := ?vv25_22) rfl (by kernel_rfl) (by kernel_rfl) (by kernel_rfl) (fun _ _ _ h => h) (Or.inl ⟨by rfl, ?hy25_22⟩) (by assumption) ?rest25_22
        case hy25_22 =>
          intro w hSw
          try dsimp only at hSw
          go_simp
          try with_reducible rfl
        try simp only [Act.put, List.setIfInBounds_toArray, List.set_cons_zero, List.set_cons_succ]
        refine wpAnyH_take (i := 26) (oi := { dst := some 66, op := Op.fieldAddr 40 (Operand.tmp 65) 0, type := 0, pos := "law.go:66", after := #[{ on := 25, ground := Ground.data }, { on := 21, ground := Ground.guard }], guard := some (21, true) }) (v := ?vv26_23) rfl (by kernel_rfl) (by kernel_rfl) (by kernel_rfl) (fun _ _ _ h => h) (Or.inl ⟨by rfl, ?hy26_23⟩) (by assumption) ?rest26_23
        case hy26_23 =>
          intro w hSw
          try dsimp only at hSw
          go_simp
          try with_reducible rfl
        try simp only [Act.put, List.setIfInBounds_toArray, List.set_cons_zero, List.set_cons_succ]
        refine wpAnyH_take (i := 27) (oi := { dst := some 67, op := Op.load 38 (Operand.tmp 66), type := 38, pos := "law.go:66", after := #[{ on := 26, ground := Ground.data }, { on := 21, ground := Ground.guard }], guard := some (21, true) }) (v := ?vv27_24) rfl (by kernel_rfl) (by kernel_rfl) (by kernel_rfl) (fun _ _ _ h => h) (Or.inl ⟨by rfl, ?hy27_24⟩) (by assumption) ?rest27_24
        case hy27_24 =>
          intro w hSw
          try dsimp only at hSw
          go_simp
          try with_reducible rfl
        try simp only [Act.put, List.setIfInBounds_toArray, List.set_cons_zero, List.set_cons_succ]
        refine wpAnyH_ready (rs := [23]) (by kernel_rfl) (by simp) ?_
        refine AllReadyH.cons (o := { dst := some 63, op := Op.call { callee := Callee.value (Operand.func 13), args := #[Operand.tmp 62], argTypes := #[23] }, type := 38, pos := "law.go:66", after := #[{ on := 22, ground := Ground.data }, { on := 21, ground := Ground.chain }, { on := 21, ground := Ground.guard }], guard := some (21, true) }) rfl (fun K hK => ?_) AllReadyH.nil
        go_simp
        go_at_call 13
        (with_reducible refine hall5'.out.mono ?_)
        rintro e w7 ⟨a1, c1, rfl, c7, h7⟩
        go_wp2_with fail
        refine hK.out _ _ c7 (fun hHeld => ?_)
        clear hK K
        try simp only [Act.put, List.setIfInBounds_toArray, List.set_cons_zero, List.set_cons_succ]
        refine wpAnyH_ready (rs := [28]) (by kernel_rfl) (by simp) ?_
        refine AllReadyH.cons (o := { dst := some 68, op := Op.call { callee := Callee.value (Operand.func 12), args := #[Operand.tmp 63, Operand.tmp 67], argTypes := #[38, 38] }, type := 4, pos := "law.go:66", after := #[{ on := 23, ground := Ground.data }, { on := 27, ground := Ground.data }, { on := 23, ground := Ground.chain }, { on := 21, ground := Ground.guard }], guard := some (21, true) }) rfl (fun K hK => ?_) AllReadyH.nil
        go_simp
        go_at_call 12
        (with_reducible refine h7.out.2.mono ?_)
        rintro e w8 ⟨rfl, h8⟩
        go_wp2_with fail
        refine hK.out _ _ ((h8.out.cell (p := ⟨rb, 0, none⟩) (World.block_lt_of_cell? w7 _ c7)).trans c7) (fun hHeld => ?_)
        clear hK K
        try simp only [Act.put, List.setIfInBounds_toArray, List.set_cons_zero, List.set_cons_succ]
        refine wpAnyH_take (i := 29) (oi := { dst := some 69, op := Op.unOp UnOp.not 4 (Operand.tmp 68), type := 4, pos := "law.go:66", after := #[{ on := 28, ground := Ground.data }, { on := 21, ground := Ground.guard }], guard := some (21, true) }) (v := ?vv29_25) rfl (by kernel_rfl) (by kernel_rfl) (by kernel_rfl) (fun _ _ _ h => h) (Or.inl ⟨by rfl, ?hy29_25⟩) (by assumption) ?rest29_25
        case hy29_25 =>
          intro w hSw
          try dsimp only at hSw
          go_simp
          try with_reducible rfl
        try simp only [Act.put, List.setIfInBounds_toArray, List.set_cons_zero, List.set_cons_succ]
        refine wpAnyH_take (i := 30) (oi := { dst := some 70, op := Op.pick (Operand.tmp 61) (Operand.tmp 69) (Operand.const (Value.bool false)), type := 4, pos := "law.go:66", after := #[{ on := 21, ground := Ground.data }, { on := 29, ground := Ground.data }, { on := 18, ground := Ground.guard }], guard := some (18, false) }) (v := ?vv30_26) rfl (by kernel_rfl) (by kernel_rfl) (by kernel_rfl) (fun _ _ _ h => h) (Or.inl ⟨by rfl, ?hy30_26⟩) (by assumption) ?rest30_26
        case hy30_26 =>
          intro w hSw
          try dsimp only at hSw
          go_simp
          try with_reducible rfl
        try simp only [Act.put, List.setIfInBounds_toArray, List.set_cons_zero, List.set_cons_succ]
        refine wpAnyH_take (i := 31) (oi := { dst := some 71, op := Op.pick (Operand.tmp 58) (Operand.const (Value.bool true)) (Operand.tmp 70), type := 4, pos := "law.go:66", after := #[{ on := 18, ground := Ground.data }, { on := 30, ground := Ground.data }], guard := none }) (v := ?vv31_27) rfl (by kernel_rfl) (by kernel_rfl) (by kernel_rfl) (fun _ _ _ h => h) (Or.inl ⟨by rfl, ?hy31_27⟩) (by assumption) ?rest31_27
        case hy31_27 =>
          intro w hSw
          try dsimp only at hSw
          go_simp
          try with_reducible rfl
        try simp only [Act.put, List.setIfInBounds_toArray, List.set_cons_zero, List.set_cons_succ]
        refine wpAnyH_done (by kernel_rfl) ?_ _
        go_wp2
        refine ⟨⟨i + 1, hi'.out, by go_num, ⟨T5, (hM5'.out.below h7.out.1).below h8.out⟩⟩, ?_⟩
        have := hi'.out
        simp [intOf]
        omega
      · have hz1 : ¬ (i : Int) < 100 := by omega
        have hzd : decide ((i : Int) < 100) = false := decide_eq_false hz1
        go_upto_region 8 with (fail)
        refine wp_region_held_drew (S := fun _ => True) (by kernel_rfl) trivial (fun hHeld => ?_)
        refine wpAnyH_take (i := 0) (oi := { dst := some 40, op := Op.move (Operand.tmp 5), type := 23, pos := "law.go:66", after := #[], guard := none }) (v := ?vv0_28) rfl (by kernel_rfl) (by kernel_rfl) (by kernel_rfl) (fun _ _ _ h => h) (Or.inl ⟨by rfl, ?hy0_28⟩) (by assumption) ?rest0_28
        case hy0_28 =>
          intro w hSw
          try dsimp only at hSw
          go_simp
          try with_reducible rfl
        try simp only [Act.put, List.setIfInBounds_toArray, List.set_cons_zero, List.set_cons_succ]
        refine wpAnyH_take (i := 1) (oi := { dst := some 41, op := Op.move (Operand.tmp 7), type := 27, pos := "law.go:66", after := #[], guard := none }) (v := ?vv1_29) rfl (by kernel_rfl) (by kernel_rfl) (by kernel_rfl) (fun _ _ _ h => h) (Or.inl ⟨by rfl, ?hy1_29⟩) (by assumption) ?rest1_29
        case hy1_29 =>
          intro w hSw
          try dsimp only at hSw
          go_simp
          try with_reducible rfl
        try simp only [Act.put, List.setIfInBounds_toArray, List.set_cons_zero, List.set_cons_succ]
        refine wpAnyH_take (i := 2) (oi := { dst := some 42, op := Op.move (Operand.tmp 1), type := 22, pos := "law.go:66", after := #[], guard := none }) (v := ?vv2_30) rfl (by kernel_rfl) (by kernel_rfl) (by kernel_rfl) (fun _ _ _ h => h) (Or.inl ⟨by rfl, ?hy2_30⟩) (by assumption) ?rest2_30
        case hy2_30 =>
          intro w hSw
          try dsimp only at hSw
          go_simp
          try with_reducible rfl
        try simp only [Act.put, List.setIfInBounds_toArray, List.set_cons_zero, List.set_cons_succ]
        refine wpAnyH_take (i := 3) (oi := { dst := some 43, op := Op.move (Operand.tmp 9), type := 3, pos := "law.go:66", after := #[], guard := none }) (v := ?vv3_31) rfl (by kernel_rfl) (by kernel_rfl) (by kernel_rfl) (fun _ _ _ h => h) (Or.inl ⟨by rfl, ?hy3_31⟩) (by assumption) ?rest3_31
        case hy3_31 =>
          intro w hSw
          try dsimp only at hSw
          go_simp
          try with_reducible rfl
        try simp only [Act.put, List.setIfInBounds_toArray, List.set_cons_zero, List.set_cons_succ]
        refine wpAnyH_take (i := 4) (oi := { dst := some 44, op := Op.indexAddr 22 (Operand.tmp 42) (Operand.tmp 43), type := 0, pos := "law.go:66", after := #[{ on := 2, ground := Ground.data }, { on := 3, ground := Ground.data }], guard := none }) (v := ?vv4_32) rfl (by kernel_rfl) (by kernel_rfl) (by kernel_rfl) (fun _ _ _ h => h) (Or.inl ⟨by rfl, ?hy4_32⟩) (by assumption) ?rest4_32
        case hy4_32 =>
          intro w hSw
          try dsimp only at hSw
          go_simp
          try with_reducible rfl
        try simp only [Act.put, List.setIfInBounds_toArray, List.set_cons_zero, List.set_cons_succ]
        refine wpAnyH_ready (rs := [5]) (by kernel_rfl) (by simp) ?_
        refine AllReadyH.cons (o := { dst := some 45, op := Op.load 36 (Operand.tmp 44), type := 36, pos := "law.go:66", after := #[{ on := 4, ground := Ground.data }], guard := none }) rfl (fun K hK => ?_) AllReadyH.nil
        go_simp
        refine hK.out _ _ trivial (fun hHeld => ?_)
        clear hK K
        try simp only [Act.put, List.setIfInBounds_toArray, List.set_cons_zero, List.set_cons_succ]
        refine wpAnyH_ready (rs := [6]) (by kernel_rfl) (by simp) ?_
        refine AllReadyH.cons (o := { dst := some 46, op := Op.call { callee := Callee.value (Operand.func 10), args := #[Operand.tmp 40, Operand.tmp 41, Operand.tmp 45], argTypes := #[23, 27, 36] }, type := 4, pos := "law.go:66", after := #[{ on := 0, ground := Ground.data }, { on := 1, ground := Ground.data }, { on := 5, ground := Ground.data }], guard := none }) rfl (fun K hK => ?_) AllReadyH.nil
        go_simp
        go_at_call 10
        (with_reducible refine hp'.out.mono ?_)
        rintro e w5 ⟨rfl, h5⟩
        obtain ⟨T5, hM5⟩ := h5.out
        obtain ⟨ra, rc, c5, hlen5, hall5⟩ := hM5.looks
        have hlen5' := Lib.hid hlen5
        have hall5' := Lib.hid hall5
        have hM5' := Lib.hid hM5
        clear hM5 h5 hlen5 hall5 x0 x1 x2 x3 x4 x5 x6 x7
        go_wp2_with fail
        refine hK.out _ _ trivial (fun hHeld => ?_)
        clear hK K
        try simp only [Act.put, List.setIfInBounds_toArray, List.set_cons_zero, List.set_cons_succ]
        refine wpAnyH_mono (S' := fun w' => w'.cell? ⟨rb, 0, none⟩ = some (.slice ra T5.length rc)) (fun _ _ => trivial) _ _ _ _ ?_
        clear hHeld
        have hHeld := c5
        refine wpAnyH_take (i := 7) (oi := { dst := some 47, op := Op.unOp UnOp.not 4 (Operand.tmp 46), type := 4, pos := "law.go:66", after := #[{ on := 6, ground := Ground.data }], guard := none }) (v := ?vv7_33) rfl (by kernel_rfl) (by kernel_rfl) (by kernel_rfl) (fun _ _ _ h => h) (Or.inl ⟨by rfl, ?hy7_33⟩) (by assumption) ?rest7_33
        case hy7_33 =>
          intro w hSw
          try dsimp only at hSw
          go_simp
          try with_reducible rfl
        try simp only [Act.put, List.setIfInBounds_toArray, List.set_cons_zero, List.set_cons_succ]
        refine wpAnyH_take (i := 8) (oi := { dst := some 48, op := Op.move (Operand.tmp 47), type := 4, pos := "law.go:66", after := #[{ on := 7, ground := Ground.data }, { on := 6, ground := Ground.chain }], guard := none }) (v := ?vv8_34) rfl (by kernel_rfl) (by kernel_rfl) (by kernel_rfl) (fun _ _ _ h => h) (Or.inl ⟨by rfl, ?hy8_34⟩) (by assumption) ?rest8_34
        case hy8_34 =>
          intro w hSw
          try dsimp only at hSw
          go_simp
          try with_reducible rfl
        try simp only [Act.put, List.setIfInBounds_toArray, List.set_cons_zero, List.set_cons_succ]
        refine wpAnyH_take (i := 9) (oi := { dst := some 49, op := Op.move (Operand.tmp 5), type := 23, pos := "law.go:66", after := #[{ on := 8, ground := Ground.guard }], guard := some (8, false) }) (v := ?vv9_35) rfl (by kernel_rfl) (by kernel_rfl) (by kernel_rfl) (fun _ _ _ h => h) (Or.inl ⟨by rfl, ?hy9_35⟩) (by assumption) ?rest9_35
        case hy9_35 =>
          intro w hSw
          try dsimp only at hSw
          go_simp
          try with_reducible rfl
        try simp only [Act.put, List.setIfInBounds_toArray, List.set_cons_zero, List.set_cons_succ]
        refine wpAnyH_take (i := 11) (oi := { dst := some 51, op := Op.move (Operand.tmp 7), type := 27, pos := "law.go:66", after := #[{ on := 8, ground := Ground.guard }], guard := some (8, false) }) (v := ?vv11_36) rfl (by kernel_rfl) (by kernel_rfl) (by kernel_rfl) (fun _ _ _ h => h) (Or.inl ⟨by rfl, ?hy11_36⟩) (by assumption) ?rest11_36
        case hy11_36 =>
          intro w hSw
          try dsimp only at hSw
          go_simp
          try with_reducible rfl
        try simp only [Act.put, List.setIfInBounds_toArray, List.set_cons_zero, List.set_cons_succ]
        refine wpAnyH_take (i := 12) (oi := { dst := some 52, op := Op.nilCheck (Operand.tmp 51), type := 0, pos := "law.go:66", after := #[{ on := 11, ground := Ground.data }, { on := 8, ground := Ground.guard }], guard := some (8, false) }) (v := ?vv12_37) rfl (by kernel_rfl) (by kernel_rfl) (by kernel_rfl) (fun _ _ _ h => h) (Or.inl ⟨by rfl, ?hy12_37⟩) (by assumption) ?rest12_37
        case hy12_37 =>
          intro w hSw
          try dsimp only at hSw
          go_simp
          try with_reducible rfl
        try simp only [Act.put, List.setIfInBounds_toArray, List.set_cons_zero, List.set_cons_succ]
        refine wpAnyH_take (i := 13) (oi := { dst := some 53, op := Op.fieldAddr 40 (Operand.tmp 52) 0, type := 0, pos := "law.go:66", after := #[{ on := 12, ground := Ground.data }, { on := 8, ground := Ground.guard }], guard := some (8, false) }) (v := ?vv13_38) rfl (by kernel_rfl) (by kernel_rfl) (by kernel_rfl) (fun _ _ _ h => h) (Or.inl ⟨by rfl, ?hy13_38⟩) (by assumption) ?rest13_38
        case hy13_38 =>
          intro w hSw
          try dsimp only at hSw
          go_simp
          try with_reducible rfl
        try simp only [Act.put, List.setIfInBounds_toArray, List.set_cons_zero, List.set_cons_succ]
        refine wpAnyH_take (i := 14) (oi := { dst := some 54, op := Op.load 38 (Operand.tmp 53), type := 38, pos := "law.go:66", after := #[{ on := 13, ground := Ground.data }, { on := 8, ground := Ground.guard }], guard := some (8, false) }) (v := ?vv14_39) rfl (by kernel_rfl) (by kernel_rfl) (by kernel_rfl) (fun _ _ _ h => h) (Or.inl ⟨by rfl, ?hy14_39⟩) (by assumption) ?rest14_39
        case hy14_39 =>
          intro w hSw
          try dsimp only at hSw
          go_simp
          try with_reducible rfl
        try simp only [Act.put, List.setIfInBounds_toArray, List.set_cons_zero, List.set_cons_succ]
        refine wpAnyH_take (i := 15) (oi := { dst := some 55, op := Op.call { callee := Callee.builtin Builtin.len, args := #[Operand.tmp 54], argTypes := #[38] }, type := 3, pos := "law.go:66", after := #[{ on := 14, ground := Ground.data }, { on := 8, ground := Ground.guard }], guard := some (8, false) }) (v := ?vv15_40) rfl (by kernel_rfl) (by kernel_rfl) (by kernel_rfl) (fun _ _ _ h => h) (Or.inl ⟨by rfl, ?hy15_40⟩) (by assumption) ?rest15_40
        case hy15_40 =>
          intro w hSw
          try dsimp only at hSw
          go_simp
          try with_reducible rfl
        try simp only [Act.put, List.setIfInBounds_toArray, List.set_cons_zero, List.set_cons_succ]
        refine wpAnyH_ready (rs := [10]) (by kernel_rfl) (by simp) ?_
        refine AllReadyH.cons (o := { dst := some 50, op := Op.call { callee := Callee.value (Operand.func 11), args := #[Operand.tmp 49], argTypes := #[23] }, type := 3, pos := "law.go:66", after := #[{ on := 9, ground := Ground.data }, { on := 8, ground := Ground.chain }, { on := 8, ground := Ground.guard }], guard := some (8, false) }) rfl (fun K hK => ?_) AllReadyH.nil
        go_simp
        go_at_call 11
        (with_reducible refine hlen5'.out.mono ?_)
        rintro e w6 ⟨rfl, rfl⟩
        go_wp2_with fail
        refine hK.out _ _ c5 (fun hHeld => ?_)
        clear hK K
        try simp only [Act.put, List.setIfInBounds_toArray, List.set_cons_zero, List.set_cons_succ]
        refine wpAnyH_take (i := 16) (oi := { dst := some 56, op := Op.binOp BinOp.neq 3 (Operand.tmp 50) (Operand.tmp 55) 3, type := 4, pos := "law.go:66", after := #[{ on := 10, ground := Ground.data }, { on := 15, ground := Ground.data }, { on := 8, ground := Ground.guard }], guard := some (8, false) }) (v := ?vv16_41) rfl (by kernel_rfl) (by kernel_rfl) (by kernel_rfl) (fun _ _ _ h => h) (Or.inl ⟨by rfl, ?hy16_41⟩) (by assumption) ?rest16_41
        case hy16_41 =>
          intro w hSw
          try dsimp only at hSw
          go_simp
          try with_reducible rfl
        try simp only [Act.put, List.setIfInBounds_toArray, List.set_cons_zero, List.set_cons_succ]
        refine wpAnyH_take (i := 17) (oi := { dst := some 57, op := Op.pick (Operand.tmp 48) (Operand.const (Value.bool true)) (Operand.tmp 56), type := 4, pos := "law.go:66", after := #[{ on := 8, ground := Ground.data }, { on := 16, ground := Ground.data }], guard := none }) (v := ?vv17_42) rfl (by kernel_rfl) (by kernel_rfl) (by kernel_rfl) (fun _ _ _ h => h) (Or.inl ⟨by rfl, ?hy17_42⟩) (by assumption) ?rest17_42
        case hy17_42 =>
          intro w hSw
          try dsimp only at hSw
          go_simp
          try with_reducible rfl
        try simp only [Act.put, List.setIfInBounds_toArray, List.set_cons_zero, List.set_cons_succ]
        refine wpAnyH_take (i := 18) (oi := { dst := some 58, op := Op.move (Operand.tmp 57), type := 4, pos := "law.go:66", after := #[{ on := 17, ground := Ground.data }, { on := 10, ground := Ground.chain }], guard := none }) (v := ?vv18_43) rfl (by kernel_rfl) (by kernel_rfl) (by kernel_rfl) (fun _ _ _ h => h) (Or.inl ⟨by rfl, ?hy18_43⟩) (by assumption) ?rest18_43
        case hy18_43 =>
          intro w hSw
          try dsimp only at hSw
          go_simp
          try with_reducible rfl
        try simp only [Act.put, List.setIfInBounds_toArray, List.set_cons_zero, List.set_cons_succ]
        refine wpAnyH_take (i := 19) (oi := { dst := some 59, op := Op.move (Operand.tmp 9), type := 3, pos := "law.go:66", after := #[{ on := 18, ground := Ground.guard }], guard := some (18, false) }) (v := ?vv19_44) rfl (by kernel_rfl) (by kernel_rfl) (by kernel_rfl) (fun _ _ _ h => h) (Or.inl ⟨by rfl, ?hy19_44⟩) (by assumption) ?rest19_44
        case hy19_44 =>
          intro w hSw
          try dsimp only at hSw
          go_simp
          try with_reducible rfl
        try simp only [Act.put, List.setIfInBounds_toArray, List.set_cons_zero, List.set_cons_succ]
        refine wpAnyH_take (i := 20) (oi := { dst := some 60, op := Op.binOp BinOp.lss 3 (Operand.tmp 59) (Operand.const (Value.int IntKind.i64 100)) 3, type := 4, pos := "law.go:66", after := #[{ on := 19, ground := Ground.data }, { on := 18, ground := Ground.guard }], guard := some (18, false) }) (v := ?vv20_45) rfl (by kernel_rfl) (by kernel_rfl) (by kernel_rfl) (fun _ _ _ h => h) (Or.inl ⟨by rfl, ?hy20_45⟩) (by assumption) ?rest20_45
        case hy20_45 =>
          intro w hSw
          try dsimp only at hSw
          go_simp
          try with_reducible rfl
        try simp only [Act.put, List.setIfInBounds_toArray, List.set_cons_zero, List.set_cons_succ]
        refine wpAnyH_take (i := 21) (oi := { dst := some 61, op := Op.move (Operand.tmp 60), type := 4, pos := "law.go:66", after := #[{ on := 20, ground := Ground.data }, { on := 18, ground := Ground.chain }, { on := 18, ground := Ground.guard }], guard := some (18, false) }) (v := ?vv21_46) rfl (by kernel_rfl) (by kernel_rfl) (by kernel_rfl) (fun _ _ _ h => h) (Or.inl ⟨by rfl, ?hy21_46⟩) (by assumption) ?rest21_46
        case hy21_46 =>
          intro w hSw
          try dsimp only at hSw
          go_simp
          try with_reducible rfl
        try simp only [Act.put, List.setIfInBounds_toArray, List.set_cons_zero, List.set_cons_succ]
        refine wpAnyH_take (i := 22) (oi := { dst := some 62, op := Op.move (Operand.tmp 5), type := 23, pos := "law.go:66", after := #[{ on := 21, ground := Ground.guard }], guard := some (21, true) }) rfl (by kernel_rfl) (by kernel_rfl) (by kernel_rfl) (fun _ _ _ h => h) (Or.inr ⟨by rfl, rfl⟩) (by assumption) ?_
        try simp only [Act.put, List.setIfInBounds_toArray, List.set_cons_zero, List.set_cons_succ]
        refine wpAnyH_take (i := 24) (oi := { dst := some 64, op := Op.move (Operand.tmp 7), type := 27, pos := "law.go:66", after := #[{ on := 21, ground := Ground.guard }], guard := some (21, true) }) rfl (by kernel_rfl) (by kernel_rfl) (by kernel_rfl) (fun _ _ _ h => h) (Or.inr ⟨by rfl, rfl⟩) (by assumption) ?_
        try simp only [Act.put, List.setIfInBounds_toArray, List.set_cons_zero, List.set_cons_succ]
        refine wpAnyH_take (i := 25) (oi := { dst := some 65, op := Op.nilCheck (Operand.tmp 64), type := 0, pos := "law.go:66", after := #[{ on := 24, ground := Ground.data }, { on := 21, ground := Ground.guard }], guard := some (21, true) }) rfl (by kernel_rfl) (by kernel_rfl) (by kernel_rfl) (fun _ _ _ h => h) (Or.inr ⟨by rfl, rfl⟩) (by assumption) ?_
        try simp only [Act.put, List.setIfInBounds_toArray, List.set_cons_zero, List.set_cons_succ]
        refine wpAnyH_take (i := 26) (oi := { dst := some 66, op := Op.fieldAddr 40 (Operand.tmp 65) 0, type := 0, pos := "law.go:66", after := #[{ on := 25, ground := Ground.data }, { on := 21, ground := Ground.guard }], guard := some (21, true) }) rfl (by kernel_rfl) (by kernel_rfl) (by kernel_rfl) (fun _ _ _ h => h) (Or.inr ⟨by rfl, rfl⟩) (by assumption) ?_
        try simp only [Act.put, List.setIfInBounds_toArray, List.set_cons_zero, List.set_cons_succ]
        refine wpAnyH_take (i := 27) (oi := { dst := some 67, op := Op.load 38 (Operand.tmp 66), type := 38, pos := "law.go:66", after := #[{ on := 26, ground := Ground.data }, { on := 21, ground := Ground.guard }], guard := some (21, true) }) rfl (by kernel_rfl) (by kernel_rfl) (by kernel_rfl) (fun _ _ _ h => h) (Or.inr ⟨by rfl, rfl⟩) (by assumption) ?_
        try simp only [Act.put, List.setIfInBounds_toArray, List.set_cons_zero, List.set_cons_succ]
        refine wpAnyH_ready (rs := [23]) (by kernel_rfl) (by simp) ?_
        refine AllReadyH.cons (o := { dst := some 63, op := Op.call { callee := Callee.value (Operand.func 13), args := #[Operand.tmp 62], argTypes := #[23] }, type := 38, pos := "law.go:66", after := #[{ on := 22, ground := Ground.data }, { on := 21, ground := Ground.chain }, { on := 21, ground := Ground.guard }], guard := some (21, true) }) rfl (fun K hK => ?_) AllReadyH.nil
        go_simp
        refine hK.out _ _ c5 (fun hHeld => ?_)
        clear hK K
        try simp only [Act.put, List.setIfInBounds_toArray, List.set_cons_zero, List.set_cons_succ]
        refine wpAnyH_ready (rs := [28]) (by kernel_rfl) (by simp) ?_
        refine AllReadyH.cons (o := { dst := some 68, op := Op.call { callee := Callee.value (Operand.func 12), args := #[Operand.tmp 63, Operand.tmp 67], argTypes := #[38, 38] }, type := 4, pos := "law.go:66", after := #[{ on := 23, ground := Ground.data }, { on := 27, ground := Ground.data }, { on := 23, ground := Ground.chain }, { on := 21, ground := Ground.guard }], guard := some (21, true) }) rfl (fun K hK => ?_) AllReadyH.nil
        go_simp
        refine hK.out _ _ c5 (fun hHeld => ?_)
        clear hK K
        try simp only [Act.put, List.setIfInBounds_toArray, List.set_cons_zero, List.set_cons_succ]
        refine wpAnyH_take (i := 29) (oi := { dst := some 69, op := Op.unOp UnOp.not 4 (Operand.tmp 68), type := 4, pos := "law.go:66", after := #[{ on := 28, ground := Ground.data }, { on := 21, ground := Ground.guard }], guard := some (21, true) }) rfl (by kernel_rfl) (by kernel_rfl) (by kernel_rfl) (fun _ _ _ h => h) (Or.inr ⟨by rfl, rfl⟩) (by assumption) ?_
        try simp only [Act.put, List.setIfInBounds_toArray, List.set_cons_zero, List.set_cons_succ]
        refine wpAnyH_take (i := 30) (oi := { dst := some 70, op := Op.pick (Operand.tmp 61) (Operand.tmp 69) (Operand.const (Value.bool false)), type := 4, pos := "law.go:66", after := #[{ on := 21, ground := Ground.data }, { on := 29, ground := Ground.data }, { on := 18, ground := Ground.guard }], guard := some (18, false) }) (v := ?vv30_47) rfl (by kernel_rfl) (by kernel_rfl) (by kernel_rfl) (fun _ _ _ h => h) (Or.inl ⟨by rfl, ?hy30_47⟩) (by assumption) ?rest30_47
        case hy30_47 =>
          intro w hSw
          try dsimp only at hSw
          go_simp
          try with_reducible rfl
        try simp only [Act.put, List.setIfInBounds_toArray, List.set_cons_zero, List.set_cons_succ]
        refine wpAnyH_take (i := 31) (oi := { dst := some 71, op := Op.pick (Operand.tmp 58) (Operand.const (Value.bool true)) (Operand.tmp 70), type := 4, pos := "law.go:66", after := #[{ on := 18, ground := Ground.data }, { on := 30, ground := Ground.data }], guard := none }) (v := ?vv31_48) rfl (by kernel_rfl) (by kernel_rfl) (by kernel_rfl) (fun _ _ _ h => h) (Or.inl ⟨by rfl, ?hy31_48⟩) (by assumption) ?rest31_48
        case hy31_48 =>
          intro w hSw
          try dsimp only at hSw
          go_simp
          try with_reducible rfl
        try simp only [Act.put, List.setIfInBounds_toArray, List.set_cons_zero, List.set_cons_succ]
        refine wpAnyH_done (by kernel_rfl) ?_ _
        go_wp2
        refine ⟨⟨i + 1, hi'.out, by go_num, ⟨T5, hM5'.out⟩⟩, ?_⟩
        have := hi'.out
        simp [intOf]
        omega
    · obtain rfl : i = len := by omega
      have hz : ¬ (i : Int) < (i : Int) := by omega
      have haw : Hid (Calls Try.prog 14 #[] wr fun e w' => e = .returned (.bool true) ∧ Below w.heap.size w w') := by
        obtain ⟨T, hT⟩ := hM.out
        exact (awake8_any wr).mono fun e w' hh => ⟨hh.1, hT.b.trans (hh.2.mono hT.b.size)⟩
      clear hM
      go_wp2_with (go_at_call 14; refine haw.out.mono ?_; rintro e w' ⟨rfl, hb⟩; have hb' := Lib.hid hb; clear hb)
      go_ret
      exact ⟨rfl, hb'.out⟩
set_option maxHeartbeats 1000000 in
theorem lawLadderPlays (Wd : Int) (hWf : (Lit.int .i64 Wd).wf = true) {w : World} {a : Option Addr} {len cap : Nat} (h : Ops w a len cap) :
    Calls Try.prog 3 #[.int .i64 Wd, .slice a len cap] w fun e w' => e = .returned (.bool true) ∧ Below w.heap.size w w' := by
  by_cases hWd : 1 ≤ Wd ∧ Wd ≤ 16384
  · exact lawLadderPlays_wide Wd hWf hWd h
  · have hW1 : Wd < 1 ∨ 16384 < Wd := by omega
    have hnew := hNew_no w hW1
    have hrn := rNew_no w hW1
    have haw := awake8_any w
    clear h hWd hWf
    go_enter Try.func3, Try.ntmps3
    go_upto_region 3 with (first
      | (go_at_call 8; refine hnew.mono ?_; rintro e w1 ⟨rfl, rfl⟩)
      | (go_at_call 9; refine hrn.mono ?_; rintro e w2 ⟨rfl, rfl⟩))
    clear hnew hrn hW1
    go_wp2
    go_loopw [9] (fun s9 wr => s9 = .int .i64 0 ∧ wr = w) (fun _ _ => 0)
    case atStart => exact ⟨rfl, rfl⟩
    case round =>
      obtain ⟨rfl, rfl⟩ := hrel
      go_wp2_with (go_at_call 14; refine haw.mono ?_; rintro e w2 ⟨rfl, hb2⟩; have hb2' := Lib.hid hb2; clear hb2)
      go_ret
      exact ⟨rfl, hb2'.out⟩
end Go.Proofs.Ytcfpfbemmklbaaa
