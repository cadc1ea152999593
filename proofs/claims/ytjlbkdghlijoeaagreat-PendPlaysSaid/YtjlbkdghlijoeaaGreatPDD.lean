/-
  A Pend that holds the messages of T: its calls.
  A Pend: Turn.
-/
import Derived.Test.YtjlbkdghlijoeaaGreatPDB
import Derived.LoopTactic
namespace Go.Proofs.YtjlbkdghlijoeaaGreat
open Go.ChangeShapes Go.WideShapes Go.ChangeAt Go.Shelf Go.RowKit Go.Lib Go.Sort Go.Deep Go.Maps
set_option linter.unusedVariables false

theorem CStep.belowB {w w' : World} {S S' : Nat → Prop} {B : Nat} (h : CStep w w' S S') (hS : ∀ k, S k → B ≤ k) (hB : B ≤ w.heap.size) : Below B w w' ∧ ∀ k, S' k → B ≤ k :=
  ⟨h.1.below (fun k _ e => hS k e) hB, fun k hk => by
    rcases h.2 k hk with e | e
    · exact hS k e
    · omega⟩
theorem Msgs.lt_of {w : World} {a : Option Addr} {len cap : Nat} {T : List M} (h : Msgs w a len cap T) (b : Nat) (e : a = some ⟨b, 0, none⟩) (h0 : 0 < len) : b < w.heap.size := by
  rcases h.2.2.2.2 with h1 | ⟨b', off', e', hm⟩
  · omega
  · rw [e] at e'
    cases e'
    exact (hm 0 h0).1

/-- A Pend's one cell. -/
def PRow (w : World) (pb K hb : Nat) : Prop := w.heap[pb]? = some (.cells #[.iface (tyK K) (.pointer (some ⟨hb, 0, none⟩))] 59 (0, 0))
theorem PRow.c0 {w : World} {pb K hb : Nat} (h : PRow w pb K hb) : w.cell? ⟨pb, 0, none⟩ = some (.iface (tyK K) (.pointer (some ⟨hb, 0, none⟩))) := by unfold PRow at h; simp [World.cell?, h]
theorem PRow.fz {w : World} {pb K hb : Nat} (h : PRow w pb K hb) : w.frozen? ⟨pb, 0, none⟩ = false := by unfold PRow at h; simp [World.frozen?, h]
theorem PRow.lt {w : World} {pb K hb : Nat} (h : PRow w pb K hb) : pb < w.heap.size := (Array.getElem?_eq_some_iff.1 h).1
/-- A Pend of the kind K that holds T; its blocks are among those of S. -/
def PAt (w : World) (pb K n : Nat) (S : Nat → Prop) (T : List M) : Prop := ∃ hb Q, PRow w pb K hb ∧ QK w K hb n Q T ∧ ¬ Q pb ∧ (∀ k, Q k → S k) ∧ S pb ∧ ∀ k, S k → k < w.heap.size
section
variable {w w' : World} {pb K hb n n' : Nat} {S S' Q Q' : Nat → Prop} {T T' : List M}
theorem PAt.kept {X : Nat → Prop} (h : PAt w pb K n S T) (hk : KeptOff X w w') (hn : ∀ k, S k → ¬ X k) : PAt w' pb K n S T := by
  obtain ⟨hb, Q, h1, h2, h3, h4, h5, h6⟩ := h
  exact ⟨hb, Q, (hk.block pb h1.lt (hn pb h5)).trans h1, h2.kept hk (fun k e => hn k (h4 k e)), h3, h4, h5, fun k e => Nat.lt_of_lt_of_le (h6 k e) hk.size⟩
theorem PAt.below (h : PAt w pb K n S T) (hb' : Below w.heap.size w w') : PAt w' pb K n S T := h.kept (X := fun _ => False) (.of_below hb') (fun _ _ e => e)
theorem PAt.lt (h : PAt w pb K n S T) {k : Nat} (hk : S k) : k < w.heap.size := by obtain ⟨hb, Q, h1, h2, h3, h4, h5, h6⟩ := h; exact h6 k hk
theorem PAt.own (h : PAt w pb K n S T) : S pb := by obtain ⟨hb, Q, h1, h2, h3, h4, h5, h6⟩ := h; exact h5
theorem PAt.o (h : PAt w pb K n S T) : InOrder ltM T := by obtain ⟨hb, Q, h1, h2, h3, h4, h5, h6⟩ := h; exact h2.o
theorem PAt.u (h : PAt w pb K n S T) : Unlike T := by obtain ⟨hb, Q, h1, h2, h3, h4, h5, h6⟩ := h; exact h2.u
theorem PAt.fits (h : PAt w pb K n S T) : ∀ m ∈ T, m.fits := by obtain ⟨hb, Q, h1, h2, h3, h4, h5, h6⟩ := h; exact h2.fits
theorem PAt.small (h : PAt w pb K n S T) : T.length ≤ 16384 := by obtain ⟨hb, Q, h1, h2, h3, h4, h5, h6⟩ := h; exact h2.small
theorem PAt.mono (h : PAt w pb K n S T) (hn : n ≤ n') : PAt w pb K n' S T := by
  obtain ⟨hb, Q, h1, h2, h3, h4, h5, h6⟩ := h
  exact ⟨hb, Q, h1, h2.mono hn, h3, h4, h5, h6⟩
theorem PAt.step (h1 : PRow w pb K hb) (h3 : ¬ Q pb) (h4 : ∀ k, Q k → S k) (h5 : S pb) (h6 : ∀ k, S k → k < w.heap.size) (h : QK w' K hb n' Q' T') (hs : CStep w w' Q Q') : ∃ S', PAt w' pb K n' S' T' ∧ CStep w w' S S' := by
  have hsz := hs.1.size
  have hlt := h1.lt
  refine ⟨fun k => S k ∨ (w.heap.size ≤ k ∧ k < w'.heap.size), ⟨hb, Q', (hs.1.block pb h1.lt h3).trans h1, h, fun e => ?_, fun k e => ?_, .inl h5, fun k e => ?_⟩, hs.1.mono (fun k _ e => h4 k e), fun k hk => hk.imp id (fun e => e.1)⟩
  · rcases hs.2 pb e with e2 | e2
    · exact h3 e2
    · omega
  · rcases hs.2 k e with e2 | e2
    · exact .inl (h4 k e2)
    · exact .inr ⟨e2, h.lt e⟩
  · rcases e with e | e
    · have := h6 k e; omega
    · exact e.2
end
section
variable {w : World} {pb K n : Nat} {S : Nat → Prop} {T : List M}
theorem PAt.kindLt (h : PAt w pb K n S T) : K = 0 ∨ K = 1 ∨ K = 2 := by obtain ⟨hb, Q, h1, h2, _⟩ := h; exact h2.kind
theorem pdMade_any (h : PAt w pb K n S T) : Calls Tryz.prog 28 #[.pointer (some ⟨pb, 0, none⟩)] w fun e w' => e = .returned (.bool true) ∧ w = w' := by
  obtain ⟨hb, Q, h1, _⟩ := h
  exact pdMade_ok h1.c0
theorem pdKind_any (h : PAt w pb K n S T) : Calls Tryz.prog 9 #[.pointer (some ⟨pb, 0, none⟩)] w fun e w' => e = .returned (.int .i64 K) ∧ w = w' := by
  obtain ⟨hb, Q, h1, h2, _⟩ := h
  exact pdKind_of h2.kind h1.c0
theorem pdLen_any (h : PAt w pb K n S T) : Calls Tryz.prog 8 #[.pointer (some ⟨pb, 0, none⟩)] w fun e w' => e = .returned (.int .i64 T.length) ∧ w = w' := by
  obtain ⟨hb, Q, h1, h2, _⟩ := h
  have hc := kLen h2
  exact pdLen_of h1.c0 (leadsLen h2.kind) hc
theorem pdAll_any (h : PAt w pb K n S T) : Calls Tryz.prog 11 #[.pointer (some ⟨pb, 0, none⟩)] w fun e w' => ∃ (a' : Option Addr) (c' : Nat), e = .returned (.slice a' T.length c') ∧ Hid (Msgs w' a' T.length c' T ∧ Below w.heap.size w w' ∧ FreshA w.heap.size T.length a') := by
  obtain ⟨hb, Q, h1, h2, _⟩ := h
  have hc := kAll h2
  exact pdAll_of h1.c0 (leadsAll h2.kind) (Q := fun a' c' w' => Msgs w' a' T.length c' T ∧ Below w.heap.size w w' ∧ FreshA w.heap.size T.length a') hc
theorem pdPush_any (h : PAt w pb K n S T) (m : M) (hm : m.fits) (hn : n < maxLen) : Calls Tryz.prog 13 #[.pointer (some ⟨pb, 0, none⟩), m.val] w fun e w' => e = .returned (.int .i64 (pushC T m)) ∧ ∃ S', PAt w' pb K (n + 1) S' (pushT T m) ∧ CStep w w' S S' := by
  obtain ⟨hb, Q, h1, h2, h3, h4, h5, h6⟩ := h
  have hc := fun W (hb' : Below w.heap.size w W) => kPush (h2.below hb') m hm hn
  have key : Calls Tryz.prog 13 #[.pointer (some ⟨pb, 0, none⟩), m.val] w fun e w' => e = .returned (.int .i64 (pushC T m)) ∧ ∃ W, Below w.heap.size w W ∧ ∃ Q', QK w' K hb (n + 1) Q' (pushT T m) ∧ CStep W w' Q Q' := by
    exact pdPush_of h1.c0 h1.lt (leadsPush h2.kind) m (R := fun W w' => ∃ Q', QK w' K hb (n + 1) Q' (pushT T m) ∧ CStep W w' Q Q') hc
  exact key.mono fun e w' ⟨he, W, hW, Q', q1, q2⟩ => ⟨he, PAt.step h1 h3 h4 h5 h6 q1 ((CStep.of_below hW).trans q2)⟩
theorem pdFirst_any (h : PAt w pb K n S T) : Calls Tryz.prog 20 #[.pointer (some ⟨pb, 0, none⟩)] w fun e w' => e = .returned (.tuple #[(T.headD zeroM).val, .int .i64 (if T = [] then 6 else 0)]) ∧ ∃ S', PAt w' pb K n S' T ∧ CStep w w' S S' := by
  obtain ⟨hb, Q, h1, h2, h3, h4, h5, h6⟩ := h
  have hQ : ∀ k, Q k → k < w.heap.size := fun k e => h6 k (h4 k e)
  have hc : ∀ W, Below w.heap.size w W → Calls Tryz.prog (fFirst K) #[.pointer (some ⟨hb, 0, none⟩)] W fun e w' => e = .returned (.tuple #[(T.headD zeroM).val, .int .i64 (if T = [] then 6 else 0)]) ∧ ∃ Q', QK w' K hb n Q' T ∧ CStep W w' Q Q' := fun W hb' => (kFirst (h2.below hb')).mono fun e w' hh => ⟨hh.1, Q, (h2.below hb').below hh.2, .of_below hh.2⟩
  have key : Calls Tryz.prog 20 #[.pointer (some ⟨pb, 0, none⟩)] w fun e w' => e = .returned (.tuple #[(T.headD zeroM).val, .int .i64 (if T = [] then 6 else 0)]) ∧ ∃ Q', QK w' K hb n Q' T ∧ CStep w w' Q Q' := by
    exact pdFirst_of h1.c0 h1.lt hQ (leadsFirst h2.kind) _ hc
  exact key.mono fun e w' ⟨he, Q', q1, q2⟩ => ⟨he, PAt.step h1 h3 h4 h5 h6 q1 q2⟩
theorem pdPop_any (h : PAt w pb K n S T) : Calls Tryz.prog 15 #[.pointer (some ⟨pb, 0, none⟩)] w fun e w' => e = .returned (.tuple #[(T.headD zeroM).val, .int .i64 (if T = [] then 6 else 0)]) ∧ ∃ S', PAt w' pb K n S' T.tail ∧ CStep w w' S S' := by
  obtain ⟨hb, Q, h1, h2, h3, h4, h5, h6⟩ := h
  have hQ : ∀ k, Q k → k < w.heap.size := fun k e => h6 k (h4 k e)
  have hc := fun W (hb' : Below w.heap.size w W) => kPop (h2.below hb')
  have key : Calls Tryz.prog 15 #[.pointer (some ⟨pb, 0, none⟩)] w fun e w' => e = .returned (.tuple #[(T.headD zeroM).val, .int .i64 (if T = [] then 6 else 0)]) ∧ ∃ Q', QK w' K hb n Q' T.tail ∧ CStep w w' Q Q' := by
    exact pdPop_of h1.c0 h1.lt hQ (leadsPop h2.kind) _ hc
  exact key.mono fun e w' ⟨he, Q', q1, q2⟩ => ⟨he, PAt.step h1 h3 h4 h5 h6 q1 q2⟩
theorem pdCut_none (h : PAt w pb K n S T) {f u : Int} (hf : (Lit.int .i64 f).wf = true) (hu : (Lit.int .i64 u).wf = true) (hs : hasS T f u = false) : Calls Tryz.prog 23 #[.pointer (some ⟨pb, 0, none⟩), .int .i64 f, .int .i64 u] w fun e w' => e = .returned (.tuple #[zeroM.val, .int .i64 6]) ∧ ∃ S', PAt w' pb K n S' T ∧ CStep w w' S S' := by
  obtain ⟨hb, Q, h1, h2, h3, h4, h5, h6⟩ := h
  have hQ : ∀ k, Q k → k < w.heap.size := fun k e => h6 k (h4 k e)
  have hc : ∀ W, Below w.heap.size w W → Calls Tryz.prog (fCut K) #[.pointer (some ⟨hb, 0, none⟩), .int .i64 f, .int .i64 u] W fun e w' => e = .returned (.tuple #[zeroM.val, .int .i64 6]) ∧ ∃ Q', QK w' K hb n Q' T ∧ CStep W w' Q Q' := fun W hb' => (kCut_none (h2.below hb') hf hu hs).mono fun e w' hh => ⟨hh.1, Q, (h2.below hb').below hh.2, .of_below hh.2⟩
  have key : Calls Tryz.prog 23 #[.pointer (some ⟨pb, 0, none⟩), .int .i64 f, .int .i64 u] w fun e w' => e = .returned (.tuple #[zeroM.val, .int .i64 6]) ∧ ∃ Q', QK w' K hb n Q' T ∧ CStep w w' Q Q' := by
    exact pdCut_of h1.c0 h1.lt hQ (leadsCut h2.kind) f u _ hc
  exact key.mono fun e w' ⟨he, Q', q1, q2⟩ => ⟨he, PAt.step h1 h3 h4 h5 h6 q1 q2⟩
theorem pdCut_some {x : M} {T' : List M} (h : PAt w pb K n S T) (hp : (x :: T').Perm T) (hO : InOrder ltM T') : Calls Tryz.prog 23 #[.pointer (some ⟨pb, 0, none⟩), .int .i64 x.k.f, .int .i64 x.u] w fun e w' => e = .returned (.tuple #[x.val, .int .i64 0]) ∧ ∃ S', PAt w' pb K n S' T' ∧ CStep w w' S S' := by
  obtain ⟨hb, Q, h1, h2, h3, h4, h5, h6⟩ := h
  have hQ : ∀ k, Q k → k < w.heap.size := fun k e => h6 k (h4 k e)
  have hc := fun W (hb' : Below w.heap.size w W) => kCut_some (h2.below hb') hp hO
  have key : Calls Tryz.prog 23 #[.pointer (some ⟨pb, 0, none⟩), .int .i64 x.k.f, .int .i64 x.u] w fun e w' => e = .returned (.tuple #[x.val, .int .i64 0]) ∧ ∃ Q', QK w' K hb n Q' T' ∧ CStep w w' Q Q' := by
    exact pdCut_of h1.c0 h1.lt hQ (leadsCut h2.kind) _ _ _ hc
  exact key.mono fun e w' ⟨he, Q', q1, q2⟩ => ⟨he, PAt.step h1 h3 h4 h5 h6 q1 q2⟩
end

/-- New of a kind that may be. -/
theorem pdNew_any (w : World) {kd : Int} {K : Nat} (hk : KindOf kd = some K) : Calls Tryz.prog 5 #[.int .i64 kd] w fun e w' => ∃ pb, e = .returned (.tuple #[.pointer (some ⟨pb, 0, none⟩), .int .i64 0]) ∧ Hid (PAt w' pb K 0 (fun k => w.heap.size ≤ k ∧ k < w'.heap.size) [] ∧ Below w.heap.size w w') := by
  have he := kEmpty w hk
  clear hk
  go_enter Tryz.func5, Tryz.ntmps5
  go_wp2_with (go_at_call 16; (with_reducible refine he.mono ?_); rintro e w1 ⟨hb, Q, rfl, hq⟩)
  go_ret2
  obtain ⟨h1, h2, h3⟩ := hq.out
  have hsz := h2.size
  have hal : Below w1.heap.size w1 (w1.alloc (.cells #[.iface (tyK K) (.pointer (some ⟨hb, 0, none⟩))] 59)) := (Below.refl _ w1).alloc (Nat.le_refl _) _
  refine ⟨_, rfl, ⟨hb, Q, heap_alloc_new w1 _, h1.below hal, fun e => ?_, fun k e => ⟨h3 k e, ?_⟩, ⟨hsz, by simp⟩, fun k e => e.2⟩, h2.trans (hal.mono hsz)⟩
  · have := h1.lt e
    omega
  · have := h1.lt e
    have := hal.size
    omega
theorem pdNew_no (w : World) {kd : Int} (hk : KindOf kd = none) : Calls Tryz.prog 5 #[.int .i64 kd] w fun e w' => e = .returned (.tuple #[.pointer none, .int .i64 1]) ∧ w = w' := by
  have he := kEmpty_no w hk
  clear hk
  go_enter Tryz.func5, Tryz.ntmps5
  go_wp2_with (go_at_call 16; (with_reducible refine he.mono ?_); rintro e w1 ⟨rfl, rfl⟩)
  go_ret2
  exact ⟨rfl, rfl⟩
end Go.Proofs.YtjlbkdghlijoeaaGreat
namespace Go.Proofs.YtjlbkdghlijoeaaGreat
open Go.ChangeShapes Go.WideShapes Go.ChangeAt Go.Shelf Go.RowKit Go.Lib Go.Sort Go.Deep Go.Maps
set_option linter.unusedVariables false

/-- The messages of a queue, put into an empty one in their order, stand as they stood. -/
theorem take_push {T : List M} (hO : InOrder ltM T) (hU : Unlike T) (hl : T.length ≤ 16384) {i : Nat} (hi : i < T.length) : pushT (T.take i) (T.getD i default) = T.take (i + 1) := by
  have e0 : T.getD i default = T[i] := by simp [List.getD_eq_getElem?_getD, hi]
  rw [e0]
  have hsp : T.take (i + 1) = T.take i ++ [T[i]] := (List.take_append_getElem hi).symm
  have hO1 : InOrder ltM (T.take (i + 1)) := List.Pairwise.sublist (List.take_sublist _ _) hO
  have hU1 : Unlike (T.take (i + 1)) := List.Pairwise.sublist (List.take_sublist _ _) hU
  have hU0 : Unlike (T.take i) := List.Pairwise.sublist (List.take_sublist _ _) hU
  have hO0 : InOrder ltM (T.take i) := List.Pairwise.sublist (List.take_sublist _ _) hO
  have hn : hasS (T.take i) T[i].k.f T[i].u = false := by
    cases e : hasS (T.take i) T[i].k.f T[i].u with
    | false => rfl
    | true =>
      obtain ⟨m, hm, h1, h2⟩ := hasS_iff.1 e
      rw [hsp] at hU1
      exact absurd ⟨h1, h2⟩ ((List.pairwise_append.1 hU1).2.2 m hm T[i] (by simp))
  have hlt : (T.take i).length < 16384 := by simp; omega
  unfold pushT
  rw [if_neg (by rw [hn]; simp), if_neg (by omega)]
  obtain ⟨p1, p2, p3, p4⟩ := put_list hO0 hU0 hn
  exact sorted_unique (p3.trans (by rw [hsp])) p1 hO1 p2

/-- What stands behind i rounds of Turn's loop. -/
def TurnIn (w : World) (T : List M) (K hb : Nat) (a : Option Addr) (c i : Nat) (wr : World) : Prop :=
  ∃ Q, QK wr K hb i Q (T.take i) ∧ Msgs wr a T.length c T ∧ (T.length = 0 ∨ ∃ b, a = some ⟨b, 0, none⟩ ∧ ¬ Q b) ∧ (∀ k, Q k → w.heap.size ≤ k) ∧ Below w.heap.size w wr
theorem TurnIn.b {w wr : World} {T : List M} {K hb c i : Nat} {a : Option Addr} (h : TurnIn w T K hb a c i wr) : Below w.heap.size w wr := by
  obtain ⟨Q, h1, h2, h3, h4, h5⟩ := h
  exact h5
theorem TurnIn.msgs {w wr : World} {T : List M} {K hb c i : Nat} {a : Option Addr} (h : TurnIn w T K hb a c i wr) : Msgs wr a T.length c T := by
  obtain ⟨Q, h1, h2, h3, h4, h5⟩ := h
  exact h2
theorem TurnIn.step {w wr : World} {T : List M} {K hb c i : Nat} {a : Option Addr} (h : TurnIn w T K hb a c i wr) (hO : InOrder ltM T) (hU : Unlike T) (hl : T.length ≤ 16384) (hi : i < T.length) (hf : ∀ m ∈ T, m.fits) :
    ∀ W, Below wr.heap.size wr W → Calls Tryz.prog (fPush K) #[.pointer (some ⟨hb, 0, none⟩), (T.getD i default).val] W fun e w' => (∃ r, e = .returned (.int .i64 r)) ∧ TurnIn w T K hb a c (i + 1) w' := by
  obtain ⟨Q, h1, h2, h3, h4, h5⟩ := h
  intro W hW
  have hf1 : (T.getD i default).fits := by
    rw [List.getD_eq_getElem?_getD, List.getElem?_eq_getElem hi]
    exact hf _ (List.getElem_mem hi)
  refine (kPush (h1.below hW) (T.getD i default) hf1 (by unfold maxLen; omega)).mono ?_
  rintro e w' ⟨he, Q', q1, q2⟩
  rw [take_push hO hU hl hi] at q1
  have hbW := h5.trans (hW.mono h5.size)
  have hsb := q2.belowB h4 hbW.size
  have h2W := h2.below hW
  exact ⟨⟨_, he⟩, Q', q1, h2W.kept q2.1 (h3.imp id (fun ⟨b, e, h⟩ => ⟨b, 0, e, h⟩)), h3.imp id (fun ⟨b, e, h⟩ => ⟨b, e, fun hs => (q2.2 b hs).elim h (fun e2 => by have := h2W.lt_of b e (by omega); omega)⟩), hsb.2, hbW.trans hsb.1⟩
/-- A cell of a Pend rewritten: it is the new queue's. -/
theorem TurnIn.fin {w wr : World} {pb K K' hb hb' n c : Nat} {S Q : Nat → Prop} {T : List M} {a : Option Addr} (h1 : PRow w pb K hb) (h5 : S pb) (h6 : ∀ k, S k → k < w.heap.size) (h : TurnIn w T K' hb' a c T.length wr) (hl : T.length ≤ 16384) :
    wr.cell? ⟨pb, 0, none⟩ = some (.iface (tyK K) (.pointer (some ⟨hb, 0, none⟩))) ∧ wr.frozen? ⟨pb, 0, none⟩ = false ∧ ∃ S', PAt (wr.setCell ⟨pb, 0, none⟩ (.iface (tyK K') (.pointer (some ⟨hb', 0, none⟩)))) pb K' (max n 16384) S' T ∧ CStep w (wr.setCell ⟨pb, 0, none⟩ (.iface (tyK K') (.pointer (some ⟨hb', 0, none⟩)))) S S' := by
  obtain ⟨Q, q1, q2, q3, q4, q5⟩ := h
  have hlt := h1.lt
  have hrow : PRow wr pb K hb := (q5.block pb hlt).trans h1
  have hk := KeptOff.set wr ⟨pb, 0, none⟩ (.iface (tyK K') (.pointer (some ⟨hb', 0, none⟩)))
  have hsz := hk.size
  have hsz2 := q5.size
  have hnp : ¬ Q pb := fun e => by have := q4 pb e; omega
  rw [List.take_length] at q1
  refine ⟨hrow.c0, hrow.fz, fun k => S k ∨ (w.heap.size ≤ k ∧ k < (wr.setCell ⟨pb, 0, none⟩ (.iface (tyK K') (.pointer (some ⟨hb', 0, none⟩)))).heap.size), ⟨hb', Q, ?_, (q1.kept hk (fun k e e2 => hnp (by have e3 : k = pb := e2; rw [e3] at e; exact e))).mono (by omega), hnp, fun k e => .inr ⟨q4 k e, ?_⟩, .inl h5, fun k e => ?_⟩, ((KeptOff.of_below q5).then_new hk (fun k hk e => (e : k = pb) ▸ h5)), fun k e => e.imp id (fun e => e.1)⟩
  · unfold PRow at hrow ⊢
    simp [World.setCell, Array.getElem?_modify, hrow]
  · have := q1.lt e
    omega
  · rcases e with e | e
    · have := h6 k e
      omega
    · exact e.2

set_option maxHeartbeats 4000000 in
set_option maxRecDepth 100000 in
theorem pdTurn_any {w : World} {pb K n : Nat} {S : Nat → Prop} {T : List M} (h : PAt w pb K n S T) {kd : Int} {K' : Nat} (hk : KindOf kd = some K') :
    Calls Tryz.prog 14 #[.pointer (some ⟨pb, 0, none⟩), .int .i64 kd] w fun e w' => e = .returned (.int .i64 0) ∧ ∃ S', PAt w' pb K' (max n 16384) S' T ∧ CStep w w' S S' := by
  have hmd := pdMade_any h
  have hkd := pdKind_any h
  have hK' : kd = (K' : Int) := by
    unfold KindOf at hk
    split at hk
    · simp at hk; omega
    · split at hk
      · simp at hk; omega
      · split at hk
        · simp at hk; omega
        · simp at hk
  by_cases hsame : kd = (K : Int)
  · obtain rfl : K' = K := by omega
    have hfin : Hid (∃ S', PAt w pb K' (max n 16384) S' T ∧ CStep w w S S') := ⟨S, h.mono (Nat.le_max_left _ _), .of_below (Below.refl _ _)⟩
    subst hsame
    clear h hk
    go_enter Tryz.func14, Tryz.ntmps14
    go_wp2_with (first
      | (go_at_call 28; (with_reducible refine hmd.mono ?_); rintro e w1 ⟨rfl, rfl⟩)
      | (go_at_call 9; (with_reducible refine hkd.mono ?_); rintro e w1 ⟨rfl, rfl⟩))
    go_ret
    exact ⟨rfl, hfin.out⟩
  · have hem := kEmpty w hk
    have hO := Lib.hid h.o
    have hU := Lib.hid h.u
    have hfit := Lib.hid h.fits
    have hsm := h.small
    obtain ⟨hb, Q, h1, h2, h3, h4, h5, h6⟩ := h
    have hemp : Hid (∀ w1 hb' Q', QK w1 K' hb' 0 Q' [] → Below w.heap.size w w1 → (∀ k, Q' k → w.heap.size ≤ k) → w1.cell? ⟨pb, 0, none⟩ = some (.iface (tyK K) (.pointer (some ⟨hb, 0, none⟩))) ∧
        Calls Tryz.prog (fAll K) #[.pointer (some ⟨hb, 0, none⟩)] w1 fun e w2 => ∃ (a' : Option Addr) (c' : Nat), e = .returned (.slice a' T.length c') ∧ Hid (TurnIn w T K' hb' a' c' 0 w2)) := by
      intro w1 hb' Q' g1 g2 g3
      refine ⟨(g2.cell (p := ⟨pb, 0, none⟩) h1.lt).trans h1.c0, (kAll (h2.below g2)).mono ?_⟩
      rintro e w2 ⟨a', c', he, hh⟩
      obtain ⟨m1, m2, m3⟩ := hh.out
      refine ⟨a', c', he, Q', g1.below m2, m1, ?_, g3, g2.trans (m2.mono g2.size)⟩
      rcases m3 with m3 | ⟨g, e, m3⟩
      · exact .inl m3
      · exact .inr ⟨g, e, fun e2 => by have := g1.lt e2; omega⟩
    have hend : Hid (∀ wr hb' a c, TurnIn w T K' hb' a c T.length wr → wr.cell? ⟨pb, 0, none⟩ = some (.iface (tyK K) (.pointer (some ⟨hb, 0, none⟩))) ∧ wr.frozen? ⟨pb, 0, none⟩ = false ∧ ∃ S', PAt (wr.setCell ⟨pb, 0, none⟩ (.iface (tyK K') (.pointer (some ⟨hb', 0, none⟩)))) pb K' (max n 16384) S' T ∧ CStep w (wr.setCell ⟨pb, 0, none⟩ (.iface (tyK K') (.pointer (some ⟨hb', 0, none⟩)))) S S') :=
      fun wr hb' a c ht => TurnIn.fin (Q := Q) h1 h5 h6 ht hsm
    obtain ⟨ha1, ha2⟩ := leadsAll h2.kind
    obtain ⟨hp1, hp2⟩ := leadsPush (show K' = 0 ∨ K' = 1 ∨ K' = 2 by
      unfold KindOf at hk
      split at hk
      · simp at hk; omega
      · split at hk
        · simp at hk; omega
        · split at hk
          · simp at hk; omega
          · simp at hk)
    have hstep : Hid (∀ hb' a c i wr, TurnIn w T K' hb' a c i wr → i < T.length → ∀ W, Below wr.heap.size wr W → Calls Tryz.prog (fPush K') #[.pointer (some ⟨hb', 0, none⟩), (T.getD i default).val] W fun e w' => (∃ r, e = .returned (.int .i64 r)) ∧ TurnIn w T K' hb' a c (i + 1) w') :=
      fun hb' a c i wr ht hi => ht.step hO.out hU.out hsm hi hfit.out
    generalize hN : T.length = N at *
    generalize tyK K = ty at *
    generalize fAll K = fA at *
    generalize tyK K' = ty' at *
    generalize fPush K' = fP at *
    have hN' := Lib.hid hN
    have hm63 : N ≤ 9223372036854775807 := by omega
    have hem' := Lib.hid hem
    clear h1 h2 h3 h4 h5 h6 hk hK' hN hO hU hfit hem
    go_enter Tryz.func14, Tryz.ntmps14
    go_wp2_with (first
      | (go_at_call 28; (with_reducible refine hmd.mono ?_); rintro e w1 ⟨rfl, rfl⟩)
      | (go_at_call 9; (with_reducible refine hkd.mono ?_); rintro e w1 ⟨rfl, rfl⟩)
      | (go_at_call 16; (with_reducible refine hem'.out.mono ?_); rintro e w1 ⟨hb', Q', rfl, hq⟩; obtain ⟨c1, hall⟩ := hemp.out w1 hb' Q' hq.out.1 hq.out.2.1 hq.out.2.2; clear hq)
      | ((with_reducible refine hall.mono ?_); rintro e w2 ⟨a', c', rfl, hT0⟩))
    clear hmd hkd hem' hall hemp
    go_loopw [32] (fun s32 wr => ∃ i : Nat, i ≤ N ∧ s32 = .int .i64 i ∧ Hid (TurnIn w T K' hb' a' c' i wr)) (fun s32 _ => N - (intOf s32).toNat)
    case atStart => exact ⟨0, Nat.zero_le _, rfl, hT0⟩
    case round =>
      obtain ⟨i, hi, rfl, hT⟩ := hrel
      clear hT0
      by_cases hiN : i < N
      · have hz : (i : Int) < (N : Int) := by omega
        have hM := hT.out.msgs
        rw [hN'.out] at hM
        obtain ⟨b, off, rfl, hma⟩ : ∃ b off, a' = some ⟨b, off, none⟩ ∧ ∀ i, i < N → MsgAt wr b (off + i * 7) (T.getD i default) := by
          rcases hM.2.2.2.2 with h0 | hx
          · omega
          · exact hx
        have hcap : N ≤ c' := hM.2.1
        have hmk := hma i hiN
        have hps := hstep.out hb' _ c' i wr hT.out hiN
        clear hma hM
        generalize T.getD i default = m at hmk hps
        obtain ⟨-, x0, x1, x2, x3, x4, x5, x6⟩ := hmk
        have hbx := BoxM.mk wr m
        have hb2 : Hid (Below wr.heap.size wr (wr.alloc (.cells m.cells 34))) := (Below.refl _ wr).alloc (Nat.le_refl _) _
        obtain ⟨W2, hW2⟩ : ∃ W2, W2 = wr.alloc (.cells m.cells 34) := ⟨_, rfl⟩
        rw [← hW2] at hbx hb2
        obtain ⟨-, y0, y1, y2, y3, y4, y5, y6⟩ := hbx.at
        simp only [Nat.zero_add] at y0 y1 y2 y3 y4 y5 y6
        have hpu := hps W2 hb2.out
        simp only [M.cells] at hW2
        simp only [M.val] at hpu
        have hpu' := Lib.hid hpu
        clear hps hbx hb2 hpu hstep
        go_upto_region 11 with (fail)
        rw [← hW2]
        clear hW2
        go_wp2_with ((with_reducible refine hpu'.out.mono ?_); rintro e w5 ⟨⟨r5, rfl⟩, hT5⟩; have hT5' := Lib.hid hT5; clear hT5)
        go_roundw
        case rel => exact ⟨i + 1, by omega, by go_num, hT5'⟩
        case measure => simp [intOf]; omega
      · obtain rfl : i = N := by omega
        have hz : ¬ (i : Int) < (i : Int) := by omega
        have hTe := hT.out
        obtain ⟨c2, fz2, hfin⟩ := hend.out wr hb' a' c' hTe
        have hfin' := Lib.hid hfin
        clear hfin hend hstep hTe hT
        go_wp2
        go_ret
        exact ⟨rfl, hfin'.out⟩
theorem pdTurn_no {w : World} {pb K n : Nat} {S : Nat → Prop} {T : List M} (h : PAt w pb K n S T) {kd : Int} (hk : KindOf kd = none) :
    Calls Tryz.prog 14 #[.pointer (some ⟨pb, 0, none⟩), .int .i64 kd] w fun e w' => e = .returned (.int .i64 1) ∧ w = w' := by
  have hmd := pdMade_any h
  have hkd := pdKind_any h
  have hem := kEmpty_no w hk
  have hsame : ¬ kd = (K : Int) := by
    rcases h.kindLt with rfl | rfl | rfl
    · rintro rfl; simp [KindOf] at hk
    · rintro rfl; simp [KindOf] at hk
    · rintro rfl; simp [KindOf] at hk
  clear h hk
  go_enter Tryz.func14, Tryz.ntmps14
  go_wp2_with (first
    | (go_at_call 28; (with_reducible refine hmd.mono ?_); rintro e w1 ⟨rfl, rfl⟩)
    | (go_at_call 9; (with_reducible refine hkd.mono ?_); rintro e w1 ⟨rfl, rfl⟩)
    | (go_at_call 16; (with_reducible refine hem.mono ?_); rintro e w1 ⟨rfl, rfl⟩))
  go_ret
  exact ⟨rfl, rfl⟩
end Go.Proofs.YtjlbkdghlijoeaaGreat
