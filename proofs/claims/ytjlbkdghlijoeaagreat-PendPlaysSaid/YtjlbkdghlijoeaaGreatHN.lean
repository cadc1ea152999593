/-
  A range over a function whose body always goes on, at an iterator that has cells of its own: the rounds may write whatever lay there ahead of the iterator's call, the iterator whatever is new since. No program in this text.
  A queue: Cut of a message that is there.
-/
import Derived.Test.YtjlbkdghlijoeaaGreatHC2
import Derived.RangeFuncBox
import Derived.Shelf.RegionOpen
namespace Go.Proofs.YtjlbkdghlijoeaaGreat
open Go Go.RowKit
set_option linter.unusedVariables false

/-- The iterator hands over T, one by one, if each round goes on. -/
def GivesAll {α : Type} (F : Fence) (n : Nat) (P : Program) (g : Nat) (lb : Array Value) (encs : α → Array Value) (T : List α) (w : World) : Prop :=
  ∀ (l : Nat) (J : List α → World → Prop) (W : World), Below w.heap.size w W → (∀ s X Y, J s X → Below W.heap.size X Y → J s Y) →
    (∀ pre x X, J pre X → pre ++ [x] <+: T → YieldAt F (n - 1) P l (encs x) X fun e Y => e = .returned (.bool true) ∧ J (pre ++ [x]) Y ∧ KeptOff (fun k => k < W.heap.size) X Y) →
    J [] W → CallsIn F n P g (#[.func (.yield l) #[] #[]] ++ lb) W fun e W' => (∃ v, e = .returned v) ∧ J T W'

theorem below_put {B : Nat} {W : World} (l : Nat) (o : Obj) (hB : B ≤ l) (hs : B ≤ W.heap.size) : Below B W (W.putObj l o) :=
  ⟨rfl, rfl, rfl, by simp, fun k hk => World.putObj_heap_other (by omega)⟩
theorem kept_put (W : World) (l : Nat) (o : Obj) : KeptOff (fun k => k = l) W (W.putObj l o) :=
  ⟨rfl, rfl, rfl, by simp, fun k _ hk => World.putObj_heap_other (fun e => hk e)⟩

theorem wpIn_rangeFunc_all {F : Fence} {n : Nat} {P : Program} {w : World} {α : Type} {g : Operand} {ps : Array Tmp} {assign body : Code} {Q : Exit → Act → World → Prop} {a : Act}
    (hro : F.round = none) (h1 : 1 ≤ n) {gf : Nat} {lb : Array Value} (hg : a.eval g = .func (.func gf) #[] lb) (hFg : F.fn gf) (eg : ∀ args w, (callFunc gf args).run P w = .ok (.enter gf args) w)
    {encs : α → Array Value} {T : List α} (hseq : GivesAll F (n - 1) P gf lb encs T w) (hps : ∀ x, (encs x).size = ps.size)
    (I : List α → World → Prop) (hI : ∀ s X Y, I s X → Below w.heap.size X Y → I s Y) (h0 : I [] w)
    (hround : ∀ (l : Nat) (pre : List α) (x : α) (W : World), I pre W → pre ++ [x] <+: T → w.heap.size + 2 ≤ W.heap.size →
      assign.wpIn (F.inRound l) (n - 1 - 1) P (Exit.then (fun a' Wa => KeptOff (fun k => k < w.heap.size) W Wa ∧ ∀ Wb, KeptOff (fun k => k = w.heap.size + 1) Wa Wb →
        body.wpIn (F.inRound l) (n - 1 - 1) P (fun e _ W3 => e = .normal ∧ I (pre ++ [x]) W3 ∧ KeptOff (fun k => k < w.heap.size) Wb W3) a' Wb) (fun _ _ _ => False))
        { tmps := (ps.zip (encs x)).foldl (fun t (p, v) => t.setIfInBounds p v) a.tmps, defers := [] } W)
    (hdone : ∀ (D : Nat) (W : World), w.heap.size ≤ D → I T W → W.heap[D]? = some (.deferred (some [])) → Q .normal { a with defers := { target := .collected D, args := #[] } :: a.defers } W) :
    (Code.rangeFunc g ps assign body).wpIn F n P Q a w := by
  refine wpIn_rangeFunc fun fn hfn => ?_
  rw [hro]
  let rec_ : LoopState → Loop := fun st => { state := st, pending := none, fn := fn, tmps := a.tmps, params := ps, assign := assign, body := body, defers := w.heap.size }
  obtain ⟨W1, hW1⟩ : ∃ W1, W1 = (w.alloc (.deferred (some []))).alloc (.loop (rec_ .ready)) := ⟨_, rfl⟩
  have hs1 : W1.heap.size = w.heap.size + 2 := by rw [hW1]; simp
  have hb1 : Below w.heap.size w W1 := by rw [hW1]; exact ((Below.refl _ w).alloc (Nat.le_refl _) _).alloc (by simp) _
  have hL1 : W1.heap[w.heap.size + 1]? = some (.loop (rec_ .ready)) := by
    rw [hW1]
    have := World.alloc_heap_new (w.alloc (.deferred (some []))) (.loop (rec_ .ready))
    rwa [World.size_alloc] at this
  have hD1 : W1.heap[w.heap.size]? = some (.deferred (some [])) := by
    rw [hW1]
    exact (Below.heap_alloc _ _ _ (by simp)).trans (World.alloc_heap_new w _)
  refine ⟨w.heap.size + 1, [{ target := .collected w.heap.size, args := #[] }], W1, { target := .fn (.func gf) lb, args := #[.func (.yield (w.heap.size + 1)) #[] #[]] }, W1, gf, #[.func (.yield (w.heap.size + 1)) #[] #[]] ++ lb, W1, ?_, ?_, ?_, ?_, fun _ => h1, ?_⟩
  · rw [hW1]; exact run_enterLoop_outer _ _ _ _ _
  · simp only [resolve, hg]
    simp [go_sem]
  · intro f' hf'
    simp [Target.leads] at hf'
    subst hf'
    exact hFg
  · simp [invoke, go_sem, eg]
  · refine (hseq (w.heap.size + 1) (fun pre X => I pre X ∧ w.heap.size + 2 ≤ X.heap.size ∧ X.heap[w.heap.size + 1]? = some (.loop (rec_ .ready)) ∧ X.heap[w.heap.size]? = some (.deferred (some [])))
      W1 hb1 ?_ ?_ ⟨hI _ _ _ h0 hb1, by omega, hL1, hD1⟩).mono ?_
    · rintro s X Y ⟨hi, hz, hl, hd⟩ hb
      exact ⟨hI _ _ _ hi (hb.mono (by omega)), Nat.le_trans hz hb.size, (hb.block _ (by omega)).trans hl, (hb.block _ (by omega)).trans hd⟩
    · rintro pre x X ⟨hi, hz, hl, hd⟩ hpre
      refine ⟨fn, _, assign, body, run_yield hl (hps x), roundIn_of_wpIn hfn (wpIn_mono (hround (w.heap.size + 1) pre x X hi hpre hz) ?_)⟩
      rintro e a' Wa hp
      cases e with
      | normal =>
        obtain ⟨hka, hbody⟩ := hp
        have hla : Wa.heap[w.heap.size + 1]? = some (.loop (rec_ .ready)) := (hka.block _ (by omega) (by omega)).trans hl
        have hda : Wa.heap[w.heap.size]? = some (.deferred (some [])) := (hka.block _ (by omega) (by omega)).trans hd
        have hsa : w.heap.size + 2 ≤ Wa.heap.size := Nat.le_trans hz hka.size
        refine ⟨_, run_beginRound hla rfl, wpIn_mono (hbody _ (kept_put Wa _ _)) ?_⟩
        rintro e2 a3 W3 ⟨rfl, hi3, hk3⟩
        have hsb : ∀ o, (Wa.putObj (w.heap.size + 1) o).heap.size = Wa.heap.size := fun o => by simp
        have hl3 : W3.heap[w.heap.size + 1]? = some (.loop { rec_ .ready with state := .busy }) := (hk3.block _ (by rw [hsb]; omega) (by omega)).trans (World.putObj_heap_same (by omega))
        have hd3 : W3.heap[w.heap.size]? = some (.deferred (some [])) := (hk3.block _ (by rw [hsb]; omega) (by omega)).trans ((World.putObj_heap_other (by omega)).trans hda)
        have hs3 : w.heap.size + 2 ≤ W3.heap.size := Nat.le_trans (by rw [hsb]; exact hsa) hk3.size
        refine ⟨_, _, run_endRound none hl3, rfl, ⟨hI _ _ _ hi3 (below_put _ _ (by omega) (by omega)), by simpa using hs3, ?_, ?_⟩, ?_⟩
        · exact World.putObj_heap_same (by omega)
        · exact (World.putObj_heap_other (by omega)).trans hd3
        · rw [hs1]
          exact (((hka.mono (fun k _ h => by omega)).trans ((kept_put Wa _ _).mono (fun k _ h => by omega))).trans (hk3.mono (fun k _ h => by omega))).trans ((kept_put W3 _ _).mono (fun k _ h => by omega))
      | _ => exact hp.elim
    · rintro e W2 ⟨⟨v, rfl⟩, hi, hz, hl, hd⟩
      refine ⟨none, _, run_endLoop hl (by simp [rec_]), hdone _ _ (Nat.le_refl _) (hI _ _ _ hi (below_put _ _ (by omega) (by omega))) ((World.putObj_heap_other (by omega)).trans hd)⟩
end Go.Proofs.YtjlbkdghlijoeaaGreat
namespace Go.Proofs.YtjlbkdghlijoeaaGreat
open Go.ChangeShapes Go.WideShapes Go.ChangeAt Go.Shelf Go.RowKit Go.Lib Go.Sort Go.Deep Go.Maps
set_option linter.unusedVariables false
attribute [local go_sem] Oper.semAt_some

/-- What a Cut of a message that is there leaves. -/
def CutQ (w : World) (b0 hb tb mb n : Nat) (v : Value) (T : List M) (f u : Int) (m : M) (w' : World) : Prop :=
  ∃ (i : Nat) (hi : i < T.length), T[i] = m ∧ m.k.f = f ∧ m.u = u ∧ ∃ v', QAt w' b0 hb tb mb n v' (T.eraseIdx i) ∧ QStep w w' tb mb v v'
def CutPost (w : World) (b0 hb tb mb n : Nat) (v : Value) (T : List M) (f u : Int) (e : Ending) (w' : World) : Prop :=
  ∃ m : M, e = .returned (.tuple #[m.val, .int .i64 0]) ∧ CutQ w b0 hb tb mb n v T f u m w'

/-- What a round that finds the message leaves: nothing that lies at B3 or beyond is spoken of. -/
def CutDone (w : World) (B3 b0 hb tb mb n : Nat) (v : Value) (T : List M) (f u : Int) (W : World) : Prop :=
  ∃ (m : M) (i : Nat) (hi : i < T.length) (v' : Value), T[i] = m ∧ m.k.f = f ∧ m.u = u ∧ QAt W b0 hb tb mb n v' (T.eraseIdx i) ∧ QStep w W tb mb v v' ∧ (∀ k, v'.ownBlock = some k → k < B3) ∧
    BoxM W (w.heap.size + 1) m ∧ W.heap[w.heap.size + 1 + 1]? = some (.cells #[.int .i64 0] 24) ∧ B3 ≤ W.heap.size
theorem CutDone.below {w : World} {B3 b0 hb tb mb n : Nat} {v : Value} {T : List M} {f u : Int} {W W' : World} (h : CutDone w B3 b0 hb tb mb n v T f u W) (hB : Below B3 W W') (h3 : w.heap.size + 4 ≤ B3) (h1 : hb < w.heap.size ∧ tb < w.heap.size ∧ mb < w.heap.size) : CutDone w B3 b0 hb tb mb n v T f u W' := by
  obtain ⟨m, i, hi, v', e1, e2, e3, hq, hs, hr, b1, b2, hsz⟩ := h
  have hk : KeptOff (fun k => B3 ≤ k) W W' := ⟨hB.os, hB.tape, hB.output, hB.size, fun k _ hn => hB.block k (by omega)⟩
  refine ⟨m, i, hi, v', e1, e2, e3, hq.kept hk (by omega) (by omega) (by omega) (fun k hk' e => by have := hr k hk'; omega), ⟨hs.1.then_new hk (fun k hk e => by omega), hs.2⟩, hr, b1.kept hk (by omega), (hB.block _ (by omega)).trans b2, Nat.le_trans hsz hB.size⟩
theorem below_of_grown {B : Nat} {W W' : World} {row : Option Nat} (hg : W.grownBy W' row) (hr : ∀ r, row = some r → B ≤ r) (hB : B ≤ W.heap.size) : Below B W W' :=
  ⟨hg.os, hg.tape, hg.output, hg.size, fun k hk => hg.block k (by omega) (fun e => by have := hr k e.symm; omega)⟩
theorem BoxM.grown_other {W W' : World} {row : Option Nat} {B : Nat} {m : M} (h : BoxM W B m) (hg : W.grownBy W' row) (hr : ∀ r, row = some r → ∃ o : Obj, W.heap[r]? = some o ∧ o.isCells = false) : BoxM W' B m :=
  (hg.block B h.lt (fun e => by
    obtain ⟨o, ho, hc⟩ := hr B e.symm
    rw [show W.heap[B]? = _ from h] at ho
    cases ho
    cases hc)).trans h

theorem BoxM.set7 {w : World} {B : Nat} {m0 : M} (h : BoxM w B m0) (m : M) : BoxM (((((((w.setCell ⟨B, 0, none⟩ (.int .i64 m.k.t)).setCell ⟨B, 1, none⟩ (.int .i64 m.k.f)).setCell ⟨B, 2, none⟩ (.int .i64 m.k.s)).setCell ⟨B, 3, none⟩ (.int .i64 m.to)).setCell ⟨B, 4, none⟩ (.int .i64 m.v)).setCell ⟨B, 5, none⟩ (.int .i64 m.u)).setCell ⟨B, 6, none⟩ (.bool m.anti)) B m := by
  unfold BoxM at h ⊢
  simp [World.setCell, Array.getElem?_modify, h, M.cells]
theorem KeptOff.set7 (w : World) (B : Nat) (u0 u1 u2 u3 u4 u5 u6 : Value) : KeptOff (fun k => k = B) w (((((((w.setCell ⟨B, 0, none⟩ u0).setCell ⟨B, 1, none⟩ u1).setCell ⟨B, 2, none⟩ u2).setCell ⟨B, 3, none⟩ u3).setCell ⟨B, 4, none⟩ u4).setCell ⟨B, 5, none⟩ u5).setCell ⟨B, 6, none⟩ u6) :=
  ((((((KeptOff.set w ⟨B, 0, none⟩ u0).trans (KeptOff.set _ ⟨B, 1, none⟩ u1)).trans (KeptOff.set _ ⟨B, 2, none⟩ u2)).trans (KeptOff.set _ ⟨B, 3, none⟩ u3)).trans (KeptOff.set _ ⟨B, 4, none⟩ u4)).trans (KeptOff.set _ ⟨B, 5, none⟩ u5)).trans (KeptOff.set _ ⟨B, 6, none⟩ u6)
theorem KeptOff.keeps {S : Nat → Prop} {W W' : World} {B : Nat} (h : KeptOff S W W') (hS : ∀ k, k < W.heap.size → S k → k < B) : KeepsFrom B W W' :=
  ⟨h.size, fun k o hB hk _ => (h.block k (Array.getElem?_eq_some_iff.1 hk).1 (fun e => by have := hS k (Array.getElem?_eq_some_iff.1 hk).1 e; omega)).trans hk⟩

set_option maxHeartbeats 4000000 in
set_option maxRecDepth 100000 in
theorem hCut_someH {w : World} {b0 hb tb mb n : Nat} {v : Value} {T : List M} (h : QAt w b0 hb tb mb n v T) {f u : Int} (hf : (Lit.int .i64 f).wf = true) (hu : (Lit.int .i64 u).wf = true) (hs : hasS T f u = true) :
    Calls Tryz.prog 63 #[.pointer (some ⟨hb, 0, none⟩), .int .i64 f, .int .i64 u] w (CutPost w b0 hb tb mb n v T f u) := by
  have mixed := mixed
  have hm1 := fun (w' : World) (hb' : Below w.heap.size w w') => made_okH (h.below hb').h
  have hB1 : Hid (Below w.heap.size w (((w.alloc (.cells #[.pointer (some ⟨hb, 0, none⟩)] 70)).alloc (.cells #[.int .i64 0, .int .i64 0, .int .i64 0, .int .i64 0, .int .i64 0, .int .i64 0, .bool false] 34)).alloc (.cells #[.int .i64 0] 24))) := (((Below.refl _ w).alloc (Nat.le_refl _) _).alloc (by simp) _).alloc (by simp; omega) _
  have hmd := hm1 _ hB1.out
  have hha := has_anyH (h.below (cutW_below w hb f u)).h (h.below (cutW_below w hb f u)).s hf hu
  rw [hs] at hha
  have hmd' := Lib.hid hmd
  have hbx : Hid (∀ w2, Below (cutW w hb f u).heap.size (cutW w hb f u) w2 → CutBoxes w2 w.heap.size hb f u) := fun w2 hr2 => (cutW_boxes w hb f u).below hr2 (by rw [cutW_size]; exact Nat.le_refl _)
  have hcw : Hid (cutW w hb f u = (((w.alloc (.cells #[.pointer (some ⟨hb, 0, none⟩)] 70)).alloc (.cells #[.int .i64 0, .int .i64 0, .int .i64 0, .int .i64 0, .int .i64 0, .int .i64 0, .bool false] 34)).alloc (.cells #[.int .i64 0] 24)).alloc (.cells #[.int .i64 f, .int .i64 u] 130)) := rfl
  have hcb := Lib.hid (cutW_below w hb f u)
  have hcs := Lib.hid (cutW_size w hb f u)
  have hq0 := Lib.hid (h.below (cutW_below w hb f u))
  have hlow0 : ∀ g, v.ownBlock = some g → hb < w.heap.size ∧ tb < w.heap.size ∧ mb < w.heap.size ∧ g < w.heap.size := by
    obtain ⟨l, hl, _⟩ := h.t
    exact fun g hg => ⟨h.h.lt, hl.t.lt, h.s.lt, (hl.own.lt g hg).2⟩
  generalize cutW w hb f u = W0 at hha hbx hcw hcb hcs hq0
  have hha' := Lib.hid hha
  clear h hm1 hmd hha
  refine (callsIn_wide (n := 6)).1 ?_
  refine callsIn_of_wp_marks Tryz.func63 rfl trivial ?_ rfl
  simp only [Tryz.ntmps63, List.size_toArray, List.length_cons, List.length_nil, Nat.reduceAdd, Nat.reduceSub, Array.replicate_succ, Array.replicate_zero, List.push_toArray, List.append_toArray, List.nil_append, List.cons_append]
  refine wpIn_wide.2 ?_
  go_upto_region 4 with (go_at_call 68; refine hmd'.out.mono ?_; rintro e w' ⟨rfl, rfl⟩)
  rw [← hcw.out]
  have hb0 := hbx.out W0 (Below.refl _ _)
  have cq := cell_of_block (o := 0) hb0.q rfl
  have cs0 := cell_of_block (o := 0) hb0.s rfl
  have cs1 := cell_of_block (o := 1) hb0.s rfl
  clear hb0
  go_upto_region 5 with (go_at_call 71; refine hha'.out.mono ?_; rintro e w2 ⟨rfl, hr2⟩; have hr2' := Lib.hid hr2; clear hr2)
  have hb2 := hbx.out w2 hr2'.out.below
  have cq2 := cell_of_block (o := 0) hb2.q rfl
  have hq2 := Lib.hid (hq0.out.below hr2'.out.below)
  have c0 := hq2.out.h.c0
  clear cq cs0 cs1 hb2
  go_wp2_with (go_at_call 72; refine (tall_any tb _).mono ?_; rintro e w3 ⟨rfl, hw3⟩; have hw3' := Lib.hid hw3; clear hw3)
  refine (wpIn_wide (n := 6)).1 ?_
  have hb4 : Hid (Below w.heap.size w w3) := by
    show Below _ _ _
    rw [hw3'.out]
    exact (hcb.out.trans (hr2'.out.below.mono hcb.out.size)).alloc (Nat.le_trans hcb.out.size hr2'.out.size) _
  have h32 : Below w2.heap.size w2 w3 := by rw [hw3'.out]; exact (Below.refl _ w2).alloc (Nat.le_refl _) _
  have hq3 := Lib.hid (hq2.out.below h32)
  have hbx3 := Lib.hid (hbx.out w3 (hr2'.out.below.trans (h32.mono hr2'.out.size)))
  have hsz3 : Hid (w3.heap.size = w2.heap.size + 1 ∧ w.heap.size + 4 ≤ w3.heap.size) := ⟨by rw [hw3'.out]; simp, by have := hcs.out; have := hr2'.out.size; have := h32.size; omega⟩
  have hBt : w3.cell? ⟨w2.heap.size, 0, none⟩ = some (.pointer (some ⟨tb, 0, none⟩)) := by rw [hw3'.out]; simp
  obtain ⟨l, hl, hlp⟩ := hq3.out.t
  have hl0 : 0 < l.length := by
    rw [hlp.length_eq]
    obtain ⟨m, hm, _⟩ := hasS_iff.1 hs
    exact List.length_pos_of_mem hm
  obtain ⟨g, cap, rfl, hbg, hgl, hne⟩ := hl.some_shape hl0
  have hlow : hb < w.heap.size ∧ tb < w.heap.size ∧ mb < w.heap.size ∧ g < w.heap.size := hlow0 g rfl
  refine wpIn_rangeFunc_ownH rfl (by omega : 1 ≤ 6) (gf := 81) (lb := #[.pointer (some ⟨w2.heap.size, 0, none⟩)]) rfl trivial (enters_of Tryz.func81 (by kernel_rfl) rfl)
    (tall1_stops (6 - 1) (by omega) hl (by have := hsz3.out.1; omega) hBt hgl (Nat.le_refl _)) belowK_t (belowK_b (Nat.le_refl _)) (Below.refl _ _) (fun _ => rfl)
    (fun pre W => Below w3.heap.size w3 W ∧ ∀ x ∈ pre, ¬ ((l.getD x.val default).k.f = f ∧ (l.getD x.val default).u = u))
    (fun c pre W => c = .ret ∧ CutDone w w3.heap.size b0 hb tb mb n (.slice (some ⟨g, 0, none⟩) l.length cap) T f u W)
    (fun s X Y row hs hg hr => ⟨hs.1.trans (below_of_grown hg (fun r e => (hr r e).1) hs.1.size), hs.2⟩)
    (fun c s X Y row hs hg hr => ⟨hs.1, hs.2.below (below_of_grown hg (fun r e => (hr r e).1) (by obtain ⟨_, _, _, _, _, _, _, _, _, _, _, _, q⟩ := hs.2; exact q)) hsz3.out.2 ⟨hlow.1, hlow.2.1, hlow.2.2.1⟩⟩)
    ⟨Below.refl _ _, fun x hx => by cases hx⟩
    (fun x a' W => ∃ Bx, w3.heap.size ≤ Bx ∧ BoxM W Bx (l.getD x.val default) ∧ a' = { tmps := #[.pointer (some ⟨hb, 0, none⟩), .int .i64 f, .int .i64 u, .pointer (some ⟨w.heap.size, 0, none⟩), undef, undef, .pointer (some ⟨w.heap.size + 1, 0, none⟩), .pointer (some ⟨w.heap.size + 1 + 1, 0, none⟩), .pointer (some ⟨w.heap.size + 1 + 1 + 1, 0, none⟩), .int .i64 ((x.val : Nat) : Int), .pointer (some ⟨Bx, 0, none⟩), .pointer (some ⟨hb, 0, none⟩), .bool true, .bool false, undef, .int .i64 f, .int .i64 u, .agg #[.int .i64 f, .int .i64 u], .pointer (some ⟨hb, 0, none⟩), .agg #[.int .i64 f, .int .i64 u], .bool true, .pointer (some ⟨hb, 0, none⟩), .pointer (some ⟨hb, 0, none⟩), .pointer (some ⟨hb, 0, none⟩), .pointer (some ⟨tb, 0, none⟩), .func (.func 81) #[] #[.pointer (some ⟨w2.heap.size, 0, none⟩)], .int .i64 ((x.val : Nat) : Int), (l.getD x.val default).val, undef, undef, undef, undef, undef, undef, undef, undef], defers := [] })
    (fun x a' _ X Y row hs hg hr => by obtain ⟨Bx, h1, h2, h3⟩ := hs; exact ⟨Bx, h1, h2.grown_other hg (fun r e => (hr r e).2), h3⟩)
    ?assign ?body ?done ?stop
  case assign =>
    rintro l1 pre ⟨p, hp⟩ W K ⟨hB1, hno⟩ hK
    simp only [placeV] at hK ⊢
    have hno' := Lib.hid hno
    have hK' := Lib.hid hK
    clear hno hK
    generalize l.getD p default = m at hK' ⊢
    simp only [M.val]
    gi_wp2
    exact hK'.out _ _ ((KeepsOthers.alloc W _).from _) ((Below.refl _ W).alloc hB1.size _) ⟨hB1.alloc hB1.size _, hno'.out⟩ ⟨W.heap.size, hB1.size, BoxM.mk W m, rfl⟩
  case body =>
    rintro l1 pre ⟨p, hp⟩ a' W hl1 hrec ⟨hB1, hno⟩ ⟨Bx, hBx, hbx, rfl⟩ hlen
    simp only at hbx ⊢
    have hb5 := hbx3.out.below hB1 hsz3.out.2
    have cq5 := cell_of_block (o := 0) hb5.q rfl
    have cs5 := cell_of_block (o := 0) hb5.s rfl
    have cs6 := cell_of_block (o := 1) hb5.s rfl
    have hmd : Hid (l.getD p default = l.getD p default) := rfl
    obtain ⟨m, hm⟩ : ∃ m, m = l.getD p default := ⟨_, rfl⟩
    rw [← hm] at hbx ⊢
    have hm' := Lib.hid hm
    clear hm
    obtain ⟨-, x0, x1, x2, x3, x4, x5, x6⟩ := hbx.at
    simp only [Nat.zero_add] at x0 x1 x2 x3 x4 x5 x6
    have hB1' := Lib.hid hB1
    have hno' := Lib.hid hno
    have hseq := fun w => eqlS m.k.f m.u f u w
    have hsend := fun w => (CallsIn.inRound l1 (callsIn_wide (n := 6 - 1 - 1 - 1).2 (sending_anyH m w)))
    simp only [M.val, sendV] at hsend ⊢
    have hseqx : ∀ w', Read W w' → w'.cell? ⟨w.heap.size + 1 + 1 + 1, 0, none⟩ = some (.int .i64 f) ∧ w'.cell? ⟨w.heap.size + 1 + 1 + 1, 1, none⟩ = some (.int .i64 u) ∧ w'.cell? ⟨w.heap.size, 0, none⟩ = some (.pointer (some ⟨hb, 0, none⟩)) := fun w' hr => ⟨hr.cell (by have := hb5.s; exact (Array.getElem?_eq_some_iff.1 this).1) cs5, hr.cell (by have := hb5.s; exact (Array.getElem?_eq_some_iff.1 this).1) cs6, hr.cell (by have := hb5.q; exact (Array.getElem?_eq_some_iff.1 this).1) cq5⟩
    have htake : ∀ w', Read W w' → CallsIn (Fence.wide.inRound l1) 3 Tryz.prog 74 #[.pointer (some ⟨hb, 0, none⟩), .int .i64 (p : Int)] w' fun e w6 => e = .returned m.val ∧
        Hid (BoxM w6 (w.heap.size + 1) zeroM ∧ w6.heap[w.heap.size + 1 + 1]? = some (.cells #[.int .i64 0] 24) ∧ ∀ Wend, KeptOff (fun k => k = w.heap.size + 1 ∨ k = w.heap.size + 1 + 1) w6 Wend → BoxM Wend (w.heap.size + 1) m → Wend.heap[w.heap.size + 1 + 1]? = some (.cells #[.int .i64 0] 24) → m.k.f = f ∧ m.u = u →
          KeepsFrom w3.heap.size W Wend ∧ CutDone w w3.heap.size b0 hb tb mb n (.slice (some ⟨g, 0, none⟩) l.length cap) T f u Wend) := by
      intro w' hr
      have hkr : Below w3.heap.size w3 w' := hB1.trans (hr.below.mono hB1.size)
      have hk0 : KeptOff (fun _ => False) w3 w' := .of_below hkr
      have hl5 := hl.kept hk0 (fun e => e) (fun _ _ e => e)
      have hq5 := hq3.out.kept hk0 (fun e => e) (fun e => e) (fun e => e) (fun _ _ e => e)
      have hb6 := hbx3.out.below hkr hsz3.out.2
      have hUl := hq5.u.perm hlp.symm
      refine CallsIn.inRound l1 ((callsIn_wide (n := 3)).2 ((htake_anyH hq5.h hl5 (by obtain ⟨D, d1, d2⟩ := hq5.s; exact ⟨D, d1, fun f u hf hu => (d2 f u hf hu).trans (hasS_perm hlp.symm f u)⟩) hUl hq5.lh hq5.lm hq5.dt p hp).mono ?_))
      rintro e w6 ⟨he, v', l', t1, t2, t3, t4, t5, t6⟩
      rw [← hm'.out] at he t2
      have hR1 : ¬ (w.heap.size + 1 = tb ∨ w.heap.size + 1 = mb ∨ (Value.slice (some ⟨g, 0, none⟩) l.length cap).ownBlock = some (w.heap.size + 1)) := fun e => by
        rcases e with e | e | e
        · omega
        · omega
        · have : g = w.heap.size + 1 := by simpa [Value.ownBlock] using e
          omega
      have hR2 : ¬ (w.heap.size + 1 + 1 = tb ∨ w.heap.size + 1 + 1 = mb ∨ (Value.slice (some ⟨g, 0, none⟩) l.length cap).ownBlock = some (w.heap.size + 1 + 1)) := fun e => by
        rcases e with e | e | e
        · omega
        · omega
        · have : g = w.heap.size + 1 + 1 := by simpa [Value.ownBlock] using e
          omega
      have he2 : w'.heap[w.heap.size + 1 + 1]? = some (.cells #[.int .i64 0] 24) := hb6.e
      refine ⟨he, hb6.r.kept t5 hR1, (t5.block _ (Array.getElem?_eq_some_iff.1 he2).1 hR2).trans he2, ?_⟩
      intro Wend hk7 hbm hbe hmt
      have hrow : ∀ k, v'.ownBlock = some k → k = g := fun k hk => by rw [t6] at hk; simpa [Value.ownBlock] using hk.symm
      obtain ⟨i, hi, hTi⟩ : ∃ (i : Nat) (hi : i < T.length), T[i] = m := by
        have : m ∈ T := hlp.mem_iff.1 (t2.mem_iff.1 (List.mem_cons_self ..))
        obtain ⟨i, hi, e⟩ := List.getElem_of_mem this
        exact ⟨i, hi, e⟩
      have hle : l'.Perm (T.eraseIdx i) := cut_list hi hlp (by rw [hTi]; exact t2)
      obtain ⟨o1, o2⟩ := erase_keeps i hq5.o hq5.u
      have hkall : KeptOff (fun k => k = tb ∨ k = mb ∨ (Value.slice (some ⟨g, 0, none⟩) l.length cap).ownBlock = some k ∨ k = w.heap.size + 1 ∨ k = w.heap.size + 1 + 1) W Wend :=
        ((KeptOff.of_below hr.below).trans (t5.mono (fun k _ e => e.elim Or.inl (fun e => Or.inr (e.elim Or.inl (fun e => Or.inr (Or.inl e))))))).trans (hk7.mono (fun k _ e => Or.inr (Or.inr (Or.inr e))))
      refine ⟨hkall.keeps (fun k _ e => ?_), m, i, hi, v', hTi, hmt.1, hmt.2, ⟨t3.kept hk7 (by omega), ⟨l', t1.kept hk7 (by omega) (fun k hk e => by have := hrow k hk; omega), hle⟩, (t4.kept hk7 (by omega)).congr (fun f u => hasS_perm hle f u), o1, o2, hq5.lh, hq5.lm, hq5.dt⟩, ⟨?_, fun k hk => .inl (t6 ▸ hk)⟩, fun k hk => by have := hrow k hk; omega, hbm, hbe, ?_⟩
      · have := hsz3.out.2
        rcases e with e | e | e | e | e
        · omega
        · omega
        · have : g = k := by simpa [Value.ownBlock] using e
          omega
        · omega
        · omega
      · exact (((KeptOff.of_below hb4.out).then_new hk0 (fun _ _ e => e.elim)).trans t5).then_new hk7 (fun k hk e => by omega)
      · exact Nat.le_trans hkr.size (Nat.le_trans t5.size hk7.size)
    have htake' := Lib.hid htake
    clear htake
    have hseqx' := Lib.hid hseqx
    clear hB1 hno hb5 hseqx hbx hmd
    by_cases hmt : m.k.f = f ∧ m.u = u
    · have hd : (decide (m.k.f = f) && decide (m.u = u)) = true := by simp [hmt.1, hmt.2]
      simp only [hd] at hseq
      clear hd
      have hmt' := Lib.hid hmt
      clear hmt
      gi_wp2
      gi_region_with_o (refine ⟨trivial, ?_⟩; gi_at_call 73; refine (hsend _).mono ?_; rintro e w5 ⟨rfl, hr5⟩; have hcs5 := hseqx'.out _ ((Read.drew W 1).trans hr5); obtain ⟨d0, d1, dq⟩ := hcs5; have ht5 := htake'.out _ ((Read.drew W 1).trans hr5); simp only [M.val] at ht5; have hr5' := Lib.hid hr5; clear hr5)
      all_goals
        clear hseq hsend x0 x1 x2 x3 x4 x5 x6 hseqx' htake'
        gi_wp2_with (refine ⟨trivial, ?_⟩; gi_at_call 74; refine ht5.mono ?_; rintro e w6 ⟨rfl, hT6⟩; obtain ⟨-, y0, y1, y2, y3, y4, y5, y6⟩ := hT6.out.1.at; simp only [Nat.zero_add] at y0 y1 y2 y3 y4 y5 y6; have z0 := hT6.out.1.fz 0; have z1 := hT6.out.1.fz 1; have z2 := hT6.out.1.fz 2; have z3 := hT6.out.1.fz 3; have z4 := hT6.out.1.fz 4; have z5 := hT6.out.1.fz 5; have z6 := hT6.out.1.fz 6; have e0 : w6.cell? ⟨w.heap.size + 1 + 1, 0, none⟩ = some (.int .i64 0) := cell_of_block (o := 0) hT6.out.2.1 rfl; have e1 := frozen_of_block (o := 0) hT6.out.2.1)
        have hk7 := ((KeptOff.set7 w6 (w.heap.size + 1) (.int .i64 m.k.t) (.int .i64 m.k.f) (.int .i64 m.k.s) (.int .i64 m.to) (.int .i64 m.v) (.int .i64 m.u) (.bool m.anti)).mono (S' := fun k => k = w.heap.size + 1 ∨ k = w.heap.size + 1 + 1) (fun k _ e => Or.inl e)).trans ((KeptOff.set _ ⟨w.heap.size + 1 + 1, 0, none⟩ (.int .i64 0)).mono (fun k _ e => Or.inr e))
        have hb7 := (hT6.out.1.set7 m).kept (KeptOff.set _ ⟨w.heap.size + 1 + 1, 0, none⟩ (.int .i64 0)) (by simp)
        have he7 := Boxed.set (.int .i64 0) (show Boxed _ (w.heap.size + 1 + 1) 24 (.int .i64 0) from (((KeptOff.set7 w6 (w.heap.size + 1) (.int .i64 m.k.t) (.int .i64 m.k.f) (.int .i64 m.k.s) (.int .i64 m.to) (.int .i64 m.v) (.int .i64 m.u) (.bool m.anti)).block (w.heap.size + 1 + 1) (Array.getElem?_eq_some_iff.1 hT6.out.2.1).1 (by omega)).trans hT6.out.2.1))
        obtain ⟨q1, q2⟩ := hT6.out.2.2 _ hk7 hb7 he7 hmt'.out
        exact ⟨q1, rfl, q2⟩
    · have hd : (decide (m.k.f = f) && decide (m.u = u)) = false := by
        by_cases a : m.k.f = f <;> by_cases b : m.u = u <;> simp_all
      simp only [hd] at hseq
      clear hd
      have hmt' := Lib.hid hmt
      clear hmt htake'
      gi_wp2
      gi_region_with_o (refine ⟨trivial, ?_⟩; gi_at_call 73; refine (hsend _).mono ?_; rintro e w5 ⟨rfl, hr5⟩; have hcs5 := hseqx'.out _ ((Read.drew W 1).trans hr5); obtain ⟨d0, d1, dq⟩ := hcs5; have hr5' := Lib.hid hr5; clear hr5)
      all_goals
        clear hseq hsend x0 x1 x2 x3 x4 x5 x6 hseqx'
        gi_wp2
        have hrr := (Read.drew W 1).trans hr5'.out
        have hbb := hrr.below
        exact ⟨(KeptOff.of_below (S := fun _ => False) hbb).keeps (fun _ _ e => e.elim), hbb.mono hB1'.out.size, hB1'.out.trans (hbb.mono hB1'.out.size), fun x hx => by
          rcases List.mem_append.1 hx with hx | hx
          · exact hno'.out x hx
          · rw [List.mem_singleton.1 hx]
            show ¬ ((l.getD p default).k.f = f ∧ (l.getD p default).u = u)
            rw [← hm'.out]
            exact hmt'.out⟩
  case done =>
    rintro D xs W hD hS ⟨hB2, hno⟩ hK
    exfalso
    obtain ⟨m, hm, hmf, hmu⟩ := hasS_iff.1 hs
    obtain ⟨p, hp, rfl⟩ := List.getElem_of_mem (hlp.mem_iff.2 hm)
    refine hno ⟨p, hp⟩ (by rw [hS]; exact places_all l _) ?_
    simp only [List.getD_eq_getElem?_getD, List.getElem?_eq_getElem hp, Option.getD_some]
    exact ⟨hmf, hmu⟩
  case stop =>
    rintro D c pre W hD hSp ⟨rfl, hC⟩ hK
    have hC' := Lib.hid (hC.below (below_of_grown (grownBy_putObj' W D (.deferred none)) (fun r e => by cases e; exact hD) (by obtain ⟨_, _, _, _, _, _, _, _, _, _, _, _, q⟩ := hC; exact q)) hsz3.out.2 ⟨hlow.1, hlow.2.1, hlow.2.2.1⟩)
    clear hC
    gi_wp2
    refine ⟨by simp, .inl ⟨_, _, rfl, run_takeDeferred hK, ?_⟩⟩
    obtain ⟨m, i, hi, v', e1, e2, e3, hq, hst, hr, b1, b2, hsz⟩ := hC'.out
    obtain ⟨-, s0, s1, s2, s3, s4, s5, s6⟩ := b1.at
    simp only [Nat.zero_add] at s0 s1 s2 s3 s4 s5 s6
    have s7 : (W.putObj D (.deferred none)).cell? ⟨w.heap.size + 1 + 1, 0, none⟩ = some (.int .i64 0) := cell_of_block (o := 0) b2 rfl
    refine ⟨.tuple #[m.val, .int .i64 0], ?_, m, rfl, i, hi, e1, e2, e3, v', hq, hst⟩
    simp [results, Tryz.f63, go_sem, s0, s1, s2, s3, s4, s5, s6, s7, M.val]
end Go.Proofs.YtjlbkdghlijoeaaGreat
