/-
  A range over a function whose body always goes on, at an iterator that has cells of its own: the rounds may write whatever lay there ahead of the iterator's call, the iterator whatever is new since. No program in this text.
-/
import Derived.Test.YtbalbachmeiehaaHJ
import Derived.RangeFuncBox
namespace Go.Proofs.Ytbalbachmeiehaa
open Go Go.RowKit
set_option linter.unusedVariables false

/-- The iterator hands over T, one by one, if each round goes on. -/
def GivesAll {α : Type} (F : Fence) (n : Nat) (P : Program) (g : Nat) (lb : Array Value) (encs : α → Array Value) (T : List α) (w : World) : Prop :=
  ∀ (l : Nat) (J : List α → World → Prop) (W : World), Below w.heap.size w W → (∀ s X Y, J s X → Below W.heap.size X Y → J s Y) →
    (∀ pre x X, J pre X → pre ++ [x] <+: T → YieldAt F (n - 1) P l (encs x) X fun e Y => e = .returned (.bool true) ∧ J (pre ++ [x]) Y ∧ KeptOff (fun k => k < W.heap.size) X Y) →
    J [] W → CallsIn F n P g (#[.func (.yield l) #[] #[]] ++ lb) W fun e W' => (∃ v, e = .returned v) ∧ J T W'

theorem below_put {B : Nat} {W : World} (l : Nat) (o : Obj) (hB : B ≤ l) (hs : B ≤ W.heap.size) : Below B W (W.putObj l o) :=
  ⟨rfl, rfl, rfl, by simp, fun k hk => World.putObj_heap_other (by omega)⟩
theorem kept_put (W : World) (l : Nat) (o : Obj) : KeptOff (fun k => k = l) W (W.putObj l o) :=
  ⟨rfl, rfl, rfl, by simp, fun k _ hk => World.putObj_heap_other (fun e => hk e)⟩

theorem wpIn_rangeFunc_all {F : Fence} {n : Nat} {P : Program} {w : World} {α : Type} {g : Operand} {ps : Array Tmp} {assign body : Code} {Q : Exit → Act → World → Prop} {a : Act}
    (hro : F.round = none) (h1 : 1 ≤ n) {gf : Nat} {lb : Array Value} (hg : a.eval g = .func (.func gf) #[] lb) (hFg : F.fn gf) (eg : ∀ args w, (callFunc gf args).run P w = .ok (.enter gf args) w)
    {encs : α → Array Value} {T : List α} (hseq : GivesAll F (n - 1) P gf lb encs T w) (hps : ∀ x, (encs x).size = ps.size)
    (I : List α → World → Prop) (hI : ∀ s X Y, I s X → Below w.heap.size X Y → I s Y) (h0 : I [] w)
    (hround : ∀ (l : Nat) (pre : List α) (x : α) (W : World), I pre W → pre ++ [x] <+: T → w.heap.size + 2 ≤ W.heap.size →
      assign.wpIn (F.inRound l) (n - 1 - 1) P (Exit.then (fun a' Wa => KeptOff (fun k => k < w.heap.size) W Wa ∧ ∀ Wb, KeptOff (fun k => k = w.heap.size + 1) Wa Wb →
        body.wpIn (F.inRound l) (n - 1 - 1) P (fun e _ W3 => e = .normal ∧ I (pre ++ [x]) W3 ∧ KeptOff (fun k => k < w.heap.size) Wb W3) a' Wb) (fun _ _ _ => False))
        { tmps := (ps.zip (encs x)).foldl (fun t (p, v) => t.setIfInBounds p v) a.tmps, defers := [] } W)
    (hdone : ∀ (D : Nat) (W : World), w.heap.size ≤ D → I T W → W.heap[D]? = some (.deferred (some [])) → Q .normal { a with defers := { target := .collected D, args := #[] } :: a.defers } W) :
    (Code.rangeFunc g ps assign body).wpIn F n P Q a w := by
  refine wpIn_rangeFunc fun fn hfn => ?_
  rw [hro]
  let rec_ : LoopState → Loop := fun st => { state := st, pending := none, fn := fn, tmps := a.tmps, params := ps, assign := assign, body := body, defers := w.heap.size }
  obtain ⟨W1, hW1⟩ : ∃ W1, W1 = (w.alloc (.deferred (some []))).alloc (.loop (rec_ .ready)) := ⟨_, rfl⟩
  have hs1 : W1.heap.size = w.heap.size + 2 := by rw [hW1]; simp
  have hb1 : Below w.heap.size w W1 := by rw [hW1]; exact ((Below.refl _ w).alloc (Nat.le_refl _) _).alloc (by simp) _
  have hL1 : W1.heap[w.heap.size + 1]? = some (.loop (rec_ .ready)) := by
    rw [hW1]
    have := World.alloc_heap_new (w.alloc (.deferred (some []))) (.loop (rec_ .ready))
    rwa [World.size_alloc] at this
  have hD1 : W1.heap[w.heap.size]? = some (.deferred (some [])) := by
    rw [hW1]
    exact (Below.heap_alloc _ _ _ (by simp)).trans (World.alloc_heap_new w _)
  refine ⟨w.heap.size + 1, [{ target := .collected w.heap.size, args := #[] }], W1, { target := .fn (.func gf) lb, args := #[.func (.yield (w.heap.size + 1)) #[] #[]] }, W1, gf, #[.func (.yield (w.heap.size + 1)) #[] #[]] ++ lb, W1, ?_, ?_, ?_, ?_, fun _ => h1, ?_⟩
  · rw [hW1]; exact run_enterLoop_outer _ _ _ _ _
  · simp only [resolve, hg]
    simp [go_sem]
  · intro f' hf'
    simp [Target.leads] at hf'
    subst hf'
    exact hFg
  · simp [invoke, go_sem, eg]
  · refine (hseq (w.heap.size + 1) (fun pre X => I pre X ∧ w.heap.size + 2 ≤ X.heap.size ∧ X.heap[w.heap.size + 1]? = some (.loop (rec_ .ready)) ∧ X.heap[w.heap.size]? = some (.deferred (some [])))
      W1 hb1 ?_ ?_ ⟨hI _ _ _ h0 hb1, by omega, hL1, hD1⟩).mono ?_
    · rintro s X Y ⟨hi, hz, hl, hd⟩ hb
      exact ⟨hI _ _ _ hi (hb.mono (by omega)), Nat.le_trans hz hb.size, (hb.block _ (by omega)).trans hl, (hb.block _ (by omega)).trans hd⟩
    · rintro pre x X ⟨hi, hz, hl, hd⟩ hpre
      refine ⟨fn, _, assign, body, run_yield hl (hps x), roundIn_of_wpIn hfn (wpIn_mono (hround (w.heap.size + 1) pre x X hi hpre hz) ?_)⟩
      rintro e a' Wa hp
      cases e with
      | normal =>
        obtain ⟨hka, hbody⟩ := hp
        have hla : Wa.heap[w.heap.size + 1]? = some (.loop (rec_ .ready)) := (hka.block _ (by omega) (by omega)).trans hl
        have hda : Wa.heap[w.heap.size]? = some (.deferred (some [])) := (hka.block _ (by omega) (by omega)).trans hd
        have hsa : w.heap.size + 2 ≤ Wa.heap.size := Nat.le_trans hz hka.size
        refine ⟨_, run_beginRound hla rfl, wpIn_mono (hbody _ (kept_put Wa _ _)) ?_⟩
        rintro e2 a3 W3 ⟨rfl, hi3, hk3⟩
        have hsb : ∀ o, (Wa.putObj (w.heap.size + 1) o).heap.size = Wa.heap.size := fun o => by simp
        have hl3 : W3.heap[w.heap.size + 1]? = some (.loop { rec_ .ready with state := .busy }) := (hk3.block _ (by rw [hsb]; omega) (by omega)).trans (World.putObj_heap_same (by omega))
        have hd3 : W3.heap[w.heap.size]? = some (.deferred (some [])) := (hk3.block _ (by rw [hsb]; omega) (by omega)).trans ((World.putObj_heap_other (by omega)).trans hda)
        have hs3 : w.heap.size + 2 ≤ W3.heap.size := Nat.le_trans (by rw [hsb]; exact hsa) hk3.size
        refine ⟨_, _, run_endRound none hl3, rfl, ⟨hI _ _ _ hi3 (below_put _ _ (by omega) (by omega)), by simpa using hs3, ?_, ?_⟩, ?_⟩
        · exact World.putObj_heap_same (by omega)
        · exact (World.putObj_heap_other (by omega)).trans hd3
        · rw [hs1]
          exact (((hka.mono (fun k _ h => by omega)).trans ((kept_put Wa _ _).mono (fun k _ h => by omega))).trans (hk3.mono (fun k _ h => by omega))).trans ((kept_put W3 _ _).mono (fun k _ h => by omega))
      | _ => exact hp.elim
    · rintro e W2 ⟨⟨v, rfl⟩, hi, hz, hl, hd⟩
      refine ⟨none, _, run_endLoop hl (by simp [rec_]), hdone _ _ (Nat.le_refl _) (hI _ _ _ hi (below_put _ _ (by omega) (by omega))) ((World.putObj_heap_other (by omega)).trans hd)⟩
end Go.Proofs.Ytbalbachmeiehaa
