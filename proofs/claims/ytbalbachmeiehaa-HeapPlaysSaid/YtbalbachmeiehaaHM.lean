/-
  The map of sendings of a queue: which sendings are there.
-/
import Derived.Test.YtbalbachmeiehaaHA
import Derived.Maps.OwnSet
import Derived.DeepKeys4
namespace Go.Proofs.Ytbalbachmeiehaa
open Go.ChangeShapes Go.WideShapes Go.ChangeAt Go.Shelf Go.RowKit Go.Lib Go.Sort Go.Deep Go.Maps
set_option linter.unusedVariables false

theorem sendRow : (68 : TypeId) < Try.prog.types.size := of_decide_eq_true (by kernel_rfl)
theorem sendWide : (match Try.prog.underlying 68 with | some (.array _ _) | some (.struct _) => true | _ => false) = true := by rw [Try.underlying68]
theorem sendLaw : Keyed Try.prog 68 := Keyed.of_law (deep_law_laid laidOut (m := 2) (by omega) sendRow (by kernel_rfl) sendWide)
theorem cellsSend : Try.prog.cellsOf 68 = 2 := by kernel_rfl
theorem cellsInt : Try.prog.cellsOf 3 = 1 := by kernel_rfl
/-- A sending as a value. -/
def sendV (f u : Int) : Value := .agg #[.int .i64 f, .int .i64 u]
/-- What it reads as. -/
def sendL (f u : Int) : Lit := .string (keyBytes [.int .i64 f, .int .i64 u])
theorem keyTypes : Try.prog.types.size = 113 := by kernel_rfl
theorem keyLits_send (d : Nat) {f u : Int} (hf : (Lit.int .i64 f).wf = true) (hu : (Lit.int .i64 u).wf = true) : Try.prog.keyLits (d + 2) 68 [.int .i64 f, .int .i64 u] = some [.int .i64 f, .int .i64 u] := by
  simp [Program.keyLits, Try.underlying68, Try.underlying3, cellsSend, cellsInt, hf, hu]
theorem keyOf_send {f u : Int} (hf : (Lit.int .i64 f).wf = true) (hu : (Lit.int .i64 u).wf = true) : keyOf Try.prog 68 (sendV f u) = some (sendL f u) := by
  have hk : Try.prog.keyType 68 = true := by kernel_rfl
  have hfm : (sendV f u).formed Try.prog 68 = true := by simp [sendV, Value.formed, Try.underlying68, cellsSend]
  unfold keyOf
  rw [Try.underlying68]
  simp only [hk, hfm, Bool.and_self, if_true]
  rw [keyTypes]
  have e : (sendV f u).cells.toList = [.int .i64 f, .int .i64 u] := rfl
  rw [e, show (113 + 1 : Nat) = (113 - 1) + 2 from rfl, keyLits_send _ hf hu]
  rfl
theorem sendL_ne {f u f' u' : Int} (hf : (Lit.int .i64 f).wf = true) (hu : (Lit.int .i64 u).wf = true) (hf' : (Lit.int .i64 f').wf = true) (hu' : (Lit.int .i64 u').wf = true) (h : ¬ (f' = f ∧ u' = u)) : sendL f' u' ≠ sendL f u := by
  intro e
  have := sendLaw.inj (keyOf_send hf' hu') (e ▸ keyOf_send hf hu)
  simp [sendV] at this
  exact h this
theorem unitZero (w : World) : (zeroValue 71).run Try.prog w = .ok (.agg #[]) w := by kernel_rfl

/-- Is the sending among them? -/
def hasS (T : List M) (f u : Int) : Bool := T.any fun m => decide (m.k.f = f) && decide (m.u = u)
/-- Block mb is the map of the sendings of T. -/
def SendsAt (w : World) (mb n : Nat) (T : List M) : Prop :=
  ∃ D : DataW Unit, w.ownsMap Try.prog 68 unitElem mb n D ∧ ∀ f u, (Lit.int .i64 f).wf = true → (Lit.int .i64 u).wf = true → has D (sendL f u) = hasS T f u
theorem SendsAt.made (w : World) : SendsAt (w.alloc (.map #[] 0)) w.heap.size 0 [] := ⟨_, World.ownsMap_made _ _ _ _, fun _ _ _ _ => rfl⟩
theorem SendsAt.mono {w : World} {mb n n' : Nat} {T : List M} (h : SendsAt w mb n T) (hn : n ≤ n') : SendsAt w mb n' T := by
  obtain ⟨D, h1, h2⟩ := h
  exact ⟨D, h1.mono hn, h2⟩
theorem SendsAt.congr {w : World} {mb n : Nat} {T T' : List M} (h : SendsAt w mb n T) (hT : ∀ f u, hasS T f u = hasS T' f u) : SendsAt w mb n T' := by
  obtain ⟨D, h1, h2⟩ := h
  exact ⟨D, h1, fun f u hf hu => (h2 f u hf hu).trans (hT f u)⟩
theorem SendsAt.lt {w : World} {mb n : Nat} {T : List M} (h : SendsAt w mb n T) : mb < w.heap.size := by
  obtain ⟨D, h1, _⟩ := h
  exact h1.lt
theorem SendsAt.block {w w' : World} {mb n : Nat} {T : List M} (h : SendsAt w mb n T) (hb : w'.heap[mb]? = w.heap[mb]?) : SendsAt w' mb n T := by
  obtain ⟨D, ⟨es, clock, h0, r⟩, h2⟩ := h
  exact ⟨D, ⟨es, clock, hb.trans h0, r⟩, h2⟩
theorem SendsAt.kept {S : Nat → Prop} {w w' : World} {mb n : Nat} {T : List M} (h : SendsAt w mb n T) (hk : KeptOff S w w') (hn : ¬ S mb) : SendsAt w' mb n T := h.block (hk.block mb h.lt hn)
/-- Behind a store. -/
theorem sends_put {w : World} {mb n : Nat} {T : List M} {D : DataW Unit} (hI : IsMap D) (m : M) (hm : m.fits) (h2 : ∀ f u, (Lit.int .i64 f).wf = true → (Lit.int .i64 u).wf = true → has D (sendL f u) = hasS T f u)
    (h1 : w.ownsMap Try.prog 68 unitElem mb n (D.put (sendL m.k.f m.u) (.agg []))) : SendsAt w mb n (T ++ [m]) := by
  refine ⟨_, h1, fun f u hf hu => ?_⟩
  by_cases e : f = m.k.f ∧ u = m.u
  · obtain ⟨rfl, rfl⟩ := e
    rw [has_put_same hI (sendLaw.key (keyOf_send hf hu))]
    simp [hasS]
  · rw [has_put_other (sendL_ne hm.1.2.1 hm.2.2.2 hf hu e), h2 f u hf hu]
    have : ¬ (m.k.f = f ∧ m.u = u) := fun h => e ⟨h.1.symm, h.2.symm⟩
    simp only [hasS, List.any_append, List.any_cons, List.any_nil, Bool.or_false]
    have e2 : (decide (m.k.f = f) && decide (m.u = u)) = false := by
      by_cases a : m.k.f = f <;> by_cases b : m.u = u <;> simp_all
    rw [e2, Bool.or_false]
/-- Behind a delete. -/
theorem sends_del {w : World} {mb n : Nat} {T T' : List M} {D : DataW Unit} (m : M) (hm : m.fits) (h2 : ∀ f u, (Lit.int .i64 f).wf = true → (Lit.int .i64 u).wf = true → has D (sendL f u) = hasS T f u)
    (h1 : w.ownsMap Try.prog 68 unitElem mb n (D.del (sendL m.k.f m.u))) (hT : ∀ f u, hasS T' f u = (hasS T f u && !(decide (f = m.k.f) && decide (u = m.u)))) : SendsAt w mb n T' := by
  refine ⟨_, h1, fun f u hf hu => ?_⟩
  rw [hT]
  by_cases e : f = m.k.f ∧ u = m.u
  · obtain ⟨rfl, rfl⟩ := e
    rw [has_del_same]
    simp
  · rw [has_del_other (sendL_ne hm.1.2.1 hm.2.2.2 hf hu e), h2 f u hf hu]
    have : (decide (f = m.k.f) && decide (u = m.u)) = false := by
      by_cases a : f = m.k.f <;> by_cases b : u = m.u <;> simp_all
    rw [this]
    simp
end Go.Proofs.Ytbalbachmeiehaa
