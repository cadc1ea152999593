
/-
  Keys, messages and slices of messages that can be read, as plain data.
-/
import Derived.Test.YtobfjfmaicmkdaaEvent3
import Derived.SizedLaws
import Derived.ShutString
import Derived.ChangeOld
import Derived.Below
import Derived.Deep.Slices
import Derived.Deep.Fields
import Derived.ChangeSame
namespace Go.Proofs.Ytobfjfmaicmkdaa
open Go.ChangeShapes Go.WideShapes Go.ChangeAt Go.RowKit Go.Sort Go.Deep

theorem cells2 : Try.prog.cellsOf 2 = 1 := by kernel_rfl
theorem cells3 : Try.prog.cellsOf 3 = 1 := by kernel_rfl
theorem cells4 : Try.prog.cellsOf 4 = 1 := by kernel_rfl
theorem own : ownKnob Try.prog.godebug = none := by kernel_rfl
theorem laidOut : laidOutB Try.prog = true := by kernel_rfl

/-- The numbers of a key fit. -/
def K.fits (k : K) : Prop := (Lit.int .i64 k.t).wf = true ∧ (Lit.int .i64 k.f).wf = true ∧ (Lit.int .i64 k.s).wf = true
def M.fits (m : M) : Prop := m.k.fits ∧ (Lit.int .i64 m.to).wf = true ∧ (Lit.int .i64 m.v).wf = true ∧ (Lit.int .i64 m.u).wf = true

section
variable {H : Type} {enc : TypeId × Value → H} {w : World} {base : Nat} {spare : Nat → Bool} {held : Bool}

/-- A slice value reads as the messages ms. -/
def Msgs (w : World) (a : Option Addr) (len cap : Nat) (ms : List M) : Prop :=
  ms.length = len ∧ len ≤ cap ∧ cap ≤ maxLen ∧ (∀ m ∈ ms, m.fits) ∧ (len = 0 ∨ ∃ b off, a = some ⟨b, off, none⟩ ∧ ∀ i, i < len → MsgAt w b (off + i * 7) (ms.getD i default))
theorem Msgs.read {w w' : World} {a : Option Addr} {len cap : Nat} {ms : List M} (h : Msgs w a len cap ms) (hr : Read w w') : Msgs w' a len cap ms := by
  obtain ⟨h1, h2, h3, hf, h4⟩ := h
  refine ⟨h1, h2, h3, hf, h4.imp id ?_⟩
  rintro ⟨b, off, ha, hm⟩
  exact ⟨b, off, ha, fun i hi => (hm i hi).read hr⟩

end
theorem Read.below {w w' : World} (h : Read w w') : Below w.heap.size w w' := by
  obtain ⟨q, os, rfl⟩ := h
  exact ⟨rfl, rfl, rfl, by simp [grow], fun i hi => by
    show ((w.drewN q).heap ++ os)[i]? = _
    rw [Array.getElem?_append_left (by exact hi)]
    rfl⟩

end Go.Proofs.Ytobfjfmaicmkdaa
