
/-
  Keys, messages and slices of messages that can be read, as plain data.
-/
import Derived.Test.YtjbammgnkegecaaEvent3
import Derived.SizedLaws
import Derived.ShutString
import Derived.ChangeOld
import Derived.Below
import Derived.Deep.Slices
import Derived.Deep.Fields
import Derived.ChangeSame
namespace Go.Proofs.Ytjbammgnkegecaa
open Go.ChangeShapes Go.WideShapes Go.ChangeAt Go.RowKit Go.Sort Go.Deep

theorem cells2 : Try.prog.cellsOf 2 = 1 := by kernel_rfl
theorem cells3 : Try.prog.cellsOf 3 = 1 := by kernel_rfl
theorem cells4 : Try.prog.cellsOf 4 = 1 := by kernel_rfl
theorem cellsK : Try.prog.cellsOf 33 = 3 := by kernel_rfl
theorem cellsM : Try.prog.cellsOf 35 = 7 := by kernel_rfl
theorem bytesM : Try.prog.bytesOf 35 = 56 := by kernel_rfl
theorem own : ownKnob Try.prog.godebug = none := by kernel_rfl
theorem laidOut : laidOutB Try.prog = true := by kernel_rfl

/-- The numbers of a key fit. -/
def K.fits (k : K) : Prop := (Lit.int .i64 k.t).wf = true ∧ (Lit.int .i64 k.f).wf = true ∧ (Lit.int .i64 k.s).wf = true
def M.fits (m : M) : Prop := m.k.fits ∧ (Lit.int .i64 m.to).wf = true ∧ (Lit.int .i64 m.v).wf = true ∧ (Lit.int .i64 m.u).wf = true

section
variable {H : Type} {enc : TypeId × Value → H} {w : World} {base : Nat} {spare : Nat → Bool} {held : Bool}

set_option maxRecDepth 100000 in
theorem openK {fuel : Nat} {cs : List Value} {x : DataW H × List MemPlace} (h : DataW.trod enc Try.prog w base spare held fuel 33 cs = some x) :
    ∃ k : K, cs = [.int .i64 k.t, .int .i64 k.f, .int .i64 k.s] ∧ k.fits := by
  obtain ⟨xs, n, _, _, hlen, hxl, hg⟩ := DataW.trod_struct Try.underlying33 h
  have hc : cs.length = 3 := hlen.trans cellsK
  match cs, hc with
  | [c0, c1, c2], _ =>
    match xs, hxl with
    | [y0, y1, y2], _ =>
      have g0 := hg 0 _ rfl
      have g1 := hg 1 _ rfl
      have g2 := hg 2 _ rfl
      simp [cells2, cells3] at g0 g1 g2
      obtain ⟨n0, h0, _, w0⟩ := DataW.trod_int Try.underlying2 g0
      obtain ⟨n1, h1, _, w1⟩ := DataW.trod_int Try.underlying3 g1
      obtain ⟨n2, h2, _, w2⟩ := DataW.trod_int Try.underlying3 g2
      simp only [List.cons.injEq, and_true] at h0 h1 h2
      subst h0 h1 h2
      exact ⟨⟨n0, n1, n2⟩, rfl, w0, w1, w2⟩

set_option maxRecDepth 100000 in
theorem openM {fuel : Nat} {cs : List Value} {x : DataW H × List MemPlace} (h : DataW.trod enc Try.prog w base spare held fuel 35 cs = some x) :
    ∃ m : M, cs = m.cells.toList ∧ m.fits := by
  obtain ⟨xs, n, _, _, hlen, hxl, hg⟩ := DataW.trod_struct Try.underlying35 h
  have hc : cs.length = 7 := hlen.trans cellsM
  match cs, hc with
  | [c0, c1, c2, c3, c4, c5, c6], _ =>
    match xs, hxl with
    | [y0, y1, y2, y3, y4], _ =>
      have g0 := hg 0 _ rfl
      have g1 := hg 1 _ rfl
      have g2 := hg 2 _ rfl
      have g3 := hg 3 _ rfl
      have g4 := hg 4 _ rfl
      simp [cells2, cells3, cells4, cellsK] at g0 g1 g2 g3 g4
      obtain ⟨k, hk, wk⟩ := openK g0
      obtain ⟨n1, h1, _, w1⟩ := DataW.trod_int Try.underlying3 g1
      obtain ⟨n2, h2, _, w2⟩ := DataW.trod_int Try.underlying2 g2
      obtain ⟨n3, h3, _, w3⟩ := DataW.trod_int Try.underlying3 g3
      obtain ⟨b4, h4, _⟩ := DataW.trod_bool Try.underlying4 g4
      simp only [List.cons.injEq, and_true] at hk h1 h2 h3 h4
      obtain ⟨rfl, rfl, rfl⟩ := hk
      subst h1 h2 h3 h4
      exact ⟨⟨k, n1, n2, n3, b4⟩, rfl, wk, w1, w2, w3⟩

set_option maxRecDepth 100000 in
theorem openKarg {r : Reach} {b0 : Nat} {v : Value} {d : DataW H} {p : List MemPlace} (hv : Value.okWide Try.prog w r b0 33 v) (h : DataW.Trod enc Try.prog w base spare held 33 v d p) : ∃ k : K, v = k.val ∧ k.fits := by
  obtain ⟨cs, rfl, _⟩ := okWide_struct Try.underlying33 hv
  obtain ⟨fuel, hf⟩ := h
  obtain ⟨k, hk, wk⟩ := openK hf
  refine ⟨k, ?_, wk⟩
  obtain ⟨l⟩ := cs
  simp [Value.cells] at hk
  rw [hk]
  rfl
set_option maxRecDepth 100000 in
theorem openMarg {r : Reach} {b0 : Nat} {v : Value} {d : DataW H} {p : List MemPlace} (hv : Value.okWide Try.prog w r b0 35 v) (h : DataW.Trod enc Try.prog w base spare held 35 v d p) : ∃ m : M, v = m.val ∧ m.fits := by
  obtain ⟨cs, rfl, _⟩ := okWide_struct Try.underlying35 hv
  obtain ⟨fuel, hf⟩ := h
  obtain ⟨m, hm, wm⟩ := openM hf
  refine ⟨m, ?_, wm⟩
  obtain ⟨l⟩ := cs
  simp [Value.cells] at hm
  rw [hm]
  rfl

/-- A slice value reads as the messages ms. -/
def Msgs (w : World) (a : Option Addr) (len cap : Nat) (ms : List M) : Prop :=
  ms.length = len ∧ len ≤ cap ∧ cap ≤ maxLen ∧ (∀ m ∈ ms, m.fits) ∧ (len = 0 ∨ ∃ b off, a = some ⟨b, off, none⟩ ∧ ∀ i, i < len → MsgAt w b (off + i * 7) (ms.getD i default))
theorem Msgs.read {w w' : World} {a : Option Addr} {len cap : Nat} {ms : List M} (h : Msgs w a len cap ms) (hr : Read w w') : Msgs w' a len cap ms := by
  obtain ⟨h1, h2, h3, hf, h4⟩ := h
  refine ⟨h1, h2, h3, hf, h4.imp id ?_⟩
  rintro ⟨b, off, ha, hm⟩
  exact ⟨b, off, ha, fun i hi => (hm i hi).read hr⟩

end
theorem Read.below {w w' : World} (h : Read w w') : Below w.heap.size w w' := by
  obtain ⟨q, os, rfl⟩ := h
  exact ⟨rfl, rfl, rfl, by simp [grow], fun i hi => by
    show ((w.drewN q).heap ++ os)[i]? = _
    rw [Array.getElem?_append_left (by exact hi)]
    rfl⟩

end Go.Proofs.Ytjbammgnkegecaa
