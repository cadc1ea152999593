/-
  Keys, messages and slices of messages that can be read, as plain data.
-/
import Derived.Test.YtjlbkdghlijoeaaGreatEvent3
import Derived.SizedLaws
import Derived.ShutString
import Derived.ChangeOld
import Derived.Below
import Derived.Deep.Slices
import Derived.Deep.Fields
import Derived.ChangeSame
namespace Go.Proofs.YtjlbkdghlijoeaaGreat
open Go.ChangeShapes Go.WideShapes Go.ChangeAt Go.RowKit Go.Sort Go.Deep

theorem cells2 : Tryz.prog.cellsOf 2 = 1 := by kernel_rfl
theorem cells3 : Tryz.prog.cellsOf 3 = 1 := by kernel_rfl
theorem cells4 : Tryz.prog.cellsOf 4 = 1 := by kernel_rfl
theorem cellsK : Tryz.prog.cellsOf 32 = 3 := by kernel_rfl
theorem cellsM : Tryz.prog.cellsOf 34 = 7 := by kernel_rfl
theorem bytesM : Tryz.prog.bytesOf 34 = 56 := by kernel_rfl
theorem own : ownKnob Tryz.prog.godebug = none := by kernel_rfl
theorem laidOut : laidOutB Tryz.prog = true := by kernel_rfl

/-- The numbers of a key fit. -/
def K.fits (k : K) : Prop := (Lit.int .i64 k.t).wf = true ∧ (Lit.int .i64 k.f).wf = true ∧ (Lit.int .i64 k.s).wf = true
def M.fits (m : M) : Prop := m.k.fits ∧ (Lit.int .i64 m.to).wf = true ∧ (Lit.int .i64 m.v).wf = true ∧ (Lit.int .i64 m.u).wf = true

section
variable {H : Type} {enc : TypeId × Value → H} {w : World} {base : Nat} {spare : Nat → Bool} {held : Bool}

set_option maxRecDepth 100000 in
theorem openK {fuel : Nat} {cs : List Value} {x : DataW H × List MemPlace} (h : DataW.trod enc Tryz.prog w base spare held fuel 32 cs = some x) :
    ∃ k : K, cs = [.int .i64 k.t, .int .i64 k.f, .int .i64 k.s] ∧ k.fits := by
  obtain ⟨xs, n, _, _, hlen, hxl, hg⟩ := DataW.trod_struct Tryz.underlying32 h
  have hc : cs.length = 3 := hlen.trans cellsK
  match cs, hc with
  | [c0, c1, c2], _ =>
    match xs, hxl with
    | [y0, y1, y2], _ =>
      have g0 := hg 0 _ rfl
      have g1 := hg 1 _ rfl
      have g2 := hg 2 _ rfl
      simp [cells2, cells3] at g0 g1 g2
      obtain ⟨n0, h0, _, w0⟩ := DataW.trod_int Tryz.underlying2 g0
      obtain ⟨n1, h1, _, w1⟩ := DataW.trod_int Tryz.underlying3 g1
      obtain ⟨n2, h2, _, w2⟩ := DataW.trod_int Tryz.underlying3 g2
      simp only [List.cons.injEq, and_true] at h0 h1 h2
      subst h0 h1 h2
      exact ⟨⟨n0, n1, n2⟩, rfl, w0, w1, w2⟩

set_option maxRecDepth 100000 in
theorem openM {fuel : Nat} {cs : List Value} {x : DataW H × List MemPlace} (h : DataW.trod enc Tryz.prog w base spare held fuel 34 cs = some x) :
    ∃ m : M, cs = m.cells.toList ∧ m.fits := by
  obtain ⟨xs, n, _, _, hlen, hxl, hg⟩ := DataW.trod_struct Tryz.underlying34 h
  have hc : cs.length = 7 := hlen.trans cellsM
  match cs, hc with
  | [c0, c1, c2, c3, c4, c5, c6], _ =>
    match xs, hxl with
    | [y0, y1, y2, y3, y4], _ =>
      have g0 := hg 0 _ rfl
      have g1 := hg 1 _ rfl
      have g2 := hg 2 _ rfl
      have g3 := hg 3 _ rfl
      have g4 := hg 4 _ rfl
      simp [cells2, cells3, cells4, cellsK] at g0 g1 g2 g3 g4
      obtain ⟨k, hk, wk⟩ := openK g0
      obtain ⟨n1, h1, _, w1⟩ := DataW.trod_int Tryz.underlying3 g1
      obtain ⟨n2, h2, _, w2⟩ := DataW.trod_int Tryz.underlying2 g2
      obtain ⟨n3, h3, _, w3⟩ := DataW.trod_int Tryz.underlying3 g3
      obtain ⟨b4, h4, _⟩ := DataW.trod_bool Tryz.underlying4 g4
      simp only [List.cons.injEq, and_true] at hk h1 h2 h3 h4
      obtain ⟨rfl, rfl, rfl⟩ := hk
      subst h1 h2 h3 h4
      exact ⟨⟨k, n1, n2, n3, b4⟩, rfl, wk, w1, w2, w3⟩

set_option maxRecDepth 100000 in
theorem openKarg {r : Reach} {b0 : Nat} {v : Value} {d : DataW H} {p : List MemPlace} (hv : Value.okWide Tryz.prog w r b0 32 v) (h : DataW.Trod enc Tryz.prog w base spare held 32 v d p) : ∃ k : K, v = k.val ∧ k.fits := by
  obtain ⟨cs, rfl, _⟩ := okWide_struct Tryz.underlying32 hv
  obtain ⟨fuel, hf⟩ := h
  obtain ⟨k, hk, wk⟩ := openK hf
  refine ⟨k, ?_, wk⟩
  obtain ⟨l⟩ := cs
  simp [Value.cells] at hk
  rw [hk]
  rfl
set_option maxRecDepth 100000 in
theorem openMarg {r : Reach} {b0 : Nat} {v : Value} {d : DataW H} {p : List MemPlace} (hv : Value.okWide Tryz.prog w r b0 34 v) (h : DataW.Trod enc Tryz.prog w base spare held 34 v d p) : ∃ m : M, v = m.val ∧ m.fits := by
  obtain ⟨cs, rfl, _⟩ := okWide_struct Tryz.underlying34 hv
  obtain ⟨fuel, hf⟩ := h
  obtain ⟨m, hm, wm⟩ := openM hf
  refine ⟨m, ?_, wm⟩
  obtain ⟨l⟩ := cs
  simp [Value.cells] at hm
  rw [hm]
  rfl

/-- A slice value reads as the messages ms. -/
def Msgs (w : World) (a : Option Addr) (len cap : Nat) (ms : List M) : Prop :=
  ms.length = len ∧ len ≤ cap ∧ cap ≤ maxLen ∧ (∀ m ∈ ms, m.fits) ∧ (len = 0 ∨ ∃ b off, a = some ⟨b, off, none⟩ ∧ ∀ i, i < len → MsgAt w b (off + i * 7) (ms.getD i default))
theorem Msgs.read {w w' : World} {a : Option Addr} {len cap : Nat} {ms : List M} (h : Msgs w a len cap ms) (hr : Read w w') : Msgs w' a len cap ms := by
  obtain ⟨h1, h2, h3, hf, h4⟩ := h
  refine ⟨h1, h2, h3, hf, h4.imp id ?_⟩
  rintro ⟨b, off, ha, hm⟩
  exact ⟨b, off, ha, fun i hi => (hm i hi).read hr⟩

theorem openMs {fuel : Nat} {a : Option Addr} {len cap : Nat} {x : DataW H × List MemPlace} (h : DataW.trod enc Tryz.prog w base spare held fuel 38 [.slice a len cap] = some x) (hlt : ∀ y ∈ x.2, y.block < w.heap.size) :
    ∃ ms : List M, Msgs w a len cap ms := by
  rcases open_slice Tryz.underlying38 h with ⟨hcs, _⟩ | ⟨y, l, c, m, n, D, Pl, hcs, _, hl, hm, hmm, hx, hi⟩
  · simp at hcs
    obtain ⟨rfl, rfl, rfl⟩ := hcs
    exact ⟨[], rfl, by omega, by unfold maxLen; omega, by simp, .inl rfl⟩
  · simp at hcs
    obtain ⟨rfl, rfl, rfl⟩ := hcs
    have hml : len ≤ m := by rw [hmm]; split <;> omega
    have hM : ∀ i, i < len → ∃ mm : M, mm.fits ∧ ∀ j, j < 7 → w.cell? ((y.add (i * 7)).add j) = mm.cells.toList[j]? := by
      intro i hilt
      obtain ⟨cs', hc, ht⟩ := hi i (by omega)
      rw [cellsM] at hc
      obtain ⟨mm, rfl, wm⟩ := openM ht
      obtain ⟨_, _, hat⟩ := World.cells?_some hc
      exact ⟨mm, wm, hat⟩
    refine ⟨(List.range len).map fun i => if hilt : i < len then (hM i hilt).choose else default, by simp, hl, hm, ?_, ?_⟩
    · intro mm hmem
      simp only [List.mem_map, List.mem_range] at hmem
      obtain ⟨i, hilt, rfl⟩ := hmem
      rw [dif_pos hilt]
      exact (hM i hilt).choose_spec.1
    · by_cases h0 : len = 0
      · exact .inl h0
      · obtain ⟨b, off, spot⟩ := y
        have hspot : spot = none := by
          have := (hM 0 (by omega)).choose_spec.2 0 (by omega)
          simp [M.cells] at this
          simpa [Addr.add] using World.cell?_spot this
        subst hspot
        have hbW : b < w.heap.size := by
          refine hlt (.cell b off) ?_
          rw [hx, cellsM]
          exact List.mem_append_left _ (MemPlace.mem_row.2 ⟨0, by omega, by simp⟩)
        refine .inr ⟨b, off, rfl, fun i hilt => ?_⟩
        have hc := (hM i hilt).choose_spec.2
        have hg : ((List.range len).map fun i => if hilt : i < len then (hM i hilt).choose else default).getD i default = (hM i hilt).choose := by
          simp [List.getD_eq_getElem?_getD, hilt]
        rw [hg]
        generalize (hM i hilt).choose = mm at hc
        simp only [add_plain] at hc
        have c0 := hc 0 (by omega)
        have c1 := hc 1 (by omega)
        have c2 := hc 2 (by omega)
        have c3 := hc 3 (by omega)
        have c4 := hc 4 (by omega)
        have c5 := hc 5 (by omega)
        have c6 := hc 6 (by omega)
        simp [M.cells] at c0 c1 c2 c3 c4 c5 c6
        exact ⟨hbW, c0, c1, c2, c3, c4, c5, c6⟩

theorem openMs_len {ts : List TypeId} {ds : List (DataW H)} (h : (DataW.weightsEach Tryz.prog ts ds).all (· ≤ reachBytes) = true) {j : Nat} {d : DataW H} {a : Option Addr} {len cap : Nat} {p : List MemPlace} (ht : ts[j]? = some 38) (hd : ds[j]? = some d)
    (hk : DataW.Trod enc Tryz.prog w base spare held 38 (.slice a len cap) d p) : len * 56 ≤ 140737488351232 := by
  obtain ⟨fuel, hf⟩ := hk
  simp [Value.cells] at hf
  rcases open_slice Tryz.underlying38 hf with ⟨hcs, _⟩ | ⟨y, l, c, m, n, D, Pl, hcs, _, hl, hm, hmm, hx, hi⟩
  · simp at hcs
    omega
  · simp at hcs
    obtain ⟨rfl, rfl, rfl⟩ := hcs
    simp only [Prod.mk.injEq] at hx
    have := sized_slice h ht (hd.trans (by rw [hx.1])) Tryz.underlying38
    rw [bytesM] at this
    simp only [List.length_map, List.length_range, reachBytes] at this
    omega
end

theorem Read.below {w w' : World} (h : Read w w') : Below w.heap.size w w' := by
  obtain ⟨q, os, rfl⟩ := h
  exact ⟨rfl, rfl, rfl, by simp [grow], fun i hi => by
    show ((w.drewN q).heap ++ os)[i]? = _
    rw [Array.getElem?_append_left (by exact hi)]
    rfl⟩

end Go.Proofs.YtjlbkdghlijoeaaGreat
