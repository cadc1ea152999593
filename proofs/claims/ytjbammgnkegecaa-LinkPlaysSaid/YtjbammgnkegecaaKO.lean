
/-
  What comes in: parcels, links, numbers, words, scripts of calls.
-/
import Derived.Test.YtjbammgnkegecaaKA
import Derived.Deep.Slices
namespace Go.Proofs.Ytjbammgnkegecaa
open Go.ChangeShapes Go.WideShapes Go.ChangeAt Go.Shelf Go.RowKit Go.Lib Go.Sort Go.Deep
set_option linter.unusedVariables false
set_option maxRecDepth 4000

theorem wf_i64 {n : Int} (h : (Lit.int .i64 n).wf = true) : -9223372036854775808 ≤ n ∧ n ≤ 9223372036854775807 := by
  simpa [Lit.wf, IntKind.min, IntKind.max, IntKind.signed, IntKind.bits] using h
theorem wf_i16 {n : Int} (h : (Lit.int .i16 n).wf = true) : -32768 ≤ n ∧ n ≤ 32767 := by
  simpa [Lit.wf, IntKind.min, IntKind.max, IntKind.signed, IntKind.bits] using h
theorem wf_i8 {n : Int} (h : (Lit.int .i8 n).wf = true) : -128 ≤ n ∧ n ≤ 127 := by
  simpa [Lit.wf, IntKind.min, IntKind.max, IntKind.signed, IntKind.bits] using h
theorem wf_u8n {n : Int} (h : (Lit.int .u8 n).wf = true) : 0 ≤ n ∧ n ≤ 255 := by
  simpa [Lit.wf, IntKind.min, IntKind.max, IntKind.signed, IntKind.bits] using h
theorem cellsPc : Try.prog.cellsOf 37 = 8 := by kernel_rfl
theorem cellsL : Try.prog.cellsOf 23 = 4 := by kernel_rfl
theorem cellsO : Try.prog.cellsOf 39 = 10 := by kernel_rfl
theorem bytesO : Try.prog.bytesOf 39 = 80 := by kernel_rfl

/-- A call that lies in memory. -/
def OpC (w : World) (b o : Nat) (what n : Int) (p : Pc) : Prop := w.cell? ⟨b, o, none⟩ = some (.int .i64 what) ∧ w.cell? ⟨b, o + 1, none⟩ = some (.int .i64 n) ∧ PcAt w b (o + 2) p
/-- A script that can be read. -/
def Ops (w : World) (a : Option Addr) (len cap : Nat) : Prop := len ≤ cap ∧ cap ≤ maxLen ∧ (len = 0 ∨ ∃ b off, a = some ⟨b, off, none⟩ ∧ b < w.heap.size ∧ ∀ i, i < len → ∃ (what n : Int) (p : Pc), p.fits ∧ OpC w b (off + i * 10) what n p)
/-- Numbers that can be read. -/
def Nums (w : World) (a : Option Addr) (len cap : Nat) : Prop := len ≤ cap ∧ cap ≤ maxLen ∧ (len = 0 ∨ ∃ b off, a = some ⟨b, off, none⟩ ∧ b < w.heap.size ∧ ∀ i, i < len → ∃ z : Int, (Lit.int .i64 z).wf = true ∧ w.cell? ⟨b, off + i, none⟩ = some (.int .i64 z))
/-- Words that can be read. -/
def Bools (w : World) (a : Option Addr) (len cap : Nat) : Prop := len ≤ cap ∧ cap ≤ maxLen ∧ (len = 0 ∨ ∃ b off, a = some ⟨b, off, none⟩ ∧ b < w.heap.size ∧ ∀ i, i < len → ∃ z : Bool, w.cell? ⟨b, off + i, none⟩ = some (.bool z))
section
variable {H : Type} {enc : TypeId × Value → H} {w : World} {base : Nat} {spare : Nat → Bool} {held : Bool}
theorem openP {fuel : Nat} {cs : List Value} {x : DataW H × List MemPlace} (h : DataW.trod enc Try.prog w base spare held fuel 37 cs = some x) : ∃ p : Pc, cs = encP p ∧ p.fits := by
  obtain ⟨xs, n, _, _, hlen, hxl, hg⟩ := DataW.trod_struct Try.underlying37 h
  have hc : cs.length = 8 := hlen.trans cellsPc
  match cs, hc with
  | [c0, c1, c2, c3, c4, c5, c6, c7], _ =>
    match xs, hxl with
    | [y0, y1], _ =>
      have g0 := hg 0 _ rfl
      have g1 := hg 1 _ rfl
      simp [cells3, cellsM] at g0 g1
      obtain ⟨m, hm, wm⟩ := openM g0
      obtain ⟨n1, h1, _, w1⟩ := DataW.trod_int Try.underlying3 g1
      simp [M.cells] at hm
      simp only [List.cons.injEq, and_true] at h1
      subst h1
      obtain ⟨rfl, rfl, rfl, rfl, rfl, rfl, rfl⟩ := hm
      exact ⟨⟨m, n1⟩, rfl, wm, w1⟩
theorem openParg {r : Reach} {b0 : Nat} {v : Value} {d : DataW H} {p : List MemPlace} (hv : Value.okWide Try.prog w r b0 37 v) (h : DataW.Trod enc Try.prog w base spare held 37 v d p) : ∃ p : Pc, v = p.val ∧ p.fits := by
  obtain ⟨cs, rfl, _⟩ := okWide_struct Try.underlying37 hv
  obtain ⟨fuel, hf⟩ := h
  obtain ⟨m, hm, wm⟩ := openP hf
  refine ⟨m, ?_, wm⟩
  obtain ⟨l⟩ := cs
  simp [Value.cells] at hm
  rw [hm]
  rfl
/-- A link's four cells. -/
structure Lk where
  f : Int
  t : Int
  k : Int
  b : Bool
def Lk.val (l : Lk) : Value := .agg #[.int .i64 l.f, .int .i64 l.t, .int .i64 l.k, .bool l.b]
theorem openLarg {r : Reach} {b0 : Nat} {v : Value} {d : DataW H} {p : List MemPlace} (hv : Value.okWide Try.prog w r b0 23 v) (h : DataW.Trod enc Try.prog w base spare held 23 v d p) : ∃ l : Lk, v = l.val := by
  obtain ⟨cs, rfl, _⟩ := okWide_struct Try.underlying23 hv
  obtain ⟨fuel, hf⟩ := h
  obtain ⟨xs, n, _, _, hlen, hxl, hg⟩ := DataW.trod_struct Try.underlying23 hf
  obtain ⟨l⟩ := cs
  simp only [Value.cells] at hlen hg
  have hc : l.length = 4 := hlen.trans cellsL
  match l, hc with
  | [c0, c1, c2, c3], _ =>
    match xs, hxl with
    | [y0, y1, y2, y3], _ =>
      have g0 := hg 0 _ rfl
      have g1 := hg 1 _ rfl
      have g2 := hg 2 _ rfl
      have g3 := hg 3 _ rfl
      simp [cells2, cells3, cells4] at g0 g1 g2 g3
      obtain ⟨n0, h0, _, w0⟩ := DataW.trod_int Try.underlying3 g0
      obtain ⟨n1, h1, _, w1⟩ := DataW.trod_int Try.underlying3 g1
      obtain ⟨n2, h2, _, w2⟩ := DataW.trod_int Try.underlying2 g2
      obtain ⟨b3, h3, _⟩ := DataW.trod_bool Try.underlying4 g3
      simp only [List.cons.injEq, and_true] at h0 h1 h2 h3
      subst h0 h1 h2 h3
      exact ⟨⟨n0, n1, n2, b3⟩, rfl⟩
theorem openO {fuel : Nat} {cs : List Value} {x : DataW H × List MemPlace} (h : DataW.trod enc Try.prog w base spare held fuel 39 cs = some x) :
    ∃ (what n : Int) (p : Pc), cs = .int .i64 what :: .int .i64 n :: encP p ∧ p.fits := by
  obtain ⟨xs, n, _, _, hlen, hxl, hg⟩ := DataW.trod_struct Try.underlying39 h
  have hc : cs.length = 10 := hlen.trans cellsO
  match cs, hc with
  | [c0, c1, c2, c3, c4, c5, c6, c7, c8, c9], _ =>
    match xs, hxl with
    | [y0, y1, y2], _ =>
      have g0 := hg 0 _ rfl
      have g1 := hg 1 _ rfl
      have g2 := hg 2 _ rfl
      simp [cells3, cellsPc] at g0 g1 g2
      obtain ⟨n0, h0, _, w0⟩ := DataW.trod_int Try.underlying3 g0
      obtain ⟨n1, h1, _, w1⟩ := DataW.trod_int Try.underlying3 g1
      obtain ⟨p, hp, wp⟩ := openP g2
      simp only [List.cons.injEq, and_true] at h0 h1
      subst h0 h1
      exact ⟨n0, n1, p, by rw [← hp], wp⟩
theorem openOs {fuel : Nat} {a : Option Addr} {len cap : Nat} {x : DataW H × List MemPlace} (h : DataW.trod enc Try.prog w base spare held fuel 24 [.slice a len cap] = some x) (hlt : ∀ y ∈ x.2, y.block < w.heap.size) : Ops w a len cap := by
  rcases open_slice Try.underlying24 h with ⟨hcs, _⟩ | ⟨y, l, c, m, n, D, Pl, hcs, _, hl, hm, hmm, hx, hi⟩
  · simp at hcs
    obtain ⟨rfl, rfl, rfl⟩ := hcs
    exact ⟨by omega, by unfold maxLen; omega, .inl rfl⟩
  · simp at hcs
    obtain ⟨rfl, rfl, rfl⟩ := hcs
    have hml : len ≤ m := by rw [hmm]; split <;> omega
    have hM : ∀ i, i < len → ∃ (what n : Int) (p : Pc), p.fits ∧ ∀ j, j < 10 → w.cell? ((y.add (i * 10)).add j) = (Value.int .i64 what :: Value.int .i64 n :: encP p)[j]? := by
      intro i hilt
      obtain ⟨cs', hc, ht⟩ := hi i (by omega)
      rw [cellsO] at hc
      obtain ⟨what, n, p, rfl, wm⟩ := openO ht
      obtain ⟨_, _, hat⟩ := World.cells?_some hc
      exact ⟨what, n, p, wm, hat⟩
    refine ⟨hl, hm, ?_⟩
    by_cases h0 : len = 0
    · exact .inl h0
    · obtain ⟨b, off, spot⟩ := y
      have hspot : spot = none := by
        obtain ⟨what, n, mm, _, hh⟩ := hM 0 (by omega)
        have := hh 0 (by omega)
        simp at this
        simpa [Addr.add] using World.cell?_spot this
      subst hspot
      have hbW : b < w.heap.size := by
        refine hlt (.cell b off) ?_
        rw [hx, cellsO]
        exact List.mem_append_left _ (MemPlace.mem_row.2 ⟨0, by omega, by simp⟩)
      refine .inr ⟨b, off, rfl, hbW, fun i hilt => ?_⟩
      obtain ⟨what, n, p, hf, hc⟩ := hM i hilt
      simp only [add_plain] at hc
      exact ⟨what, n, p, hf, hc 0 (by omega), hc 1 (by omega), hc 2 (by omega), hc 3 (by omega), hc 4 (by omega), hc 5 (by omega), hc 6 (by omega), hc 7 (by omega), hc 8 (by omega), hc 9 (by omega)⟩
theorem openOs_len {ts : List TypeId} {ds : List (DataW H)} (h : (DataW.weightsEach Try.prog ts ds).all (· ≤ reachBytes) = true) {j : Nat} {d : DataW H} {a : Option Addr} {len cap : Nat} {p : List MemPlace} (ht : ts[j]? = some 24) (hd : ds[j]? = some d)
    (hk : DataW.Trod enc Try.prog w base spare held 24 (.slice a len cap) d p) : len * 80 ≤ 140737488351232 := by
  obtain ⟨fuel, hf⟩ := hk
  simp [Value.cells] at hf
  rcases open_slice Try.underlying24 hf with ⟨hcs, _⟩ | ⟨y, l, c, m, n, D, Pl, hcs, _, hl, hm, hmm, hx, hi⟩
  · simp at hcs
    omega
  · simp at hcs
    obtain ⟨rfl, rfl, rfl⟩ := hcs
    simp only [Prod.mk.injEq] at hx
    have := sized_slice h ht (hd.trans (by rw [hx.1])) Try.underlying24
    rw [bytesO] at this
    simp only [List.length_map, List.length_range, reachBytes] at this
    omega
theorem openNs {t e : TypeId} (ht : Try.prog.underlying t = some (.slice e)) (he : Try.prog.underlying e = some (.int .i64)) (hc : Try.prog.cellsOf e = 1) {fuel : Nat} {a : Option Addr} {len cap : Nat} {x : DataW H × List MemPlace} (h : DataW.trod enc Try.prog w base spare held fuel t [.slice a len cap] = some x) (hlt : ∀ y ∈ x.2, y.block < w.heap.size) : Nums w a len cap := by
  rcases open_slice1 ht hc h with ⟨hcs, _⟩ | ⟨y, l, c, m, n, V, D, Pl, hcs, _, hl, hm, hmm, hx, hi⟩
  · simp at hcs
    obtain ⟨rfl, rfl, rfl⟩ := hcs
    exact ⟨by omega, by unfold maxLen; omega, .inl rfl⟩
  · simp at hcs
    obtain ⟨rfl, rfl, rfl⟩ := hcs
    have hml : len ≤ m := by rw [hmm]; split <;> omega
    refine ⟨hl, hm, ?_⟩
    by_cases h0 : len = 0
    · exact .inl h0
    · obtain ⟨b, off, spot⟩ := y
      have hspot : spot = none := by
        have := (hi 0 (by omega)).1
        simpa [Addr.add] using World.cell?_spot this
      subst hspot
      have hbW : b < w.heap.size := by
        refine hlt (.cell b off) ?_
        rw [hx]
        exact List.mem_append_left _ (MemPlace.mem_row.2 ⟨0, by omega, by simp⟩)
      refine .inr ⟨b, off, rfl, hbW, fun i hilt => ?_⟩
      obtain ⟨h1, h2⟩ := hi i (by omega)
      obtain ⟨z, hz, _, wz⟩ := DataW.trod_int he h2
      simp only [List.cons.injEq, and_true] at hz
      rw [hz, add_plain] at h1
      exact ⟨z, wz, h1⟩
theorem openBos {fuel : Nat} {a : Option Addr} {len cap : Nat} {x : DataW H × List MemPlace} (h : DataW.trod enc Try.prog w base spare held fuel 56 [.slice a len cap] = some x) (hlt : ∀ y ∈ x.2, y.block < w.heap.size) : Bools w a len cap := by
  rcases open_slice1 Try.underlying56 cells4 h with ⟨hcs, _⟩ | ⟨y, l, c, m, n, V, D, Pl, hcs, _, hl, hm, hmm, hx, hi⟩
  · simp at hcs
    obtain ⟨rfl, rfl, rfl⟩ := hcs
    exact ⟨by omega, by unfold maxLen; omega, .inl rfl⟩
  · simp at hcs
    obtain ⟨rfl, rfl, rfl⟩ := hcs
    have hml : len ≤ m := by rw [hmm]; split <;> omega
    refine ⟨hl, hm, ?_⟩
    by_cases h0 : len = 0
    · exact .inl h0
    · obtain ⟨b, off, spot⟩ := y
      have hspot : spot = none := by
        have := (hi 0 (by omega)).1
        simpa [Addr.add] using World.cell?_spot this
      subst hspot
      have hbW : b < w.heap.size := by
        refine hlt (.cell b off) ?_
        rw [hx]
        exact List.mem_append_left _ (MemPlace.mem_row.2 ⟨0, by omega, by simp⟩)
      refine .inr ⟨b, off, rfl, hbW, fun i hilt => ?_⟩
      obtain ⟨h1, h2⟩ := hi i (by omega)
      obtain ⟨z, hz, _⟩ := DataW.trod_bool Try.underlying4 h2
      simp only [List.cons.injEq, and_true] at hz
      rw [hz, add_plain] at h1
      exact ⟨z, h1⟩
end
end Go.Proofs.Ytjbammgnkegecaa
