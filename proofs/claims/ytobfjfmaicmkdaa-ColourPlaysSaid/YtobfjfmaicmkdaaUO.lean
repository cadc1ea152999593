
/-
  What comes in: a script of calls on tallies; numbers.
-/
import Derived.Test.YtobfjfmaicmkdaaUD
import Derived.Deep.Slices
namespace Go.Proofs.Ytobfjfmaicmkdaa
open Go.ChangeShapes Go.WideShapes Go.ChangeAt Go.Shelf Go.RowKit Go.Lib Go.Sort Go.Deep
set_option linter.unusedVariables false
set_option maxRecDepth 4000

theorem wf_i64 {n : Int} (h : (Lit.int .i64 n).wf = true) : -9223372036854775808 ≤ n ∧ n ≤ 9223372036854775807 := by
  simpa [Lit.wf, IntKind.min, IntKind.max, IntKind.signed, IntKind.bits] using h
theorem wf_u8n {n : Int} (h : (Lit.int .u8 n).wf = true) : 0 ≤ n ∧ n ≤ 255 := by
  simpa [Lit.wf, IntKind.min, IntKind.max, IntKind.signed, IntKind.bits] using h
theorem cellsO : Try.prog.cellsOf 38 = 4 := by kernel_rfl
/-- A call: what, whose, a number, a time. -/
structure Oc where
  what : Int
  a : Int
  n : Int
  t : Int
def Oc.fits (o : Oc) : Prop := (Lit.int .i64 o.what).wf = true ∧ (Lit.int .i64 o.a).wf = true ∧ (Lit.int .i64 o.n).wf = true ∧ (Lit.int .i64 o.t).wf = true
def OpC (w : World) (b o : Nat) (x : Oc) : Prop := w.cell? ⟨b, o, none⟩ = some (.int .i64 x.what) ∧ w.cell? ⟨b, o + 1, none⟩ = some (.int .i64 x.a) ∧ w.cell? ⟨b, o + 2, none⟩ = some (.int .i64 x.n) ∧ w.cell? ⟨b, o + 3, none⟩ = some (.int .i64 x.t)
/-- A script that can be read. -/
def Ops (w : World) (a : Option Addr) (len cap : Nat) : Prop := len ≤ cap ∧ cap ≤ maxLen ∧ (len = 0 ∨ ∃ b off, a = some ⟨b, off, none⟩ ∧ b < w.heap.size ∧ ∀ i, i < len → ∃ x : Oc, x.fits ∧ OpC w b (off + i * 4) x)
/-- Numbers that can be read. -/
def Nums (k : IntKind) (w : World) (a : Option Addr) (len cap : Nat) : Prop := len ≤ cap ∧ cap ≤ maxLen ∧ (len = 0 ∨ ∃ b off, a = some ⟨b, off, none⟩ ∧ b < w.heap.size ∧ ∀ i, i < len → ∃ z : Int, (Lit.int k z).wf = true ∧ w.cell? ⟨b, off + i, none⟩ = some (.int k z))
section
variable {H : Type} {enc : TypeId × Value → H} {w : World} {base : Nat} {spare : Nat → Bool} {held : Bool}
theorem openO {fuel : Nat} {cs : List Value} {x : DataW H × List MemPlace} (h : DataW.trod enc Try.prog w base spare held fuel 38 cs = some x) :
    ∃ o : Oc, cs = [.int .i64 o.what, .int .i64 o.a, .int .i64 o.n, .int .i64 o.t] ∧ o.fits := by
  obtain ⟨xs, n, _, _, hlen, hxl, hg⟩ := DataW.trod_struct Try.underlying38 h
  have hc : cs.length = 4 := hlen.trans cellsO
  match cs, hc with
  | [c0, c1, c2, c3], _ =>
    match xs, hxl with
    | [y0, y1, y2, y3], _ =>
      have g0 := hg 0 _ rfl
      have g1 := hg 1 _ rfl
      have g2 := hg 2 _ rfl
      have g3 := hg 3 _ rfl
      simp [cells3, cells2] at g0 g1 g2 g3
      obtain ⟨n0, h0, _, w0⟩ := DataW.trod_int Try.underlying3 g0
      obtain ⟨n1, h1, _, w1⟩ := DataW.trod_int Try.underlying3 g1
      obtain ⟨n2, h2, _, w2⟩ := DataW.trod_int Try.underlying3 g2
      obtain ⟨n3, h3, _, w3⟩ := DataW.trod_int Try.underlying2 g3
      simp only [List.cons.injEq, and_true] at h0 h1 h2 h3
      subst h0 h1 h2 h3
      exact ⟨⟨n0, n1, n2, n3⟩, rfl, w0, w1, w2, w3⟩
theorem openOs {fuel : Nat} {a : Option Addr} {len cap : Nat} {x : DataW H × List MemPlace} (h : DataW.trod enc Try.prog w base spare held fuel 22 [.slice a len cap] = some x) (hlt : ∀ y ∈ x.2, y.block < w.heap.size) : Ops w a len cap := by
  rcases open_slice Try.underlying22 h with ⟨hcs, _⟩ | ⟨y, l, c, m, n, D, Pl, hcs, _, hl, hm, hmm, hx, hi⟩
  · simp at hcs
    obtain ⟨rfl, rfl, rfl⟩ := hcs
    exact ⟨by omega, by unfold maxLen; omega, .inl rfl⟩
  · simp at hcs
    obtain ⟨rfl, rfl, rfl⟩ := hcs
    have hml : len ≤ m := by rw [hmm]; split <;> omega
    have hM : ∀ i, i < len → ∃ o : Oc, o.fits ∧ ∀ j, j < 4 → w.cell? ((y.add (i * 4)).add j) = [Value.int .i64 o.what, .int .i64 o.a, .int .i64 o.n, .int .i64 o.t][j]? := by
      intro i hilt
      obtain ⟨cs', hc, ht⟩ := hi i (by omega)
      rw [cellsO] at hc
      obtain ⟨o, rfl, wm⟩ := openO ht
      obtain ⟨_, _, hat⟩ := World.cells?_some hc
      exact ⟨o, wm, hat⟩
    refine ⟨hl, hm, ?_⟩
    by_cases h0 : len = 0
    · exact .inl h0
    · obtain ⟨b, off, spot⟩ := y
      have hspot : spot = none := by
        obtain ⟨o, _, hh⟩ := hM 0 (by omega)
        have := hh 0 (by omega)
        simp at this
        simpa [Addr.add] using World.cell?_spot this
      subst hspot
      have hbW : b < w.heap.size := by
        refine hlt (.cell b off) ?_
        rw [hx, cellsO]
        exact List.mem_append_left _ (MemPlace.mem_row.2 ⟨0, by omega, by simp⟩)
      refine .inr ⟨b, off, rfl, hbW, fun i hilt => ?_⟩
      obtain ⟨o, hf, hc⟩ := hM i hilt
      simp only [add_plain] at hc
      exact ⟨o, hf, hc 0 (by omega), hc 1 (by omega), hc 2 (by omega), hc 3 (by omega)⟩
theorem openNs {k : IntKind} {t e : TypeId} (ht : Try.prog.underlying t = some (.slice e)) (he : Try.prog.underlying e = some (.int k)) (hc : Try.prog.cellsOf e = 1) {fuel : Nat} {a : Option Addr} {len cap : Nat} {x : DataW H × List MemPlace} (h : DataW.trod enc Try.prog w base spare held fuel t [.slice a len cap] = some x) (hlt : ∀ y ∈ x.2, y.block < w.heap.size) : Nums k w a len cap := by
  rcases open_slice1 ht hc h with ⟨hcs, _⟩ | ⟨y, l, c, m, n, V, D, Pl, hcs, _, hl, hm, hmm, hx, hi⟩
  · simp at hcs
    obtain ⟨rfl, rfl, rfl⟩ := hcs
    exact ⟨by omega, by unfold maxLen; omega, .inl rfl⟩
  · simp at hcs
    obtain ⟨rfl, rfl, rfl⟩ := hcs
    have hml : len ≤ m := by rw [hmm]; split <;> omega
    refine ⟨hl, hm, ?_⟩
    by_cases h0 : len = 0
    · exact .inl h0
    · obtain ⟨b, off, spot⟩ := y
      have hspot : spot = none := by
        have := (hi 0 (by omega)).1
        simpa [Addr.add] using World.cell?_spot this
      subst hspot
      have hbW : b < w.heap.size := by
        refine hlt (.cell b off) ?_
        rw [hx]
        exact List.mem_append_left _ (MemPlace.mem_row.2 ⟨0, by omega, by simp⟩)
      refine .inr ⟨b, off, rfl, hbW, fun i hilt => ?_⟩
      obtain ⟨h1, h2⟩ := hi i (by omega)
      obtain ⟨z, hz, _, wz⟩ := DataW.trod_int he h2
      simp only [List.cons.injEq, and_true] at hz
      rw [hz, add_plain] at h1
      exact ⟨z, wz, h1⟩
end
/-- A box that holds a call. -/
def BoxO (w : World) (B : Nat) (o : Oc) : Prop := w.heap[B]? = some (.cells #[.int .i64 o.what, .int .i64 o.a, .int .i64 o.n, .int .i64 o.t] 38 (0, 0))
theorem BoxO.kept {X : Nat → Prop} {w w' : World} {B : Nat} {o : Oc} (h : BoxO w B o) (hk : KeptOff X w w') (hn : ¬ X B) : BoxO w' B o := (hk.block B (Array.getElem?_eq_some_iff.1 h).1 hn).trans h
theorem BoxO.c0 {w : World} {B : Nat} {o : Oc} (h : BoxO w B o) : w.cell? ⟨B, 0, none⟩ = some (.int .i64 o.what) := cell_of_block h rfl
theorem BoxO.c1 {w : World} {B : Nat} {o : Oc} (h : BoxO w B o) : w.cell? ⟨B, 1, none⟩ = some (.int .i64 o.a) := cell_of_block h rfl
theorem BoxO.c2 {w : World} {B : Nat} {o : Oc} (h : BoxO w B o) : w.cell? ⟨B, 2, none⟩ = some (.int .i64 o.n) := cell_of_block h rfl
theorem BoxO.c3 {w : World} {B : Nat} {o : Oc} (h : BoxO w B o) : w.cell? ⟨B, 3, none⟩ = some (.int .i64 o.t) := cell_of_block h rfl
set_option maxHeartbeats 1000000 in
theorem awake_any12 (w : World) : Calls Try.prog 9 #[] w fun e w' => e = .returned (.bool true) ∧ Below w.heap.size w w' := by
  have hst : Hid (∀ b S w1, Hid (TaAt w1 b S Col.Ta.new ∧ (∀ k, S k → w.heap.size ≤ k) ∧ Below w.heap.size w w1) → Calls Try.prog 12 #[.pointer (some ⟨b, 0, none⟩), .int .i64 5] w1 fun e w2 => e = .returned (.int .i64 0) ∧ Hid (Calls Try.prog 23 #[.pointer (some ⟨b, 0, none⟩)] w2 fun e w3 => e = .returned (.int .i64 5) ∧ Below w.heap.size w w3)) := Lib.hid (fun b S w1 h => by
    obtain ⟨h1, h2, h3⟩ := h.out
    refine (coSent_any h1 ⟨⟨by decide, by decide⟩, by decide, by decide⟩ 5).mono ?_
    rintro e w2 ⟨he, hq⟩
    obtain ⟨S', h4, h5⟩ := hq.out
    refine ⟨he, (coRed_any h4).mono ?_⟩
    rintro e w3 ⟨he3, h6⟩
    have hb2 := h3.trans (h5.1.below (fun k _ e => h2 k e) h3.size)
    exact ⟨he3, hb2.trans (h6.mono hb2.size)⟩)
  go_enter Try.func9, Try.ntmps9
  go_wp2_with (first
    | (go_at_call 10; refine (coNew_any w).mono ?_; rintro e w1 ⟨b, S, rfl, hM⟩; have hs := hst.out b S w1 hM)
    | (go_at_call 12; refine hs.mono ?_; rintro e w2 ⟨rfl, hr⟩)
    | (go_at_call 23; refine hr.out.mono ?_; rintro e w3 ⟨rfl, hb3⟩; have hb3' := Lib.hid hb3; clear hb3))
  go_ret
  exact ⟨rfl, hb3'.out⟩
end Go.Proofs.Ytobfjfmaicmkdaa
