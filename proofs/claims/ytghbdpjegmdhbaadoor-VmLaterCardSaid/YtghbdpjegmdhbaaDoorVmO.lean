/-
  Worlds, states, messages and instructions that can be read, as plain data; what the condition on the listed variables gives.
-/
import Derived.Test.YtghbdpjegmdhbaaDoorVmR2
import Derived.Test.YtghbdpjegmdhbaaDoorCards
import Derived.Test.YtghbdpjegmdhbaaDoorTie
import Derived.SizedLaws
import Derived.ShutString
import Derived.ChangeOld
import Derived.Deep.Slices
import Derived.Deep.Fields
import Derived.ChangeSame
import Derived.LaidMore
import Derived.LaidHandle
import Derived.Stop.LaidErr
import Derived.Stop.Joined
import Derived.Lib.LaidTab
import Derived.SevenTiedAt
import Derived.OpenShut
namespace Go.Proofs.YtghbdpjegmdhbaaDoor
open Go.ChangeShapes Go.WideShapes Go.ChangeAt Go.RowKit Go.Sort Go.Deep
set_option linter.unusedVariables false
set_option maxRecDepth 100000

theorem cellsN : Tryd.prog.cellsOf 3 = 1 := by kernel_rfl
theorem cellsL : Tryd.prog.cellsOf 2 = 1 := by kernel_rfl
theorem cellsBo : Tryd.prog.cellsOf 4 = 1 := by kernel_rfl
theorem cellsU64 : Tryd.prog.cellsOf 24 = 1 := by kernel_rfl
theorem cellsI : Tryd.prog.cellsOf 56 = 4 := by kernel_rfl
theorem bytesI : Tryd.prog.bytesOf 56 = 32 := by kernel_rfl
theorem cellsK : Tryd.prog.cellsOf 31 = 3 := by kernel_rfl
theorem cellsM : Tryd.prog.cellsOf 33 = 7 := by kernel_rfl
theorem cellsLk : Tryd.prog.cellsOf 49 = 4 := by kernel_rfl
theorem cellsW : Tryd.prog.cellsOf 26 = 4 := by kernel_rfl
theorem cellsSt : Tryd.prog.cellsOf 29 = 10 := by kernel_rfl
theorem cellsR8 : Tryd.prog.cellsOf 27 = 8 := by kernel_rfl
theorem cellsSl : Tryd.prog.cellsOf 22 = 1 := by kernel_rfl
theorem cellsSk : Tryd.prog.cellsOf 23 = 1 := by kernel_rfl
theorem own : ownKnob Tryd.prog.godebug = none := by kernel_rfl
theorem laidOut : laidOutB Tryd.prog = true := by kernel_rfl
theorem wf_i64 {n : Int} (h : (Lit.int .i64 n).wf = true) : In64 n := by
  simp [Lit.wf, IntKind.min, IntKind.max, IntKind.signed, IntKind.bits] at h
  unfold In64
  omega
theorem wf_u64 {n : Int} (h : (Lit.int .u64 n).wf = true) : 0 ≤ n ∧ n < 18446744073709551616 := by
  simp [Lit.wf, IntKind.min, IntKind.max, IntKind.signed, IntKind.bits] at h
  omega

section
variable {H : Type} {enc : TypeId × Value → H} {w : World} {base : Nat} {spare : Nat → Bool} {held : Bool}

set_option maxRecDepth 100000 in
theorem openI {fuel : Nat} {cs : List Value} {x : DataW H × List MemPlace} (h : DataW.trod enc Tryd.prog w base spare held fuel 56 cs = some x) :
    ∃ i : I, cs = i.cells.toList ∧ i.fits := by
  obtain ⟨xs, n, _, _, hlen, hxl, hg⟩ := DataW.trod_struct Tryd.underlying56 h
  have hc : cs.length = 4 := hlen.trans cellsI
  match cs, hc with
  | [c0, c1, c2, c3], _ =>
    match xs, hxl with
    | [y0, y1, y2, y3], _ =>
      have g0 := hg 0 _ rfl
      have g1 := hg 1 _ rfl
      have g2 := hg 2 _ rfl
      have g3 := hg 3 _ rfl
      simp [cellsN] at g0 g1 g2 g3
      obtain ⟨n0, h0, _, w0⟩ := DataW.trod_int Tryd.underlying3 g0
      obtain ⟨n1, h1, _, w1⟩ := DataW.trod_int Tryd.underlying3 g1
      obtain ⟨n2, h2, _, w2⟩ := DataW.trod_int Tryd.underlying3 g2
      obtain ⟨n3, h3, _, w3⟩ := DataW.trod_int Tryd.underlying3 g3
      simp only [List.cons.injEq, and_true] at h0 h1 h2 h3
      subst h0 h1 h2 h3
      exact ⟨⟨n0, n1, n2, n3⟩, rfl, w0, w1, w2, w3⟩
theorem openK {fuel : Nat} {cs : List Value} {x : DataW H × List MemPlace} (h : DataW.trod enc Tryd.prog w base spare held fuel 31 cs = some x) :
    ∃ k : K, cs = [.int .i64 k.t, .int .i64 k.f, .int .i64 k.s] := by
  obtain ⟨xs, n, _, _, hlen, hxl, hg⟩ := DataW.trod_struct Tryd.underlying31 h
  have hc : cs.length = 3 := hlen.trans cellsK
  match cs, hc with
  | [c0, c1, c2], _ =>
    match xs, hxl with
    | [y0, y1, y2], _ =>
      have g0 := hg 0 _ rfl
      have g1 := hg 1 _ rfl
      have g2 := hg 2 _ rfl
      simp [cellsL, cellsN] at g0 g1 g2
      obtain ⟨n0, h0, _, w0⟩ := DataW.trod_int Tryd.underlying2 g0
      obtain ⟨n1, h1, _, w1⟩ := DataW.trod_int Tryd.underlying3 g1
      obtain ⟨n2, h2, _, w2⟩ := DataW.trod_int Tryd.underlying3 g2
      simp only [List.cons.injEq, and_true] at h0 h1 h2
      subst h0 h1 h2
      exact ⟨⟨n0, n1, n2⟩, rfl⟩
theorem openM {fuel : Nat} {cs : List Value} {x : DataW H × List MemPlace} (h : DataW.trod enc Tryd.prog w base spare held fuel 33 cs = some x) :
    ∃ m : M, cs = [.int .i64 m.k.t, .int .i64 m.k.f, .int .i64 m.k.s, .int .i64 m.to, .int .i64 m.v, .int .i64 m.u, .bool m.anti] ∧ In64 m.v := by
  obtain ⟨xs, n, _, _, hlen, hxl, hg⟩ := DataW.trod_struct Tryd.underlying33 h
  have hc : cs.length = 7 := hlen.trans cellsM
  match cs, hc with
  | [c0, c1, c2, c3, c4, c5, c6], _ =>
    match xs, hxl with
    | [y0, y1, y2, y3, y4], _ =>
      have g0 := hg 0 _ rfl
      have g1 := hg 1 _ rfl
      have g2 := hg 2 _ rfl
      have g3 := hg 3 _ rfl
      have g4 := hg 4 _ rfl
      simp [cellsL, cellsN, cellsBo, cellsK] at g0 g1 g2 g3 g4
      obtain ⟨k, hk⟩ := openK g0
      obtain ⟨n1, h1, _, w1⟩ := DataW.trod_int Tryd.underlying3 g1
      obtain ⟨n2, h2, _, w2⟩ := DataW.trod_int Tryd.underlying2 g2
      obtain ⟨n3, h3, _, w3⟩ := DataW.trod_int Tryd.underlying3 g3
      obtain ⟨b4, h4, _⟩ := DataW.trod_bool Tryd.underlying4 g4
      simp only [List.cons.injEq, and_true] at hk h1 h2 h3 h4
      obtain ⟨rfl, rfl, rfl⟩ := hk
      subst h1 h2 h3 h4
      exact ⟨⟨k, n1, n2, n3, b4⟩, rfl, wf_i64 w2⟩
theorem openMarg {r : Reach} {b0 : Nat} {v : Value} {d : DataW H} {p : List MemPlace} (hv : Value.okWide Tryd.prog w r b0 33 v) (h : DataW.Trod enc Tryd.prog w base spare held 33 v d p) : ∃ m : M, v = m.val ∧ In64 m.v := by
  obtain ⟨cs, rfl, _⟩ := okWide_struct Tryd.underlying33 hv
  obtain ⟨fuel, hf⟩ := h
  obtain ⟨m, hm, wm⟩ := openM hf
  refine ⟨m, ?_, wm⟩
  obtain ⟨l⟩ := cs
  simp [Value.cells] at hm
  rw [hm]
  rfl
theorem openLk {fuel : Nat} {cs : List Value} {x : DataW H × List MemPlace} (h : DataW.trod enc Tryd.prog w base spare held fuel 49 cs = some x) :
    ∃ l : Lk, cs = l.cells.toList := by
  obtain ⟨xs, n, _, _, hlen, hxl, hg⟩ := DataW.trod_struct Tryd.underlying49 h
  have hc : cs.length = 4 := hlen.trans cellsLk
  match cs, hc with
  | [c0, c1, c2, c3], _ =>
    match xs, hxl with
    | [y0, y1, y2, y3], _ =>
      have g0 := hg 0 _ rfl
      have g1 := hg 1 _ rfl
      have g2 := hg 2 _ rfl
      have g3 := hg 3 _ rfl
      simp [cellsN, cellsL, cellsBo] at g0 g1 g2 g3
      obtain ⟨n0, h0, _, w0⟩ := DataW.trod_int Tryd.underlying3 g0
      obtain ⟨n1, h1, _, w1⟩ := DataW.trod_int Tryd.underlying3 g1
      obtain ⟨n2, h2, _, w2⟩ := DataW.trod_int Tryd.underlying2 g2
      obtain ⟨b3, h3, _⟩ := DataW.trod_bool Tryd.underlying4 g3
      simp only [List.cons.injEq, and_true] at h0 h1 h2 h3
      subst h0 h1 h2 h3
      exact ⟨⟨n0, n1, n2, b3⟩, rfl⟩
theorem openIs {fuel : Nat} {a : Option Addr} {len cap : Nat} {x : DataW H × List MemPlace} (h : DataW.trod enc Tryd.prog w base spare held fuel 22 [.slice a len cap] = some x) (hlt : ∀ y ∈ x.2, y.block < w.heap.size) :
    ∃ is : List I, Inss w a len cap is := by
  rcases open_slice Tryd.underlying22 h with ⟨hcs, _⟩ | ⟨y, l, c, m, n, D, Pl, hcs, _, hl, hm, hmm, hx, hi⟩
  · simp at hcs
    obtain ⟨rfl, rfl, rfl⟩ := hcs
    exact ⟨[], rfl, by omega, by unfold maxLen; omega, by simp, .inl rfl⟩
  · simp at hcs
    obtain ⟨rfl, rfl, rfl⟩ := hcs
    have hml : len ≤ m := by rw [hmm]; split <;> omega
    have hM : ∀ i, i < len → ∃ mm : I, mm.fits ∧ ∀ j, j < 4 → w.cell? ((y.add (i * 4)).add j) = mm.cells.toList[j]? := by
      intro i hilt
      obtain ⟨cs', hc, ht⟩ := hi i (by omega)
      rw [cellsI] at hc
      obtain ⟨mm, rfl, wm⟩ := openI ht
      obtain ⟨_, _, hat⟩ := World.cells?_some hc
      exact ⟨mm, wm, hat⟩
    refine ⟨(List.range len).map fun i => if hilt : i < len then (hM i hilt).choose else default, by simp, hl, hm, ?_, ?_⟩
    · intro mm hmem
      simp only [List.mem_map, List.mem_range] at hmem
      obtain ⟨i, hilt, rfl⟩ := hmem
      rw [dif_pos hilt]
      exact (hM i hilt).choose_spec.1
    · by_cases h0 : len = 0
      · exact .inl h0
      · obtain ⟨b, off, spot⟩ := y
        have hspot : spot = none := by
          have := (hM 0 (by omega)).choose_spec.2 0 (by omega)
          simp [I.cells] at this
          simpa [Addr.add] using World.cell?_spot this
        subst hspot
        have hbW : b < w.heap.size := by
          refine hlt (.cell b off) ?_
          rw [hx, cellsI]
          exact List.mem_append_left _ (MemPlace.mem_row.2 ⟨0, by omega, by simp⟩)
        refine .inr ⟨b, off, rfl, fun i hilt => ?_⟩
        have hc := (hM i hilt).choose_spec.2
        have hg : ((List.range len).map fun i => if hilt : i < len then (hM i hilt).choose else default).getD i default = (hM i hilt).choose := by
          simp [List.getD_eq_getElem?_getD, hilt]
        rw [hg]
        generalize (hM i hilt).choose = mm at hc
        simp only [add_plain] at hc
        exact ⟨hbW, hc 0 (by omega), hc 1 (by omega), hc 2 (by omega), hc 3 (by omega)⟩
theorem openIs_len {ts : List TypeId} {ds : List (DataW H)} (h : (DataW.weightsEach Tryd.prog ts ds).all (· ≤ reachBytes) = true) {j : Nat} {d : DataW H} {a : Option Addr} {len cap : Nat} {p : List MemPlace} (ht : ts[j]? = some 22) (hd : ds[j]? = some d)
    (hk : DataW.Trod enc Tryd.prog w base spare held 22 (.slice a len cap) d p) : len * 32 ≤ 140737488351232 := by
  obtain ⟨fuel, hf⟩ := hk
  simp [Value.cells] at hf
  rcases open_slice Tryd.underlying22 hf with ⟨hcs, _⟩ | ⟨y, l, c, m, n, D, Pl, hcs, _, hl, hm, hmm, hx, hi⟩
  · simp at hcs
    omega
  · simp at hcs
    obtain ⟨rfl, rfl, rfl⟩ := hcs
    simp only [Prod.mk.injEq] at hx
    have := sized_slice h ht (hd.trans (by rw [hx.1])) Tryd.underlying22
    rw [bytesI] at this
    simp only [List.length_map, List.length_range, reachBytes] at this
    omega
theorem openLs {fuel : Nat} {a : Option Addr} {len cap : Nat} {x : DataW H × List MemPlace} (h : DataW.trod enc Tryd.prog w base spare held fuel 23 [.slice a len cap] = some x) (hlt : ∀ y ∈ x.2, y.block < w.heap.size) :
    ∃ ls : List Lk, Lks w a len cap ls := by
  rcases open_slice Tryd.underlying23 h with ⟨hcs, _⟩ | ⟨y, l, c, m, n, D, Pl, hcs, _, hl, hm, hmm, hx, hi⟩
  · simp at hcs
    obtain ⟨rfl, rfl, rfl⟩ := hcs
    exact ⟨[], rfl, by omega, by unfold maxLen; omega, .inl rfl⟩
  · simp at hcs
    obtain ⟨rfl, rfl, rfl⟩ := hcs
    have hml : len ≤ m := by rw [hmm]; split <;> omega
    have hM : ∀ i, i < len → ∃ mm : Lk, ∀ j, j < 4 → w.cell? ((y.add (i * 4)).add j) = mm.cells.toList[j]? := by
      intro i hilt
      obtain ⟨cs', hc, ht⟩ := hi i (by omega)
      rw [cellsLk] at hc
      obtain ⟨mm, rfl⟩ := openLk ht
      obtain ⟨_, _, hat⟩ := World.cells?_some hc
      exact ⟨mm, hat⟩
    refine ⟨(List.range len).map fun i => if hilt : i < len then (hM i hilt).choose else default, by simp, hl, hm, ?_⟩
    by_cases h0 : len = 0
    · exact .inl h0
    · obtain ⟨b, off, spot⟩ := y
      have hspot : spot = none := by
        have := (hM 0 (by omega)).choose_spec 0 (by omega)
        simp [Lk.cells] at this
        simpa [Addr.add] using World.cell?_spot this
      subst hspot
      have hbW : b < w.heap.size := by
        refine hlt (.cell b off) ?_
        rw [hx, cellsLk]
        exact List.mem_append_left _ (MemPlace.mem_row.2 ⟨0, by omega, by simp⟩)
      refine .inr ⟨b, off, rfl, fun i hilt => ?_⟩
      have hc := (hM i hilt).choose_spec
      have hg : ((List.range len).map fun i => if hilt : i < len then (hM i hilt).choose else default).getD i default = (hM i hilt).choose := by
        simp [List.getD_eq_getElem?_getD, hilt]
      rw [hg]
      generalize (hM i hilt).choose = mm at hc
      simp only [add_plain] at hc
      exact ⟨hbW, hc 0 (by omega), hc 1 (by omega), hc 2 (by omega), hc 3 (by omega)⟩
theorem trod_sl {t e : TypeId} (ht : Tryd.prog.underlying t = some (.slice e)) {fuel : Nat} {c : Value} {x : DataW H × List MemPlace} (h : DataW.trod enc Tryd.prog w base spare held fuel t [c] = some x) : ∃ a len cap, c = .slice a len cap := by
  rcases open_slice ht h with ⟨hcs, _⟩ | ⟨y, l, c', m, n, D, Pl, hcs, _⟩
  · simp at hcs
    exact ⟨_, _, _, hcs⟩
  · simp at hcs
    exact ⟨_, _, _, hcs⟩
theorem openW {fuel : Nat} {cs : List Value} {x : DataW H × List MemPlace} (h : DataW.trod enc Tryd.prog w base spare held fuel 26 cs = some x) (hlt : ∀ y ∈ x.2, y.block < w.heap.size) :
    ∃ (v : Wv) (W : Wd), cs = [.slice v.pa v.pl v.pc, .int .i64 W.self, .slice v.la v.ll v.lc, .int .u64 W.seed] ∧ Wds w v W := by
  obtain ⟨xs, n, _, hx, hlen, hxl, hg⟩ := DataW.trod_struct Tryd.underlying26 h
  have hc : cs.length = 4 := hlen.trans cellsW
  match cs, hc with
  | [c0, c1, c2, c3], _ =>
    match xs, hxl with
    | [y0, y1, y2, y3], _ =>
      have g0 := hg 0 _ rfl
      have g1 := hg 1 _ rfl
      have g2 := hg 2 _ rfl
      have g3 := hg 3 _ rfl
      simp [cellsSl, cellsSk, cellsN, cellsU64] at g0 g1 g2 g3
      obtain ⟨pa, pl, pc, rfl⟩ := trod_sl Tryd.underlying22 g0
      obtain ⟨n1, h1, _, w1⟩ := DataW.trod_int Tryd.underlying3 g1
      obtain ⟨la, ll, lc, rfl⟩ := trod_sl Tryd.underlying23 g2
      obtain ⟨n3, h3, _, w3⟩ := DataW.trod_int Tryd.underlying24 g3
      simp only [List.cons.injEq, and_true] at h1 h3
      subst h1 h3
      have hx2 : x.2 = y0.2 ++ (y1.2 ++ (y2.2 ++ (y3.2 ++ []))) := by rw [hx]; simp
      obtain ⟨is, hI⟩ := openIs g0 (fun y hy => hlt y (by rw [hx2]; simp [hy]))
      obtain ⟨ls, hL⟩ := openLs g2 (fun y hy => hlt y (by rw [hx2]; simp [hy]))
      have w3' := wf_u64 w3
      obtain ⟨sd, rfl⟩ := Int.eq_ofNat_of_zero_le w3'.1
      exact ⟨⟨pa, pl, pc, la, ll, lc⟩, ⟨is, n1, ls, sd⟩, rfl, hI, hL, by simp only; omega, w1⟩
theorem openWarg {r : Reach} {b0 : Nat} {v : Value} {d : DataW H} {p : List MemPlace} (hv : Value.okWide Tryd.prog w r b0 26 v) (h : DataW.Trod enc Tryd.prog w base spare held 26 v d p) (hlt : ∀ y ∈ p, y.block < w.heap.size) : ∃ (u : Wv) (W : Wd), v = u.val W ∧ Wds w u W := by
  obtain ⟨cs, rfl, _⟩ := okWide_struct Tryd.underlying26 hv
  obtain ⟨fuel, hf⟩ := h
  obtain ⟨u, W, hm, hW⟩ := openW hf hlt
  refine ⟨u, W, ?_, hW⟩
  obtain ⟨l⟩ := cs
  simp [Value.cells] at hm
  rw [hm]
  rfl
theorem openR8 {fuel : Nat} {cs : List Value} {x : DataW H × List MemPlace} (h : DataW.trod enc Tryd.prog w base spare held fuel 27 cs = some x) :
    ∃ r : List Int, cs = r.map (Value.int .i64 ·) ∧ r.length = 8 ∧ ∀ z ∈ r, In64 z := by
  obtain ⟨xs, n, _, hx, hlen, hl, hel⟩ := DataW.trod_array Tryd.underlying27 h
  have hc : cs.length = 8 := hlen.trans cellsR8
  match cs, hc with
  | [c0, c1, c2, c3, c4, c5, c6, c7], _ =>
    match xs, hl with
    | [y0, y1, y2, y3, y4, y5, y6, y7], _ =>
      have g0 := hel 0 (by omega)
      have g1 := hel 1 (by omega)
      have g2 := hel 2 (by omega)
      have g3 := hel 3 (by omega)
      have g4 := hel 4 (by omega)
      have g5 := hel 5 (by omega)
      have g6 := hel 6 (by omega)
      have g7 := hel 7 (by omega)
      simp [cellsL] at g0 g1 g2 g3 g4 g5 g6 g7
      obtain ⟨n0, h0, _, w0⟩ := DataW.trod_int Tryd.underlying2 g0
      obtain ⟨n1, h1, _, w1⟩ := DataW.trod_int Tryd.underlying2 g1
      obtain ⟨n2, h2, _, w2⟩ := DataW.trod_int Tryd.underlying2 g2
      obtain ⟨n3, h3, _, w3⟩ := DataW.trod_int Tryd.underlying2 g3
      obtain ⟨n4, h4, _, w4⟩ := DataW.trod_int Tryd.underlying2 g4
      obtain ⟨n5, h5, _, w5⟩ := DataW.trod_int Tryd.underlying2 g5
      obtain ⟨n6, h6, _, w6⟩ := DataW.trod_int Tryd.underlying2 g6
      obtain ⟨n7, h7, _, w7⟩ := DataW.trod_int Tryd.underlying2 g7
      simp only [List.cons.injEq, and_true] at h0 h1 h2 h3 h4 h5 h6 h7
      subst h0 h1 h2 h3 h4 h5 h6 h7
      refine ⟨[n0, n1, n2, n3, n4, n5, n6, n7], rfl, rfl, fun z hz => ?_⟩
      simp only [List.mem_cons, List.not_mem_nil, or_false] at hz
      rcases hz with rfl | rfl | rfl | rfl | rfl | rfl | rfl | rfl
      · exact wf_i64 w0
      · exact wf_i64 w1
      · exact wf_i64 w2
      · exact wf_i64 w3
      · exact wf_i64 w4
      · exact wf_i64 w5
      · exact wf_i64 w6
      · exact wf_i64 w7
theorem openS {fuel : Nat} {cs : List Value} {x : DataW H × List MemPlace} (h : DataW.trod enc Tryd.prog w base spare held fuel 29 cs = some x) :
    ∃ s : Sta, cs = s.r.map (Value.int .i64 ·) ++ [Value.int .i64 s.d, Value.int .i64 s.s] ∧ s.r.length = 8 ∧ (∀ z ∈ s.r, In64 z) ∧ In64 s.d ∧ In64 s.s := by
  obtain ⟨xs, n, _, _, hlen, hxl, hg⟩ := DataW.trod_struct Tryd.underlying29 h
  have hc : cs.length = 10 := hlen.trans cellsSt
  match cs, hc with
  | [c0, c1, c2, c3, c4, c5, c6, c7, c8, c9], _ =>
    match xs, hxl with
    | [y0, y1, y2], _ =>
      have g0 := hg 0 _ rfl
      have g1 := hg 1 _ rfl
      have g2 := hg 2 _ rfl
      simp [cellsR8, cellsN] at g0 g1 g2
      obtain ⟨r, hr, hrl, hrz⟩ := openR8 g0
      obtain ⟨n1, h1, _, w1⟩ := DataW.trod_int Tryd.underlying3 g1
      obtain ⟨n2, h2, _, w2⟩ := DataW.trod_int Tryd.underlying3 g2
      simp only [List.cons.injEq, and_true] at h1 h2
      subst h1 h2
      refine ⟨⟨r, n1, n2⟩, ?_, hrl, hrz, wf_i64 w1, wf_i64 w2⟩
      show [c0, c1, c2, c3, c4, c5, c6, c7] ++ [Value.int .i64 n1, Value.int .i64 n2] = _
      rw [hr]
theorem openSarg {r : Reach} {b0 : Nat} {v : Value} {d : DataW H} {p : List MemPlace} (hv : Value.okWide Tryd.prog w r b0 29 v) (h : DataW.Trod enc Tryd.prog w base spare held 29 v d p) : ∃ s : Sta, v = s.val ∧ s.r.length = 8 ∧ (∀ z ∈ s.r, In64 z) ∧ In64 s.d ∧ In64 s.s := by
  obtain ⟨cs, rfl, _⟩ := okWide_struct Tryd.underlying29 hv
  obtain ⟨fuel, hf⟩ := h
  obtain ⟨s, hm, hs⟩ := openS hf
  refine ⟨s, ?_, hs⟩
  obtain ⟨l⟩ := cs
  simp [Value.cells] at hm
  rw [hm]
  rfl
end

/-! What the condition on the listed variables gives. -/
theorem gErrNamed : Tryd.prog.globalNamed "isochron/code.errCannotBe" = some 0 := by kernel_rfl
theorem gTypNamed : Tryd.prog.globalNamed "errors.errorType" = some 1 := by kernel_rfl
theorem tErrV : (Tryd.prog.globals[0]?).map (·.type) = some 86 := by kernel_rfl
theorem rtypeT : (Tryd.prog.cutTypes.find? (·.1 == "internal/reflectlite.rtype")).map (·.2) = some 130 := by kernel_rfl
theorem nTypes : Tryd.prog.types.size = 194 := by kernel_rfl
theorem oneRow : ((List.range 194).filter fun t => Tryd.prog.rowNamed t [101, 114, 114, 111, 114]) = [86] := by kernel_rfl
theorem starE : "*" ++ "errors.errorString" = "*errors.errorString" := by decide
theorem rowE (u : TypeId) (h : Tryd.prog.typeName? 3 u = some "*errors.errorString") : u = 160 :=
  typeName_ptr_named (nm := "errors.errorString") (by rw [starE]; kernel_rfl) (by kernel_rfl) (by decide) u (by rw [starE]; exact h)
theorem cellsES : Tryd.prog.cellsOf 182 = 1 := by kernel_rfl
theorem cellsS : Tryd.prog.cellsOf 9 = 1 := by kernel_rfl
abbrev laid5 : List (String × DataW Unit) := Rows.vmChecksRow.laid
theorem of_laid5 {W : World} (h : laidMetH Tryd.prog laid5 W) : ErrT W ∧ ∃ eb, ErrIs W eb := by
  have h' : laidMet Tryd.prog [("isochron/code.errCannotBe", Rows.laid_isochron_code_errCannotBe)] W ∧ handlesMet Tryd.prog [("errors.errorType", Rows.laid_errors_errorType)] W := h
  obtain ⟨h1, h2⟩ := h'
  constructor
  · obtain ⟨name, u, ty, e1, e2, e3, e4, e5⟩ := h2 _ (List.mem_singleton.2 rfl)
    have en : name = [101, 114, 114, 111, 114] := (Option.some.inj e1).symm
    subst en
    obtain rfl := Option.some.inj (rtypeT.symm.trans e2)
    have hm : ty ∈ (List.range 194).filter fun t => Tryd.prog.rowNamed t [101, 114, 114, 111, 114] := List.mem_filter.2 ⟨List.mem_range.2 (by rw [← nTypes]; exact e3), e4⟩
    rw [oneRow] at hm
    obtain rfl := List.mem_singleton.1 hm
    have hh : typeHandle Tryd.prog 86 = .pointer (some ⟨2, 86, none⟩) := by kernel_rfl
    rw [hh] at e5
    have hc : W.cell? ⟨1, 0, none⟩ = some (.iface 130 (.agg #[.pointer (some ⟨2, 86, none⟩)])) := by simpa using World.var?_cell gTypNamed e5 0
    exact ⟨World.block_lt_of_cell? W _ hc, hc⟩
  · obtain ⟨eb, s, hv, _⟩ := laid_sentinel h1 gErrNamed tErrV Tryd.underlying86 rowE Tryd.underlying160 Tryd.underlying182 rfl rfl Tryd.underlying9 cellsES cellsS
    have hc : W.cell? ⟨0, 0, none⟩ = some (.iface 160 (.pointer (some eb))) := by simpa using World.var?_cell gErrNamed hv 0
    exact ⟨eb, World.block_lt_of_cell? W _ hc, hc⟩
theorem door5 (os : Os) (args : Array Value) : laidMetH Tryd.prog laid5 ((World.doorLaid Tryd.prog 35 os).forCall (fun _ _ => 0) ⟨#[], args, []⟩).memory :=
  laidMetH_of_parts3 (fuel := 8) (laidMet_of_run' 8 (by kernel_rfl) (by kernel_rfl)) (by kernel_rfl) (by kernel_rfl)
end Go.Proofs.YtghbdpjegmdhbaaDoor
